/- Values in memory. -/
import Derived.Test.YtfgmdaemcaamiaaDoorOrd
import Derived.Test.YtfgmdaemcaamiaaDoorMem
namespace Go.Proofs.YtfgmdaemcaamiaaDoor
open Go.RowKit
set_option linter.unusedVariables false

/-- A value. -/
structure Vl where
  kind : Int
  num : Int
  text : ByteArray
  bound : text.size ≤ maxLen
  lo : -9223372036854775808 ≤ num
  hi : num ≤ 9223372036854775807
def vlV (v : Vl) : Value := .agg #[.int .i64 v.kind, .int .i64 v.num, .string v.text]
def vlC (v : Vl) : List Value := [.int .i64 v.kind, .int .i64 v.num, .string v.text]
def vlR (v : Vl) : Bool := rightB v.kind v.num v.text.toList
def VlAt (w : World) (b o : Nat) (v : Vl) : Prop := w.cell? ⟨b, o, none⟩ = some (.int .i64 v.kind) ∧ w.cell? ⟨b, o + 1, none⟩ = some (.int .i64 v.num) ∧ w.cell? ⟨b, o + 2, none⟩ = some (.string v.text)
/-- The slice at A holds the values l. -/
def Vls (w : World) (A : Option Addr) (l : List Vl) : Prop := ∀ k (h : k < l.length), ∃ b o, A = some ⟨b, o, none⟩ ∧ VlAt w b (o + k * 3) l[k]
theorem VlAt.lt {w : World} {b o : Nat} {c : Vl} (h : VlAt w b o c) : b < w.heap.size := World.block_lt_of_cell? w _ h.1
theorem VlAt.keep {w w' : World} {b o n : Nat} {c : Vl} (h : VlAt w b o c) (hb : Below n w w') (hn : b < n) : VlAt w' b o c :=
  ⟨(hb.cell (p := ⟨b, o, none⟩) hn).trans h.1, (hb.cell (p := ⟨b, o + 1, none⟩) hn).trans h.2.1, (hb.cell (p := ⟨b, o + 2, none⟩) hn).trans h.2.2⟩
theorem Vls.keep {w w' : World} {A : Option Addr} {l : List Vl} (h : Vls w A l) (hb : Below w.heap.size w w') : Vls w' A l := by
  intro k hk
  obtain ⟨b, o, e, hc⟩ := h k hk
  exact ⟨b, o, e, hc.keep hb hc.lt⟩
theorem cell_below {w W : World} (hW : Below w.heap.size w W) {p : Addr} {v : Value} (h : w.cell? p = some v) : W.cell? p = some v := (hW.cell (World.block_lt_of_cell? w _ h)).trans h
end Go.Proofs.YtfgmdaemcaamiaaDoor
