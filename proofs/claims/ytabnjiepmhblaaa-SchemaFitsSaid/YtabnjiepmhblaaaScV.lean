/- Rows of values in memory; which rows fit a schema. -/
import Derived.Test.YtabnjiepmhblaaaScK
import Derived.Test.YtabnjiepmhblaaaValR
import Derived.Test.YtabnjiepmhblaaaRegB
import Derived.BigQuiet
namespace Go.Proofs.Ytabnjiepmhblaaa
open Go.RowKit Go.Shelf Go.Maps
set_option linter.unusedVariables false

structure Vl where
  kind : Int
  num : Int
  text : ByteArray
  bound : text.size ≤ maxLen
  lo : -9223372036854775808 ≤ num
  hi : num ≤ 9223372036854775807
def vlV (v : Vl) : Value := .agg #[.int .i64 v.kind, .int .i64 v.num, .string v.text]
def vlC (v : Vl) : List Value := [.int .i64 v.kind, .int .i64 v.num, .string v.text]
def vlR (v : Vl) : Bool := rightB v.kind v.num v.text.toList
def VlAt (w : World) (b o : Nat) (v : Vl) : Prop := w.cell? ⟨b, o, none⟩ = some (.int .i64 v.kind) ∧ w.cell? ⟨b, o + 1, none⟩ = some (.int .i64 v.num) ∧ w.cell? ⟨b, o + 2, none⟩ = some (.string v.text)
/-- The slice at A holds the values l. -/
def Vls (w : World) (A : Option Addr) (l : List Vl) : Prop := ∀ k (h : k < l.length), ∃ b o, A = some ⟨b, o, none⟩ ∧ VlAt w b (o + k * 3) l[k]
theorem VlAt.lt {w : World} {b o : Nat} {c : Vl} (h : VlAt w b o c) : b < w.heap.size := World.block_lt_of_cell? w _ h.1
theorem VlAt.keep {w w' : World} {b o n : Nat} {c : Vl} (h : VlAt w b o c) (hb : Below n w w') (hn : b < n) : VlAt w' b o c :=
  ⟨(hb.cell (p := ⟨b, o, none⟩) hn).trans h.1, (hb.cell (p := ⟨b, o + 1, none⟩) hn).trans h.2.1, (hb.cell (p := ⟨b, o + 2, none⟩) hn).trans h.2.2⟩
theorem Vls.keep {w w' : World} {A : Option Addr} {l : List Vl} (h : Vls w A l) (hb : Below w.heap.size w w') : Vls w' A l := by
  intro k hk
  obtain ⟨b, o, e, hc⟩ := h k hk
  exact ⟨b, o, e, hc.keep hb hc.lt⟩
theorem cell_below {w W : World} (hW : Below w.heap.size w W) {p : Addr} {v : Value} (h : w.cell? p = some v) : W.cell? p = some v := (hW.cell (World.block_lt_of_cell? w _ h)).trans h
/-- A value fits a column. -/
def vfit (c : Col) (v : Vl) : Bool := vlR v && (decide (v.kind = c.kind) || (decide (v.kind = 0) && c.null))
def fitsL (l : List Col) (r : List Vl) : Bool := decide (r.length = l.length) && (List.zip l r).all fun p => vfit p.1 p.2
theorem fitsL_no {l : List Col} {r : List Vl} (h : r.length ≠ l.length) : fitsL l r = false := by
  unfold fitsL
  rw [decide_eq_false h]; rfl
theorem fitsL_bad {l : List Col} {r : List Vl} {k : Nat} (h1 : k < l.length) (h2 : k < r.length) (h : vfit l[k] r[k] = false) : fitsL l r = false := by
  rw [Bool.eq_false_iff]
  unfold fitsL
  rw [ne_eq, Bool.and_eq_true, List.all_eq_true]
  rintro ⟨_, hall⟩
  have := hall (l[k], r[k]) (by rw [← List.getElem_zip (i := k) (h := by simp; omega)]; exact List.getElem_mem _)
  rw [h] at this
  cases this
theorem fitsL_good {l : List Col} {r : List Vl} (hn : r.length = l.length) (h : ∀ k (h1 : k < l.length) (h2 : k < r.length), vfit l[k] r[k] = true) : fitsL l r = true := by
  unfold fitsL
  rw [decide_eq_true hn, Bool.true_and, List.all_eq_true]
  intro p hp
  obtain ⟨i, hi, rfl⟩ := List.getElem_of_mem hp
  rw [List.getElem_zip]
  exact h i (by simp at hi; omega) (by simp at hi; omega)
/-- The step of a walk over both. -/
theorem fits_step {l : List Col} {r : List Vl} {k : Nat} (h1 : k < l.length) (h2 : k < r.length) (hv : vfit l[k] r[k] = true) (h : ∀ j (a : j < l.length) (b : j < r.length), j < k → vfit l[j] r[j] = true) :
    ∀ j (a : j < l.length) (b : j < r.length), j < k + 1 → vfit l[j] r[j] = true := by
  intro j a b hj
  by_cases e : j = k
  · subst e; exact hv
  · exact h j a b (by omega)
end Go.Proofs.Ytabnjiepmhblaaa
