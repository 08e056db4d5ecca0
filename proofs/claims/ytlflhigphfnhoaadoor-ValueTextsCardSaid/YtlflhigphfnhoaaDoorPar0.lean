/- The walk of value.Parse (20). -/
import Derived.Test.YtlflhigphfnhoaaDoorPText
import Derived.Test.YtlflhigphfnhoaaDoorShowI
import Derived.Test.YtlflhigphfnhoaaDoorShP
import Derived.Lib.AtoiErrMem
namespace Go.Proofs.YtlflhigphfnhoaaDoor
open Go.RowKit
set_option linter.unusedVariables false

/-- What a text says: a value, or none. -/
def parO (s : ByteArray) : Option (Int × Int × ByteArray) :=
  if s.toList = [110, 117, 108, 108] then some (0, 0, ⟨#[]⟩) else if s.toList = [102, 97, 108, 115, 101] then some (2, 0, ⟨#[]⟩) else if s.toList = [116, 114, 117, 101] then some (2, 1, ⟨#[]⟩)
  else if s.toList.head? = some 39 then (match ptO s with | some t => some (3, 0, t) | none => none)
  else (match Lib.parseIntB 64 s.data.toList with | .ok v => if Lib.itoa v = s.toList then some (1, v, ⟨#[]⟩) else none | _ => none)
def parR (s : ByteArray) : Value := match parO s with | some (k, n, t) => .tuple #[.agg #[.int .i64 k, .int .i64 n, .string t], .int .i64 0] | none => .tuple #[.agg #[.int .i64 0, .int .i64 0, .string ⟨#[]⟩], .int .i64 40]
theorem parR_none {s : ByteArray} (h : parO s = none) : parR s = .tuple #[.agg #[.int .i64 0, .int .i64 0, .string ⟨#[]⟩], .int .i64 40] := by unfold parR; rw [h]
theorem parR_some {s t : ByteArray} {k n : Int} (h : parO s = some (k, n, t)) : parR s = .tuple #[.agg #[.int .i64 k, .int .i64 n, .string t], .int .i64 0] := by unfold parR; rw [h]
theorem ba_of {s : ByteArray} {l : List UInt8} (h : s.toList = l) : s = ⟨l.toArray⟩ := by
  have : s.data.toList = l := by rw [← h, ByteArray.toList_eq]
  cases s
  simp only at this
  subst this
  simp

/-- The two errors that strconv hands on are there. -/
def Errs (w : World) : Prop := (∃ tp p, w.var? Tryd.prog "strconv.ErrSyntax" = some #[.iface tp p]) ∧ (∃ tp p, w.var? Tryd.prog "strconv.ErrRange" = some #[.iface tp p])
theorem gErrS : Tryd.prog.globalNamed "strconv.ErrSyntax" = some 1 := by kernel_rfl
theorem gErrR : Tryd.prog.globalNamed "strconv.ErrRange" = some 2 := by kernel_rfl
theorem var_next {w w' : World} {n : String} {g : Nat} {cs : Array Value} (hg : Tryd.prog.globalNamed n = some g) (h : w.var? Tryd.prog n = some cs) (hb : Below w.heap.size w w') : w'.var? Tryd.prog n = some cs := by
  unfold World.var? at *
  simp only [hg, Option.bind_some] at h ⊢
  have hlt : g < w.heap.size := by
    rcases Nat.lt_or_ge g w.heap.size with h' | h'
    · exact h'
    · simp [Array.getElem?_eq_none h'] at h
  rw [hb.block g hlt]
  exact h
theorem Errs.next {w w' : World} (h : Errs w) (hb : Below w.heap.size w w') : Errs w' := by
  obtain ⟨⟨tp, p, h1⟩, tq, q, h2⟩ := h
  exact ⟨⟨tp, p, var_next gErrS h1 hb⟩, tq, q, var_next gErrR h2 hb⟩

/-- strconv.ParseInt of a text, in base ten, of 64 bits. -/
def IntEnd (s : ByteArray) (v : Value) : Prop := (∃ n, Lib.parseIntB 64 s.data.toList = .ok n ∧ v = .tuple #[.int .i64 n, .nilIface]) ∨ ((∀ n, Lib.parseIntB 64 s.data.toList ≠ .ok n) ∧ ∃ n t p, v = .tuple #[.int .i64 n, .iface t p])
theorem pint_any (s : ByteArray) (w : World) (hs : s.size ≤ 140737488351232) (he : Errs w) : Calls Tryd.prog 40 #[.string s, .int .i64 10, .int .i64 64] w fun e w' => ∃ v, e = .returned v ∧ IntEnd s v ∧ Below w.heap.size w w' := by
  cases h : Lib.parseIntB 64 s.data.toList with
  | ok n =>
    refine (Tryd.strconv_ParseInt_10_at64_ok s (by omega) n h w).mono ?_
    rintro e w' ⟨he', hw⟩
    refine ⟨_, he', .inl ⟨n, h, rfl⟩, ?_⟩
    rcases hw with rfl | ⟨t, rfl⟩
    · exact Below.refl _ _
    · exact Lib.bytesWorld_below _ _ _
  | range =>
    obtain ⟨_, tp, p, hv⟩ := he
    refine (Tryd.strconv_ParseInt_10_at64_range_var s (by omega) h tp p w hv).mono ?_
    rintro e w' ⟨M, he', _, _, hb⟩
    exact ⟨_, he', .inr ⟨(fun n e => by rw [h] at e; cases e), _, _, _, rfl⟩, hb⟩
  | _ =>
    obtain ⟨⟨tp, p, hv⟩, _⟩ := he
    refine (Tryd.strconv_ParseInt_10_at64_syntax_var s (by omega) h tp p w hv).mono ?_
    rintro e w' ⟨M, he', _, _, hb⟩
    exact ⟨_, he', .inr ⟨(fun n e => by rw [h] at e; cases e), _, _, _, rfl⟩, hb⟩
end Go.Proofs.YtlflhigphfnhoaaDoor
