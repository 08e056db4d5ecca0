/- The walk of value.quoted (37). -/
import Derived.Test.YtlflhigphfnhoaaDoorBld
import Derived.Test.YtlflhigphfnhoaaDoorShB
import Derived.LoopTactic
namespace Go.Proofs.YtlflhigphfnhoaaDoor
open Go.RowKit
set_option linter.unusedVariables false

def esc (l : List UInt8) : List UInt8 := l.flatMap fun c => if c = 39 then [39, 39] else [c]
def quoteL (l : List UInt8) : List UInt8 := 39 :: esc l ++ [39]
theorem esc_len (l : List UInt8) : (esc l).length ≤ 2 * l.length := by
  induction l with
  | nil => simp [esc]
  | cons c t ih =>
    have e : esc (c :: t) = (if c = 39 then [39, 39] else [c]) ++ esc t := rfl
    rw [e, List.length_append]
    split <;> simp <;> omega
theorem esc_app (l m : List UInt8) : esc (l ++ m) = esc l ++ esc m := by simp [esc]
theorem take_snoc (s : ByteArray) (k : Nat) (h : k < s.size) : s.data.toList.take (k + 1) = s.data.toList.take k ++ [s[k]] := by
  rw [List.take_succ_eq_append_getElem (by simpa using h)]; rfl
theorem byteCells_u8s (l : List UInt8) : Lib.byteCells l = u8s l := rfl
theorem row_below {w w' : World} {B e z : Nat} {v : Value} {k : Nat} {xs : List Value} (h : w.ownsRow B e z v k xs) (hb : Below w.heap.size w w') : w'.ownsRow B e z v k xs := by
  refine ⟨h.1, ?_⟩
  rcases h.2 with hn | ⟨g, cap, cur, hv, hg0, hg, rest⟩
  · exact .inl hn
  · refine .inr ⟨g, cap, cur, hv, hg0, (hb.block g ?_).trans hg, rest⟩
    rcases Nat.lt_or_ge g w.heap.size with h' | h'
    · exact h'
    · simp [Array.getElem?_eq_none h'] at hg
theorem isB_below {w w' : World} {B b : Nat} {l : List UInt8} (h : IsB w B b l) (hb : Below w.heap.size w w') : IsB w' B b l := by
  have mv : ∀ p, Lib.BuilderAt 73 5 B b p (u8s l) w → Lib.BuilderAt 73 5 B b p (u8s l) w' := by
    rintro p ⟨hB, v, hk, ho, hn⟩
    exact ⟨hB, v, (hb.block b (lt_of_block hk)).trans hk, row_below ho hb, hn⟩
  rcases h with h | h
  · exact .inl (mv _ h)
  · exact .inr (mv _ h)

set_option maxHeartbeats 1000000 in
set_option maxRecDepth 100000 in
theorem quoted_any (s : ByteArray) (w : World) (hs : s.size ≤ 100000) : Calls Tryd.prog 37 #[.string s] w fun e w' => e = .returned (.string ⟨(quoteL s.data.toList).toArray⟩) ∧ Below w.heap.size w w' := by
  have hB0 : IsB (w.alloc (.cells #[.pointer none, .slice none 0 0] 73)) w.heap.size w.heap.size [] := Lib.fresh_isBuilder 73 5 w
  have hb0 : Below w.heap.size w (w.alloc (.cells #[.pointer none, .slice none 0 0] 73)) := (Below.refl _ _).alloc (Nat.le_refl _) _
  have hq0 := writebyte_any w.heap.size w.heap.size [] 39 _ hB0 (by simp) hb0.size
  have HB0 := Lib.hid hb0
  clear hB0 hb0
  go_enter Tryd.func37, Tryd.ntmps37
  go_wp2_with (go_at_call 51; refine hq0.mono ?_; rintro e w1 ⟨rfl, hI1, hb1⟩)
  go_loopw [8] (fun i wr => ∃ k : Nat, k ≤ s.size ∧ i = .int .i64 k ∧ IsB wr w.heap.size w.heap.size (39 :: esc (s.data.toList.take k)) ∧ Below w.heap.size w wr) (fun i _ => s.size - (intOf i).toNat)
  case atStart => exact ⟨0, Nat.zero_le _, rfl, hI1, HB0.out.trans hb1⟩
  case round =>
    obtain ⟨k, hk, rfl, hI, hbr⟩ := hrel
    have hl : (esc (s.data.toList.take k)).length ≤ 2 * k := by
      have := esc_len (s.data.toList.take k)
      have h2 : (s.data.toList.take k).length ≤ k := List.length_take_le _ _
      omega
    by_cases hlt : k < s.size
    · have hts := take_snoc s k hlt
      have hsz := hbr.size
      have HBR := Lib.hid hbr
      clear hbr
      by_cases hq : s[k] = 39
      · have t : ((s[k].toNat : Int) == 39) = true := by rw [hq]; rfl
        have HE : Hid ((39 :: esc (s.data.toList.take k)) ++ [39] ++ [s[k]] = 39 :: esc (s.data.toList.take (k + 1))) := by
          show _ = _
          rw [hts, esc_app, hq]
          simp [esc]
        have hw1 := writebyte_any w.heap.size w.heap.size (39 :: esc (s.data.toList.take k)) 39 wr hI (by simp; omega) hsz
        have hw2 := fun (w2 : World) h h2 => writebyte_any w.heap.size w.heap.size ((39 :: esc (s.data.toList.take k)) ++ [39]) s[k] w2 h (by simp; omega) h2
        clear hts hq
        go_wp2_with (first | (go_at_call 51; refine hw1.mono ?_; rintro e w2 ⟨rfl, hI2, hb2⟩; have hb3 := HBR.out.trans hb2; have hw3 := hw2 _ hI2 hb3.size; clear hw1 hw2) | (go_at_call 51; refine hw3.mono ?_; rintro e w4 ⟨rfl, hI4, hb4⟩; have hb5 := hb3.trans hb4; clear hw3))
        go_roundw
        case rel => exact ⟨k + 1, by omega, by go_num, by rw [← HE.out]; exact hI4, hb5⟩
        case measure => simp [intOf]; omega
      · have t : ((s[k].toNat : Int) == 39) = false := by
          rw [beq_eq_false_iff_ne]
          intro e
          exact hq (UInt8.toNat_inj.1 (by have : (39 : UInt8).toNat = 39 := rfl; omega))
        have HE : Hid ((39 :: esc (s.data.toList.take k)) ++ [s[k]] = 39 :: esc (s.data.toList.take (k + 1))) := by
          show _ = _
          rw [hts, esc_app]
          simp [esc, hq]
        have hw1 := writebyte_any w.heap.size w.heap.size (39 :: esc (s.data.toList.take k)) s[k] wr hI (by simp; omega) hsz
        clear hts hq
        go_wp2_with (go_at_call 51; refine hw1.mono ?_; rintro e w2 ⟨rfl, hI2, hb2⟩; have hb3 := HBR.out.trans hb2; clear hw1)
        go_roundw
        case rel => exact ⟨k + 1, by omega, by go_num, by rw [← HE.out]; exact hI2, hb3⟩
        case measure => simp [intOf]; omega
    · obtain rfl : k = s.size := by omega
      have ht : s.data.toList.take s.size = s.data.toList := List.take_of_length_le (by simp)
      rw [ht] at hI hl
      have hw1 := writebyte_any w.heap.size w.heap.size (39 :: esc s.data.toList) 39 wr hI (by simp; omega) hbr.size
      have HE : Hid (39 :: esc s.data.toList ++ [39] = quoteL s.data.toList) := rfl
      have HBR := Lib.hid hbr
      clear ht hbr
      go_wp2_with (first | (go_at_call 51; refine hw1.mono ?_; rintro e w2 ⟨rfl, hI2, hb2⟩; have hb3 := HBR.out.trans hb2; have hst := Tryd.Builder_String_any w.heap.size w.heap.size (39 :: esc s.data.toList ++ [39]) w2 hI2 hb3.size; clear hw1) | (go_at_call 52; refine hst.mono ?_; rintro e w4 ⟨rfl, hb4⟩))
      go_ret
      exact ⟨rfl, hb3.trans hb4⟩
end Go.Proofs.YtlflhigphfnhoaaDoor
