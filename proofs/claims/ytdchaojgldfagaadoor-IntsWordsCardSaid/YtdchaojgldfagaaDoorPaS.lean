/- Which bits numbers' bytes hold; the head of the laws of pack (13). -/
import Derived.Test.YtdchaojgldfagaaDoorPaQ
import Derived.Test.YtdchaojgldfagaaDoorPaH
namespace Go.Proofs.YtdchaojgldfagaaDoor
open Go.RowKit
set_option linter.unusedVariables false

theorem bitsP_eq {w : Nat} {ls : List W64} (hs : ∀ k (h : k < ls.length), (ls[k]).toNat < 2 ^ w) (i : Nat) : bitsP w ls i = (decide (i < ls.length * w) && (ls.getD (i / w) 0).toNat.testBit (i % w)) := by
  have hm := mem_posAt w (ls.map BitVec.toNat) 0 (by intro x hx; obtain ⟨y, _, rfl⟩ := List.mem_map.1 hx; exact y.isLt) i
  unfold bitsP
  rw [Bool.eq_iff_iff, decide_eq_true_iff, hm, Bool.and_eq_true, decide_eq_true_iff]
  constructor
  · rintro ⟨k, hk, j, hj, rfl⟩
    simp only [List.length_map] at hk
    simp only [List.getElem_map] at hj
    have hjw : j < w := by
      apply Nat.lt_of_not_le
      intro h
      rw [Nat.testBit_lt_two_pow (Nat.lt_of_lt_of_le (hs k hk) (Nat.pow_le_pow_right (by decide) h))] at hj
      cases hj
    have h1 : (k + 1) * w ≤ ls.length * w := Nat.mul_le_mul_right w (by omega)
    rw [Nat.add_mul] at h1
    have e1 : ((0 + k) * w + j) / w = k := by
      rw [Nat.zero_add, Nat.add_comm, Nat.add_mul_div_right _ _ (by omega), Nat.div_eq_of_lt hjw, Nat.zero_add]
    have e2 : ((0 + k) * w + j) % w = j := by
      rw [Nat.zero_add, Nat.add_comm, Nat.add_mul_mod_self_right, Nat.mod_eq_of_lt hjw]
    rw [e1, e2]
    refine ⟨by rw [Nat.zero_add]; omega, ?_⟩
    simp only [List.getD, List.getElem?_eq_getElem hk, Option.getD_some]
    exact hj
  · rintro ⟨hi, hb⟩
    have hw : 0 < w := by
      apply Nat.pos_of_ne_zero
      intro h; subst h; simp at hi
    have hk : i / w < ls.length := (Nat.div_lt_iff_lt_mul hw).2 hi
    refine ⟨i / w, by simpa using hk, i % w, ?_, ?_⟩
    · simp only [List.getElem_map]
      simp only [List.getD, List.getElem?_eq_getElem hk, Option.getD_some] at hb
      exact hb
    · rw [Nat.zero_add, Nat.mul_comm, Nat.div_add_mod]
theorem num_born (w : World) (t : TypeId) (l : List W64) : Num (w.alloc (.cells (n64s l).toArray t)) (some ⟨w.heap.size, 0, none⟩) l := by
  intro k hk
  refine ⟨w.heap.size, 0, rfl, ?_⟩
  have := (Blk.born w t (n64s l)).at_ k
  rw [Nat.zero_add, this]
  simp [n64s, hk]

theorem wid57 : widL [5, 2, 7] = 3 := by decide +kernel
theorem wid52 : widL [5, 2] = 3 := by decide +kernel
theorem bytes57 : packL 2 (bitsP 3 [5, 2, 7]) = [213, 1] := by
  have h : packL 2 (bitsP 3 [5, 2, 7]) = packL 2 (fun i => decide (i < 9) && (([5, 2, 7] : List W64).getD (i / 3) 0).toNat.testBit (i % 3)) :=
    packL_congr fun i _ => by
      rw [bitsP_eq (by rw [← of_width (by omega)]; rw [wid57]; omega)]
      rfl
  rw [h]
  decide +kernel

end Go.Proofs.YtdchaojgldfagaaDoor
