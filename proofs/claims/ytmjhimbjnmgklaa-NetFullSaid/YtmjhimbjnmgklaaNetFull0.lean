/- The walk of NetFull (12). -/
import Derived.Test.YtmjhimbjnmgklaaNetC
namespace Go.Proofs.Ytmjhimbjnmgklaa
open Go.RowKit
set_option linter.unusedVariables false

/-- So many messages, all the same. -/
def reps (s : ByteArray) : Nat → List Value
  | 0 => []
  | k + 1 => reps s k ++ msgC 1 2 s
theorem reps_len (s : ByteArray) : ∀ k, (reps s k).length = k * 3
  | 0 => rfl
  | k + 1 => by rw [reps, List.length_append, reps_len s k]; simp [msgC]; omega
theorem reps_get (s : ByteArray) : ∀ k i, i < k → (reps s k)[i * 3]? = some (.int .i64 1) ∧ (reps s k)[i * 3 + 1]? = some (.int .i64 2) ∧ (reps s k)[i * 3 + 2]? = some (.string s)
  | 0, i, h => absurd h (by omega)
  | k + 1, i, h => by
      by_cases hi : i < k
      · obtain ⟨h0, h1, h2⟩ := reps_get s k i hi
        rw [reps, List.getElem?_append_left (by rw [reps_len]; omega), List.getElem?_append_left (by rw [reps_len]; omega), List.getElem?_append_left (by rw [reps_len]; omega)]
        exact ⟨h0, h1, h2⟩
      · obtain rfl : i = k := by omega
        rw [reps, List.getElem?_append_right (by rw [reps_len]; omega), List.getElem?_append_right (by rw [reps_len]; omega), List.getElem?_append_right (by rw [reps_len]; omega), reps_len, Nat.sub_self, Nat.add_sub_cancel_left, Nat.add_sub_cancel_left]
        exact ⟨rfl, rfl, rfl⟩
theorem reps_one (s : ByteArray) : ∀ k, ∀ u ∈ reps s k, u.oneCell' = true
  | 0, u, h => by cases h
  | k + 1, u, h => by
      rw [reps, List.mem_append] at h
      rcases h with h | h
      · exact reps_one s k u h
      · simp [msgC] at h
        rcases h with rfl | rfl | rfl <;> rfl
theorem reps_mod (s : ByteArray) (k t : Nat) : (reps s k)[t]? = if t < k * 3 then some (if t % 3 = 0 then .int .i64 1 else if t % 3 = 1 then .int .i64 2 else .string s) else none := by
  by_cases h : t < k * 3
  · rw [if_pos h]
    obtain ⟨h0, h1, h2⟩ := reps_get s k (t / 3) (by omega)
    have hm : t % 3 = 0 ∨ t % 3 = 1 ∨ t % 3 = 2 := by omega
    rcases hm with hm | hm | hm
    · rw [if_pos hm, ← h0]; congr 1; omega
    · rw [if_neg (by omega), if_pos hm, ← h1]; congr 1; omega
    · rw [if_neg (by omega), if_neg (by omega), ← h2]; congr 1; omega
  · rw [if_neg h, List.getElem?_eq_none (by rw [reps_len]; omega)]
theorem reps_del (s : ByteArray) (k i : Nat) (h : i < k) : (reps s k).take (i * 3) ++ (reps s k).drop ((i + 1) * 3) = reps s (k - 1) := by
  apply List.ext_getElem?
  intro t
  have l1 : ((reps s k).take (i * 3)).length = i * 3 := by rw [List.length_take, reps_len]; omega
  by_cases ht : t < i * 3
  · have a := reps_mod s k t
    have b := reps_mod s (k - 1) t
    rw [if_pos (show t < k * 3 by omega)] at a
    rw [if_pos (show t < (k - 1) * 3 by omega)] at b
    rw [List.getElem?_append_left (by omega), List.getElem?_take, if_pos ht, a, b]
  · rw [List.getElem?_append_right (by omega), l1, List.getElem?_drop]
    have a := reps_mod s k ((i + 1) * 3 + (t - i * 3))
    have b := reps_mod s (k - 1) t
    by_cases h2 : t < (k - 1) * 3
    · rw [if_pos (show (i + 1) * 3 + (t - i * 3) < k * 3 by omega), show ((i + 1) * 3 + (t - i * 3)) % 3 = t % 3 by omega] at a
      rw [if_pos h2] at b
      rw [a, b]
    · rw [if_neg (show ¬ (i + 1) * 3 + (t - i * 3) < k * 3 by omega)] at a
      rw [if_neg h2] at b
      rw [a, b]
/-- A network after so many sends of one message. -/
def Sent (w w' : World) (g : Nat) (n : Int) (s : ByteArray) (j : Nat) : Prop := ∃ v, IsNet w w' g v (min j 2000) (reps s (min j 2000)) n ((j - min j 2000 : Nat) : Int) cut0
theorem sent_one (w w' : World) (g : Nat) (n : Int) (s : ByteArray) (j : Nat) (h : Sent w w' g n s j) (hn : 2 ≤ n) (hs : s.size ≤ 1000) (hj : j ≤ 3000) :
    Calls Try.prog 35 #[.pointer (some ⟨g, 0, none⟩), .agg #[.int .i64 1, .int .i64 2, .string s]] w' fun e w2 => e = .returned (.int .i64 0) ∧ Sent w w2 g n s (j + 1) := by
  obtain ⟨v, h⟩ := h
  by_cases hlt : j < 2000
  · rw [Nat.min_eq_left (by omega), Nat.sub_self] at h
    refine (send_12 w g v j _ n _ cut0 s w' h hn rfl hlt (by omega)).mono ?_
    rintro e w2 ⟨rfl, v2, h2⟩
    refine ⟨rfl, v2, ?_⟩
    rw [Nat.min_eq_left (by omega), Nat.sub_self]
    exact h2
  · rw [Nat.min_eq_right (by omega)] at h
    refine (send_12_full w g v 2000 _ n _ cut0 s w' h hn rfl (by omega) (by omega) (by omega) (by omega)).mono ?_
    rintro e w2 ⟨rfl, h2⟩
    refine ⟨rfl, v, ?_⟩
    rw [Nat.min_eq_right (by omega)]
    have e : ((j - 2000 : Nat) : Int) + 1 = ((j + 1 - 2000 : Nat) : Int) := by omega
    rw [e] at h2
    exact h2

set_option maxHeartbeats 1000000 in
set_option maxRecDepth 100000 in
theorem full_bad (n : Int) (s : ByteArray) (w : World) (hs : s.size ≤ maxLen) (h : n < 2 ∨ 7 < n ∨ 1000 < s.size) : Calls Try.prog 12 #[.int .i64 n, .string s] w fun e w' => e = .returned (.bool true) ∧ Below w.heap.size w w' := by
  have hsh := shown20_any w
  by_cases h1 : n < 2
  · go_enter Try.func12, Try.ntmps12
    go_wp2_with (go_at_call 29; refine hsh.mono ?_; rintro e w1 ⟨rfl, hb⟩)
    go_ret
    exact ⟨rfl, hb⟩
  · by_cases h2 : 7 < n
    · go_enter Try.func12, Try.ntmps12
      go_wp2_with (go_at_call 29; refine hsh.mono ?_; rintro e w1 ⟨rfl, hb⟩)
      go_ret
      exact ⟨rfl, hb⟩
    · have h3 : (1000 : Int) < (s.size : Int) := by omega
      go_enter Try.func12, Try.ntmps12
      go_wp2_with (go_at_call 29; refine hsh.mono ?_; rintro e w1 ⟨rfl, hb⟩)
      go_ret
      exact ⟨rfl, hb⟩

set_option maxHeartbeats 4000000 in
set_option maxRecDepth 100000 in
theorem full_good (n : Int) (s : ByteArray) (w : World) (hs : s.size ≤ maxLen) (h1 : 2 ≤ n) (h2 : n ≤ 7) (h3 : s.size ≤ 1000) : Calls Try.prog 12 #[.int .i64 n, .string s] w fun e w' => e = .returned (.bool true) ∧ Below w.heap.size w w' := by
  have hsh := shown20_any w
  have hnew := fun w => new_any n w (by omega) h2
  have t1 : ¬ n < 2 := by omega
  have t2 : ¬ 7 < n := by omega
  have t3 : ¬ (1000 : Int) < (s.size : Int) := by omega
  go_enter Try.func12, Try.ntmps12
  go_wp2_with (first | (go_at_call 29; refine hsh.mono ?_; rintro e w1 ⟨rfl, hb⟩) | (go_at_call 34; refine (hnew _).mono ?_; rintro e w2 ⟨rfl, hb2, hB2⟩))
  have hN0 : Sent w1 w2 w1.heap.size n s 0 := ⟨_, isnet_new w1 w2 n hb2 hB2⟩
  go_loopw [8] (fun i wr => ∃ j : Nat, j ≤ 2003 ∧ i = .int .i64 j ∧ Sent w1 wr w1.heap.size n s j) (fun i _ => 2003 - (intOf i).toNat)
  case atStart => exact ⟨0, by omega, rfl, hN0⟩
  case round =>
    obtain ⟨j, hj, rfl, hN⟩ := hrel
    by_cases hlt : j < 2003
    · have hsend := sent_one _ _ _ n s j hN h1 h3 (by omega)
      go_wp2_with (go_at_call 35; refine hsend.mono ?_; rintro e w3 ⟨rfl, hN3⟩)
      go_round
      case rel => exact ⟨j + 1, by omega, by go_num, hN3⟩
      case measure => simp [intOf]; omega
    · obtain rfl : j = 2003 := by omega
      obtain ⟨v, hN⟩ := hN
      rw [show min 2003 2000 = 2000 from rfl, show ((2003 - 2000 : Nat) : Int) = 3 from rfl] at hN
      obtain ⟨c0, c1, c2⟩ := reps_get s 2000 0 (by decide)
      obtain ⟨e0, e1, e2⟩ := reps_get s 2000 7 (by decide)
      obtain ⟨d0, d1, d2⟩ := reps_get s 1999 0 (by decide)
      have hone := reps_one s 2000
      have hdel := reps_del s 2000 7 (by decide)
      have hre : reps s 1999 ++ msgC 1 2 s = reps s 2000 := rfl
      generalize reps s 2000 = X at hN c0 c1 c2 e0 e1 e2 hone hdel hre
      rw [show 2000 - 1 = 1999 from rfl] at hdel
      generalize reps s 1999 = Y at d0 d1 d2 hdel hre
      have hmany := isnet_many hN (by omega) _ (Below.refl _ _)
      have hlost := isnet_lostn hN (by omega)
      have hcf := copy_full w1 _ v 2000 X n 3 cut0 1 2 s _ hN (by omega) (by decide) c0 c1 c2
      have htk := fun wr (h : IsNet w1 wr w1.heap.size v 2000 X n 3 cut0) => take_any_net w1 _ v 2000 X n 3 cut0 7 1 2 s wr h (by omega) (by decide) e0 e1 e2 hone
      rw [hdel] at htk
      have hcs := fun v wr (h : IsNet w1 wr w1.heap.size v 1999 Y n 3 cut0) => copy_some w1 _ v 1999 Y n 3 cut0 1 2 s wr h (by omega) (by decide) (by decide) d0 d1 d2
      rw [hre] at hcs
      have hcg := fun v wr (h : IsNet w1 wr w1.heap.size v 2000 X n 3 cut0) => copy_full w1 _ v 2000 X n 3 cut0 1 2 s wr h (by omega) (by decide) c0 c1 c2
      have HD := Lib.hid hb
      clear hone hdel hre c0 c1 c2 d0 d1 d2 e0 e1 e2 hN
      go_wp2_with (first | (go_at_call 36; refine hmany.mono ?_; rintro e w3 ⟨rfl, rfl⟩) | (go_at_call 37; refine hlost.mono ?_; rintro e w3 ⟨rfl, rfl⟩) | (go_at_call 38; refine hcf.mono ?_; rintro e w4 ⟨rfl, hN4⟩; clear hcf) | (go_at_call 39; refine (htk _ hN4).mono ?_; rintro e w5 ⟨rfl, v5, hN5⟩; clear hN4; have hN5' := hN5.later ((Below.refl _ _).alloc (Nat.le_refl _) (Obj.cells #[.int .i64 1, .int .i64 2, .string s] 57)); clear hN5) | (go_at_call 38; refine (hcs _ _ hN5').mono ?_; rintro e w6 ⟨rfl, v6, hN6⟩; clear hN5') | (go_at_call 38; refine (hcg _ _ hN6).mono ?_; rintro e w7 ⟨rfl, hN7⟩; clear hN6))
      go_ret
      exact ⟨rfl, HD.out.trans (hN7.bel.mono HD.out.size)⟩
theorem full_any (n : Int) (s : ByteArray) (w : World) (hs : s.size ≤ maxLen) : Calls Try.prog 12 #[.int .i64 n, .string s] w fun e w' => e = .returned (.bool true) ∧ Below w.heap.size w w' := by
  by_cases h : n < 2 ∨ 7 < n ∨ 1000 < s.size
  · exact full_bad n s w hs h
  · exact full_good n s w hs (by omega) (by omega) (by omega)
end Go.Proofs.Ytmjhimbjnmgklaa
