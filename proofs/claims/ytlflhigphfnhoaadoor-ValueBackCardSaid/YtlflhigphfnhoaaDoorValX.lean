/- Plain: a value's bytes, and back. -/
import Derived.Test.YtlflhigphfnhoaaDoorShowA
import Derived.Test.YtlflhigphfnhoaaDoorLayT
namespace Go.Proofs.YtlflhigphfnhoaaDoor
open Go.RowKit
set_option linter.unusedVariables false

theorem take_num (l r : List UInt8) (n : Nat) (hn : n < 18446744073709551616) (L : Nat) (hL : L = l.length) : takeO (l ++ num n ++ r) (L : Int) = some (n, (num n).length) := by
  subst hL
  unfold takeO
  rw [if_pos ⟨by omega, by simp; omega⟩, Int.toNat_natCast, List.append_assoc, List.drop_left]
  have h := decF_back 9 0 0 n r (by omega) (by omega) (by rw [room_0]; exact hn)
  have e : 0 + n * 128 ^ 0 = n := by simp
  rw [e, Nat.zero_add] at h
  exact h
theorem txt_len (t : ByteArray) : t.data.toList.length = t.size := by rw [Array.length_toList]; rfl
theorem val_enc (k n : Int) (s : ByteArray) (b : List UInt8) (hr : rightB k n s.toList = true) (h0 : -9223372036854775808 ≤ n) (h1 : n ≤ 9223372036854775807) :
    valO (encV k n s.data.toList ++ b) 0 = some (k, n, s, ((encV k n s.data.toList).length : Int)) := by
  obtain ⟨r1, r2, r3, r4⟩ := right_text hr
  have hs : k ≠ 3 → s = ⟨#[]⟩ := fun h => tol_inj (by rw [r2 h, ByteArray.toList_eq])
  have hk : k = 0 ∨ k = 1 ∨ k = 2 ∨ k = 3 := by omega
  rcases hk with rfl | rfl | rfl | rfl
  · obtain rfl := hs (by decide)
    obtain rfl : n = 0 := by simpa [rightB, r2] using hr
    exact (valO_in (l := encV 0 0 (⟨#[]⟩ : ByteArray).data.toList ++ b) (i := 0) (by unfold encV; simp)).trans rfl
  · obtain rfl := hs (by decide)
    have e : encV 1 n (⟨#[]⟩ : ByteArray).data.toList = [1] ++ num (zig n) := rfl
    have ht := take_num [1] b (zig n) (zig_lt n h0 h1) 1 rfl
    rw [e]
    refine (valO_in (l := [1] ++ num (zig n) ++ b) (i := 0) (by simp)).trans ?_
    have e2 : (([1] ++ num (zig n) ++ b)[0]'(by simp)) = (1 : UInt8) := rfl
    simp only [e2]
    show (match takeO ([1] ++ num (zig n) ++ b) ((1 : Nat) : Int) with | some (n, c) => some ((1 : Int), zag n, (⟨#[]⟩ : ByteArray), (0 : Int) + 1 + c) | none => none) = _
    rw [ht]
    simp only [zag_zig, Option.some.injEq, Prod.mk.injEq, List.length_append, List.length_singleton, true_and]
    omega
  · obtain rfl := hs (by decide)
    have hn : n = 0 ∨ n = 1 := by simpa [rightB, r2] using hr
    rcases hn with rfl | rfl
    · exact (valO_in (l := encV 2 0 (⟨#[]⟩ : ByteArray).data.toList ++ b) (i := 0) (by unfold encV; simp)).trans rfl
    · exact (valO_in (l := encV 2 1 (⟨#[]⟩ : ByteArray).data.toList ++ b) (i := 0) (by unfold encV; simp)).trans rfl
  · obtain rfl := r1 rfl
    have hsz : s.size ≤ 1024 := by
      have : s.toList.length ≤ 1024 := by simpa [rightB] using hr
      rwa [tol_len] at this
    have e : encV 3 0 s.data.toList = [3] ++ num s.size ++ s.data.toList := by
      unfold encV
      rw [txt_len]
      rfl
    have ht := take_num [3] (s.data.toList ++ b) s.size (by omega) 1 rfl
    rw [e, List.append_assoc _ s.data.toList b]
    refine (valO_in (l := [3] ++ num s.size ++ (s.data.toList ++ b)) (i := 0) (by simp)).trans ?_
    have e2 : (([3] ++ num s.size ++ (s.data.toList ++ b))[0]'(by simp)) = (3 : UInt8) := rfl
    simp only [e2]
    have hx : textO ([3] ++ num s.size ++ (s.data.toList ++ b)) ((1 : Nat) : Int) 1024 = some (s.data.toList, ((1 + (num s.size).length + s.size : Nat) : Int)) := by
      unfold textO
      rw [ht]
      simp only
      rw [if_neg (by simp only [List.length_append, txt_len, List.length_singleton]; omega)]
      have e3 : (((1 : Nat) : Int) + ((num s.size).length : Nat)).toNat = ([3] ++ num s.size).length := by simp only [List.length_append, List.length_singleton]; omega
      rw [e3, List.drop_left, ← txt_len s, List.take_left]
      simp only [txt_len]
      congr 2
    show (match textO ([3] ++ num s.size ++ (s.data.toList ++ b)) ((1 : Nat) : Int) 1024 with | some (t, p) => some ((3 : Int), (0 : Int), str t, p) | none => none) = _
    rw [hx]
    simp only [Option.some.injEq, Prod.mk.injEq, true_and, List.length_append, List.length_singleton, txt_len]
    exact ⟨rfl, trivial⟩

theorem takeO_form {l : List UInt8} {i n c : Nat} (hi : i ≤ l.length) (h : takeO l (i : Int) = some (n, c)) : n < 18446744073709551616 ∧ i + c ≤ l.length ∧ (l.drop i).take c = num n := by
  have hn := take_lt h
  unfold takeO at h
  rw [if_pos (by omega), Int.toNat_natCast] at h
  obtain ⟨v, e, _, _, _, hc, ht⟩ := decF_form 10 0 0 (l.drop i) n c rfl (by simp) h
  have ev : v = n := by rw [e]; simp
  subst ev
  rw [Nat.sub_zero, List.length_drop] at hc
  rw [Nat.sub_zero] at ht
  exact ⟨hn, by omega, ht⟩
theorem zag_bounds {n : Nat} (h : n < 18446744073709551616) : -9223372036854775808 ≤ zag n ∧ zag n ≤ 9223372036854775807 := by
  unfold zag
  split <;> omega
theorem enc_val {b : List UInt8} {k n p : Int} {s : ByteArray} (h : valO b 0 = some (k, n, s, p)) :
    rightB k n s.toList = true ∧ -9223372036854775808 ≤ n ∧ n ≤ 9223372036854775807 ∧ ∃ P : Nat, p = P ∧ P ≤ b.length ∧ encV k n s.data.toList = b.take P := by
  have he : ByteArray.toList ⟨#[]⟩ = ([] : List UInt8) := by rw [ByteArray.toList_eq]
  cases b with
  | nil => rw [valO_out (by simp)] at h; cases h
  | cons x r =>
    have hv := valO_in (l := x :: r) (i := 0) (by simp)
    rw [show ((0 : Nat) : Int) = 0 from rfl] at hv
    rw [hv] at h
    have e0 : (x :: r)[0]'(by simp) = x := rfl
    simp only [e0] at h
    split at h
    · rename_i hx
      injection hx with hx
      subst hx
      cases h
      exact ⟨by rw [he]; rfl, by omega, by omega, 1, rfl, by simp, rfl⟩
    · rename_i hx
      injection hx with hx
      subst hx
      cases ht : takeO (1 :: r) (0 + 1) with
      | none => rw [ht] at h; cases h
      | some q =>
        obtain ⟨m, c⟩ := q
        rw [ht] at h
        cases h
        obtain ⟨hm, hc, hd⟩ := takeO_form (i := 1) (by simp) ht
        have hb := zag_bounds hm
        have hd' : r.take c = num m := hd
        refine ⟨by rw [he]; rfl, hb.1, hb.2, 1 + c, by omega, hc, ?_⟩
        show (1 : UInt8) :: num (zig (zag m)) = (1 :: r).take (1 + c)
        rw [zig_zag, Nat.add_comm 1 c, List.take_succ_cons, hd']
    · rename_i hx
      injection hx with hx
      subst hx
      cases hc : (2 :: r)[0 + 1]? with
      | none => rw [hc] at h; cases h
      | some c =>
        rw [hc] at h
        simp only at h
        split at h
        · rename_i hc1
          cases h
          have hr : r[0]? = some c := hc
          cases r with
          | nil => cases hr
          | cons y r' =>
            have : y = c := by simpa using hr
            subst this
            refine ⟨?_, by omega, by omega, 2, rfl, by simp, ?_⟩
            · rw [he]
              have : (y.toNat : Int) = 0 ∨ (y.toNat : Int) = 1 := by omega
              rcases this with e | e <;> rw [e] <;> rfl
            · show (2 : UInt8) :: [UInt8.ofNat ((y.toNat : Int)).toNat] = [2, y]
              rw [Int.toNat_natCast, UInt8.ofNat_toNat]
        · cases h
    · rename_i hx
      injection hx with hx
      subst hx
      cases ht : textO (3 :: r) (0 + 1) 1024 with
      | none => rw [ht] at h; cases h
      | some q =>
        obtain ⟨u, q⟩ := q
        rw [ht] at h
        cases h
        unfold textO at ht
        cases hk : takeO (3 :: r) (0 + 1) with
        | none => rw [hk] at ht; cases ht
        | some z =>
          obtain ⟨m, c⟩ := z
          rw [hk] at ht
          simp only at ht
          split at ht
          · cases ht
          · rename_i hcond
            cases ht
            obtain ⟨hm, hc, hd⟩ := takeO_form (i := 1) (by simp) hk
            have hd' : r.take c = num m := hd
            have hl : ((3 :: r : List UInt8).length : Int) = (r.length : Int) + 1 := by simp
            have hlr : c + m ≤ r.length := by omega
            have hl2 : 1 + c ≤ r.length + 1 := by simpa using hc
            have ec : ((0 : Int) + 1 + (c : Int)).toNat = c + 1 := by omega
            rw [ec, List.drop_succ_cons]
            have hlen : ((r.drop c).take m).length = m := by rw [List.length_take, List.length_drop]; omega
            have hstr : (str ((r.drop c).take m)).data.toList = (r.drop c).take m := rfl
            refine ⟨?_, by omega, by omega, 1 + c + m, by omega, by simp; omega, ?_⟩
            · rw [ByteArray.toList_eq, hstr]
              have : ((r.drop c).take m).length ≤ 1024 := by omega
              simp only [rightB]
              simp only [this, decide_true, Bool.and_self]
              rfl
            · rw [hstr]
              show (3 : UInt8) :: (num ((r.drop c).take m).length ++ (r.drop c).take m) = (3 :: r).take (1 + c + m)
              rw [hlen, ← hd', show 1 + c + m = (c + m) + 1 by omega, List.take_succ_cons, List.take_add]
    · cases h
end Go.Proofs.YtlflhigphfnhoaaDoor
