/- Several texts in one (a claim holds 60 files). -/
import Derived.Test.YtlflhigphfnhoaaDoorDgt
import Derived.Deep.DeepCutAuto
import Derived.Deep.LoopGhost
/- The walk of the document's number (41). -/
namespace Go.Proofs.YtlflhigphfnhoaaDoor
open Go.RowKit
set_option linter.unusedVariables false

/-- One byte of a text, read into the number (from 0 down). -/
def nStep (n : Int) (c : UInt8) : Int := if 48 ≤ c.toNat ∧ c.toNat ≤ 57 then wrap64 (wrap64 (10 * n) - ((c.toNat : Int) - 48)) else n
def nFold (l : List UInt8) : Int := (l.take 20).foldl nStep 0
/-- A text's number, cut to what may be. -/
def nOf (l : List UInt8) : Int := if l.head? = some 45 then nFold l else wrap64 (-(nFold l))
theorem fold_snoc (l : List UInt8) (k : Nat) (hk : k < l.length) : (l.take (k + 1)).foldl nStep 0 = nStep ((l.take k).foldl nStep 0) (l[k]) := by
  rw [List.take_succ_eq_append_getElem hk, List.foldl_append]; rfl
theorem wrap_in (x : Int) : -9223372036854775808 ≤ IntKind.i64.wrap x ∧ IntKind.i64.wrap x ≤ 9223372036854775807 := by
  rw [IntKind.wrap_i64]; omega
theorem take_stop {l : List UInt8} {k : Nat} (h : k ≤ l.length) (h2 : k ≤ 20) (h3 : ¬ (k < l.length ∧ k < 20)) : l.take k = l.take 20 := by
  rcases Nat.lt_or_ge k 20 with h' | h'
  · have : k = l.length := by omega
    rw [this, List.take_of_length_le (Nat.le_refl _), List.take_of_length_le (by omega)]
  · have : k = 20 := by omega
    rw [this]
set_option maxHeartbeats 4000000 in
set_option maxRecDepth 100000 in
theorem number_neg (s : ByteArray) (w : World) (hs : s.size ≤ 140737488351232) (h1 : 1 ≤ s.size) (hq : s[0]'(by omega) = 45) : Calls Tryd.prog 41 #[.string s] w fun e w' => e = .returned (.int .i64 (nOf s.data.toList)) ∧ Below w.heap.size w w' := by
  have hll : s.data.toList.length = s.size := txt_len' s
  have HO : Hid (nOf s.data.toList = nFold s.data.toList) := by
    show _ = _
    have := head_at h1
    rw [ByteArray.toList_eq, hq] at this
    unfold nOf
    rw [if_pos this]
  have hpos : (0 : Int) < (s.size : Int) := by omega
  have t0 : (((s[0]'(by omega)).toNat : Int) == 45) = true := by rw [hq]; rfl
  clear hq
  go_enter Tryd.func41, Tryd.ntmps41
  go_wp2
  go_loopw [3, 5] (fun x i wr => ∃ k : Nat, k ≤ s.size ∧ k ≤ 20 ∧ i = .int .i64 k ∧ x = .int .i64 ((s.data.toList.take k).foldl nStep 0) ∧ Below w.heap.size w wr) (fun _ i _ => 20 - (intOf i).toNat)
  case atStart => exact ⟨0, Nat.zero_le _, Nat.zero_le _, rfl, rfl, Below.refl _ _⟩
  case round =>
    obtain ⟨k, hk, hk20, rfl, rfl, hbr⟩ := hrel
    have HBR := Lib.hid hbr
    clear hbr
    by_cases hgo : k < s.size ∧ k < 20
    · obtain ⟨hlt, h20⟩ := hgo
      have hsn := fold_snoc s.data.toList k (by rw [hll]; exact hlt)
      have hget : s.data.toList[k]'(by rw [hll]; exact hlt) = s[k] := rfl
      rw [hget] at hsn
      have HS := Lib.hid hsn
      have t1 : (k : Int) < (s.size : Int) := by omega
      have t2 : (k : Int) < 20 := by omega
      generalize hX : (s.data.toList.take k).foldl nStep 0 = X at HS
      clear hsn hget hX
      by_cases hd : 48 ≤ s[k].toNat ∧ s[k].toNat ≤ 57
      · have HN : Hid (nStep X s[k] = wrap64 (wrap64 (10 * X) - ((s[k].toNat : Int) - 48))) := by show _ = _; unfold nStep; rw [if_pos hd]
        have d1 : (48 : Int) ≤ (s[k].toNat : Int) := by omega
        have d2 : (s[k].toNat : Int) ≤ 57 := by omega
        clear hd
        go_wp2
        go_roundw
        case rel => exact ⟨k + 1, by omega, by omega, by go_num, by rw [HS.out, HN.out], HBR.out⟩
        case measure => simp [intOf]; omega
      · have HN : Hid (nStep X s[k] = X) := by show _ = _; unfold nStep; rw [if_neg hd]
        by_cases hd1 : 48 ≤ s[k].toNat
        · have d1 : (48 : Int) ≤ (s[k].toNat : Int) := by omega
          have d2 : ¬ (s[k].toNat : Int) ≤ 57 := by omega
          clear hd hd1
          go_wp2
          go_roundw
          case rel => exact ⟨k + 1, by omega, by omega, by go_num, by rw [HS.out, HN.out], HBR.out⟩
          case measure => simp [intOf]; omega
        · have d1 : ¬ (48 : Int) ≤ (s[k].toNat : Int) := by omega
          clear hd hd1
          go_wp2
          go_roundw
          case rel => exact ⟨k + 1, by omega, by omega, by go_num, by rw [HS.out, HN.out], HBR.out⟩
          case measure => simp [intOf]; omega
    · have HT := Lib.hid (take_stop (l := s.data.toList) (k := k) (by omega) hk20 (by rw [hll]; exact hgo))
      rw [HT.out]
      have t1 : ¬ ((k : Int) < (s.size : Int) ∧ (k : Int) < 20) := by omega
      clear HT
      by_cases hlt : k < s.size
      · have t3 : (k : Int) < (s.size : Int) := by omega
        have t4 : ¬ (k : Int) < 20 := by omega
        clear hgo t1
        go_wp2
        go_ret
        exact ⟨by rw [HO.out]; rfl, HBR.out⟩
      · have t3 : ¬ (k : Int) < (s.size : Int) := by omega
        clear hgo t1
        go_wp2
        go_ret
        exact ⟨by rw [HO.out]; rfl, HBR.out⟩
set_option maxHeartbeats 4000000 in
set_option maxRecDepth 100000 in
theorem number_pos (s : ByteArray) (w : World) (hs : s.size ≤ 140737488351232) (h1 : 1 ≤ s.size) (hq : s[0]'(by omega) ≠ 45) : Calls Tryd.prog 41 #[.string s] w fun e w' => e = .returned (.int .i64 (nOf s.data.toList)) ∧ Below w.heap.size w w' := by
  have hll : s.data.toList.length = s.size := txt_len' s
  have HO : Hid (nOf s.data.toList = wrap64 (-(nFold s.data.toList))) := by
    show _ = _
    have := head_at h1
    rw [ByteArray.toList_eq] at this
    unfold nOf
    rw [if_neg (by rw [this]; intro e; exact hq (Option.some.inj e))]
  have hpos : (0 : Int) < (s.size : Int) := by omega
  have t0 : (((s[0]'(by omega)).toNat : Int) == 45) = false := by
    rw [beq_eq_false_iff_ne]
    intro e
    exact hq (UInt8.toNat_inj.1 (by have : (45 : UInt8).toNat = 45 := rfl; omega))
  clear hq
  go_enter Tryd.func41, Tryd.ntmps41
  go_wp2
  go_loopw [3, 5] (fun x i wr => ∃ k : Nat, k ≤ s.size ∧ k ≤ 20 ∧ i = .int .i64 k ∧ x = .int .i64 ((s.data.toList.take k).foldl nStep 0) ∧ Below w.heap.size w wr) (fun _ i _ => 20 - (intOf i).toNat)
  case atStart => exact ⟨0, Nat.zero_le _, Nat.zero_le _, rfl, rfl, Below.refl _ _⟩
  case round =>
    obtain ⟨k, hk, hk20, rfl, rfl, hbr⟩ := hrel
    have HBR := Lib.hid hbr
    clear hbr
    by_cases hgo : k < s.size ∧ k < 20
    · obtain ⟨hlt, h20⟩ := hgo
      have hsn := fold_snoc s.data.toList k (by rw [hll]; exact hlt)
      have hget : s.data.toList[k]'(by rw [hll]; exact hlt) = s[k] := rfl
      rw [hget] at hsn
      have HS := Lib.hid hsn
      have t1 : (k : Int) < (s.size : Int) := by omega
      have t2 : (k : Int) < 20 := by omega
      generalize hX : (s.data.toList.take k).foldl nStep 0 = X at HS
      clear hsn hget hX
      by_cases hd : 48 ≤ s[k].toNat ∧ s[k].toNat ≤ 57
      · have HN : Hid (nStep X s[k] = wrap64 (wrap64 (10 * X) - ((s[k].toNat : Int) - 48))) := by show _ = _; unfold nStep; rw [if_pos hd]
        have d1 : (48 : Int) ≤ (s[k].toNat : Int) := by omega
        have d2 : (s[k].toNat : Int) ≤ 57 := by omega
        clear hd
        go_wp2
        go_roundw
        case rel => exact ⟨k + 1, by omega, by omega, by go_num, by rw [HS.out, HN.out], HBR.out⟩
        case measure => simp [intOf]; omega
      · have HN : Hid (nStep X s[k] = X) := by show _ = _; unfold nStep; rw [if_neg hd]
        by_cases hd1 : 48 ≤ s[k].toNat
        · have d1 : (48 : Int) ≤ (s[k].toNat : Int) := by omega
          have d2 : ¬ (s[k].toNat : Int) ≤ 57 := by omega
          clear hd hd1
          go_wp2
          go_roundw
          case rel => exact ⟨k + 1, by omega, by omega, by go_num, by rw [HS.out, HN.out], HBR.out⟩
          case measure => simp [intOf]; omega
        · have d1 : ¬ (48 : Int) ≤ (s[k].toNat : Int) := by omega
          clear hd hd1
          go_wp2
          go_roundw
          case rel => exact ⟨k + 1, by omega, by omega, by go_num, by rw [HS.out, HN.out], HBR.out⟩
          case measure => simp [intOf]; omega
    · have HT := Lib.hid (take_stop (l := s.data.toList) (k := k) (by omega) hk20 (by rw [hll]; exact hgo))
      rw [HT.out]
      have t1 : ¬ ((k : Int) < (s.size : Int) ∧ (k : Int) < 20) := by omega
      clear HT
      by_cases hlt : k < s.size
      · have t3 : (k : Int) < (s.size : Int) := by omega
        have t4 : ¬ (k : Int) < 20 := by omega
        clear hgo t1
        go_wp2
        go_ret
        exact ⟨by rw [HO.out]; rfl, HBR.out⟩
      · have t3 : ¬ (k : Int) < (s.size : Int) := by omega
        clear hgo t1
        go_wp2
        go_ret
        exact ⟨by rw [HO.out]; rfl, HBR.out⟩
theorem num41_any (s : ByteArray) (w : World) (hs : s.size ≤ 140737488351232) (h1 : 1 ≤ s.size) : Calls Tryd.prog 41 #[.string s] w fun e w' => e = .returned (.int .i64 (nOf s.data.toList)) ∧ Below w.heap.size w w' := by
  by_cases hq : s[0]'(by omega) = 45
  · exact number_neg s w hs h1 hq
  · exact number_pos s w hs h1 hq
set_option maxHeartbeats 4000000 in
set_option maxRecDepth 100000 in
theorem number_empty (w : World) : Calls Tryd.prog 41 #[.string ⟨#[]⟩] w fun e w' => e = .returned (.int .i64 0) ∧ Below w.heap.size w w' := by
  have hz : ByteArray.size ⟨#[]⟩ = 0 := rfl
  go_enter Tryd.func41, Tryd.ntmps41
  go_wp2
  go_loopw [3, 5] (fun x i wr => i = .int .i64 0 ∧ x = .int .i64 0 ∧ Below w.heap.size w wr) (fun _ i _ => 20 - (intOf i).toNat)
  case atStart => exact ⟨rfl, rfl, Below.refl _ _⟩
  case round =>
    obtain ⟨rfl, rfl, hbr⟩ := hrel
    have HBR := Lib.hid hbr
    clear hbr
    go_wp2
    go_ret
    exact ⟨rfl, HBR.out⟩
end Go.Proofs.YtlflhigphfnhoaaDoor

/- The document's Show (19) at every value; the plain half of the document's Parse. -/
namespace Go.Proofs.YtlflhigphfnhoaaDoor
open Go.RowKit
set_option linter.unusedVariables false

set_option maxHeartbeats 1000000 in
set_option maxRecDepth 100000 in
theorem refshow_null (w : World) : Calls Tryd.prog 19 #[.agg #[.int .i64 0, .int .i64 0, .string ⟨#[]⟩]] w fun e w' => e = .returned (.tuple #[.string ⟨#[110, 117, 108, 108]⟩, .int .i64 0]) ∧ Below w.heap.size w w' := by
  have hr := fun w => refright_any 0 0 ⟨#[]⟩ w (by unfold maxLen; decide)
  have e : rightB 0 0 (ByteArray.toList ⟨#[]⟩) = true := by rw [ByteArray.toList_eq]; rfl
  rw [e] at hr
  clear e
  go_enter Tryd.func19, Tryd.ntmps19
  go_wp2_with (go_at_call 10; refine (hr _).mono ?_; rintro e w3 ⟨rfl, hb3⟩; obtain ⟨p1, p3⟩ := one_kept [.int .i64 0, .int .i64 0, .string ⟨#[]⟩] hb3; have a0 : w3.cell? ⟨w.heap.size, 0, none⟩ = some (.int .i64 0) := p1.at_ 0; have a1 : w3.cell? ⟨w.heap.size, 1, none⟩ = some (.int .i64 0) := p1.at_ 1; clear hr p1 hb3)
  go_ret2
  exact ⟨rfl, p3⟩
set_option maxHeartbeats 1000000 in
set_option maxRecDepth 100000 in
theorem refshow_bool0 (w : World) : Calls Tryd.prog 19 #[.agg #[.int .i64 2, .int .i64 0, .string ⟨#[]⟩]] w fun e w' => e = .returned (.tuple #[.string ⟨#[102, 97, 108, 115, 101]⟩, .int .i64 0]) ∧ Below w.heap.size w w' := by
  have hr := fun w => refright_any 2 0 ⟨#[]⟩ w (by unfold maxLen; decide)
  have e : rightB 2 0 (ByteArray.toList ⟨#[]⟩) = true := by rw [ByteArray.toList_eq]; rfl
  rw [e] at hr
  clear e
  go_enter Tryd.func19, Tryd.ntmps19
  go_wp2_with (go_at_call 10; refine (hr _).mono ?_; rintro e w3 ⟨rfl, hb3⟩; obtain ⟨p1, p3⟩ := one_kept [.int .i64 2, .int .i64 0, .string ⟨#[]⟩] hb3; have a0 : w3.cell? ⟨w.heap.size, 0, none⟩ = some (.int .i64 2) := p1.at_ 0; have a1 : w3.cell? ⟨w.heap.size, 1, none⟩ = some (.int .i64 0) := p1.at_ 1; clear hr p1 hb3)
  go_ret2
  exact ⟨rfl, p3⟩
set_option maxHeartbeats 1000000 in
set_option maxRecDepth 100000 in
theorem refshow_bool1 (w : World) : Calls Tryd.prog 19 #[.agg #[.int .i64 2, .int .i64 1, .string ⟨#[]⟩]] w fun e w' => e = .returned (.tuple #[.string ⟨#[116, 114, 117, 101]⟩, .int .i64 0]) ∧ Below w.heap.size w w' := by
  have hr := fun w => refright_any 2 1 ⟨#[]⟩ w (by unfold maxLen; decide)
  have e : rightB 2 1 (ByteArray.toList ⟨#[]⟩) = true := by rw [ByteArray.toList_eq]; rfl
  rw [e] at hr
  clear e
  go_enter Tryd.func19, Tryd.ntmps19
  go_wp2_with (go_at_call 10; refine (hr _).mono ?_; rintro e w3 ⟨rfl, hb3⟩; obtain ⟨p1, p3⟩ := one_kept [.int .i64 2, .int .i64 1, .string ⟨#[]⟩] hb3; have a0 : w3.cell? ⟨w.heap.size, 0, none⟩ = some (.int .i64 2) := p1.at_ 0; have a1 : w3.cell? ⟨w.heap.size, 1, none⟩ = some (.int .i64 1) := p1.at_ 1; clear hr p1 hb3)
  go_ret2
  exact ⟨rfl, p3⟩
set_option maxHeartbeats 1000000 in
set_option maxRecDepth 100000 in
theorem refshow_int (n : Int) (w : World) (h0 : -9223372036854775808 ≤ n) (h1 : n ≤ 9223372036854775807) : Calls Tryd.prog 19 #[.agg #[.int .i64 1, .int .i64 n, .string ⟨#[]⟩]] w fun e w' => e = .returned (.tuple #[.string ⟨(Lib.itoa n).toArray⟩, .int .i64 0]) ∧ Below w.heap.size w w' := by
  have hr := fun w => refright_any 1 n ⟨#[]⟩ w (by unfold maxLen; decide)
  have e : rightB 1 n (ByteArray.toList ⟨#[]⟩) = true := by rw [ByteArray.toList_eq]; rfl
  rw [e] at hr
  have hf := fun W => digits_any n W h0 h1
  clear e h0 h1
  generalize (⟨(Lib.itoa n).toArray⟩ : ByteArray) = S at hf ⊢
  go_enter Tryd.func19, Tryd.ntmps19
  go_wp2_with (first | (go_at_call 10; refine (hr _).mono ?_; rintro e w3 ⟨rfl, hb3⟩; obtain ⟨p1, p3⟩ := one_kept [.int .i64 1, .int .i64 n, .string ⟨#[]⟩] hb3; have a0 : w3.cell? ⟨w.heap.size, 0, none⟩ = some (.int .i64 1) := p1.at_ 0; have a1 : w3.cell? ⟨w.heap.size, 1, none⟩ = some (.int .i64 n) := p1.at_ 1; clear hr p1 hb3) | (go_at_call 38; refine (hf _).mono ?_; rintro e w4 ⟨rfl, hb4⟩))
  go_ret2
  exact ⟨rfl, p3.trans (hb4.mono p3.size)⟩
set_option maxHeartbeats 1000000 in
set_option maxRecDepth 100000 in
theorem refshow_no (k n : Int) (s : ByteArray) (w : World) (hs : s.size ≤ maxLen) (hr0 : rightB k n s.toList = false) : Calls Tryd.prog 19 #[.agg #[.int .i64 k, .int .i64 n, .string s]] w fun e w' => e = .returned (.tuple #[.string ⟨#[]⟩, .int .i64 2]) ∧ Below w.heap.size w w' := by
  have hr := fun w => refright_any k n s w hs
  rw [hr0] at hr
  clear hr0
  go_enter Tryd.func19, Tryd.ntmps19
  go_wp2_with (go_at_call 10; refine (hr _).mono ?_; rintro e w3 ⟨rfl, hb3⟩; obtain ⟨p1, p3⟩ := one_kept [.int .i64 k, .int .i64 n, .string s] hb3)
  go_ret2
  exact ⟨rfl, p3⟩
theorem refshow_yes (k n : Int) (s : ByteArray) (w : World) (h0 : -9223372036854775808 ≤ n) (h1 : n ≤ 9223372036854775807) (hr : rightB k n s.toList = true) : Calls Tryd.prog 19 #[.agg #[.int .i64 k, .int .i64 n, .string s]] w fun e w' => e = .returned (.tuple #[.string (txtOf k n s), .int .i64 0]) ∧ Below w.heap.size w w' := by
  obtain ⟨r1, r2, r3, r4⟩ := right_text hr
  have hs : k ≠ 3 → s = ⟨#[]⟩ := fun h => tol_inj (by rw [r2 h, ByteArray.toList_eq])
  have hk : k = 0 ∨ k = 1 ∨ k = 2 ∨ k = 3 := by omega
  rcases hk with rfl | rfl | rfl | rfl
  · obtain rfl := hs (by decide)
    obtain rfl : n = 0 := by simpa [rightB, r2] using hr
    exact refshow_null w
  · obtain rfl := hs (by decide)
    exact refshow_int n w h0 h1
  · obtain rfl := hs (by decide)
    have hn : n = 0 ∨ n = 1 := by simpa [rightB, r2] using hr
    rcases hn with rfl | rfl
    · exact refshow_bool0 w
    · exact refshow_bool1 w
  · obtain rfl := r1 rfl
    have hsz : s.size ≤ 1024 := by
      have : s.toList.length ≤ 1024 := by simpa [rightB] using hr
      rwa [tol_len] at this
    exact refshow_text s w hsz

theorem fold_dd : ∀ (u : Nat), u ≤ 9223372036854775808 → (Lib.decDigits u).foldl nStep 0 = -(u : Int) := by
  intro u
  induction u using Nat.strongRecOn with
  | _ u ih =>
    intro hu
    by_cases h : u < 10
    · rw [dd_one h]
      show nStep 0 (UInt8.ofNat (48 + u)) = _
      unfold nStep
      rw [dig_nat u h, if_pos (by omega)]
      unfold wrap64
      omega
    · rw [dd_step h, List.foldl_append, ih (u / 10) (by omega) (by omega)]
      show nStep _ (UInt8.ofNat (48 + u % 10)) = _
      unfold nStep
      rw [dig_nat (u % 10) (by omega), if_pos (by omega)]
      unfold wrap64
      omega
theorem dd_pow : ∀ (k u : Nat), u < 10 ^ (k + 1) → (Lib.decDigits u).length ≤ k + 1 := by
  intro k
  induction k with
  | zero => intro u h; rw [dd_one (by omega)]; simp
  | succ k ih =>
    intro u h
    by_cases h10 : u < 10
    · rw [dd_one h10]; simp
    · rw [dd_step h10, List.length_append]
      have := ih (u / 10) (by rw [Nat.pow_succ] at h; omega)
      simp
      omega
theorem dd_len19 (u : Nat) (h : u ≤ 9223372036854775808) : (Lib.decDigits u).length ≤ 19 := dd_pow 18 u (by omega)
theorem dd_len20 (u : Nat) (h : u ≤ 9223372036854775808) : (Lib.decDigits u).length ≤ 20 := by have := dd_len19 u h; omega
theorem nof_itoa (n : Int) (h0 : -9223372036854775808 ≤ n) (h1 : n ≤ 9223372036854775807) : nOf (Lib.itoa n) = n := by
  have hl := Lib.itoa_length_le n h0 h1
  by_cases hn : 0 ≤ n
  · obtain ⟨u, rfl⟩ := Int.eq_ofNat_of_zero_le hn
    have hx := itoa_head h0 h1
    rw [Lib.itoa_nonneg] at hx hl ⊢
    have hd := pu_dd u (by omega)
    have hh : (Lib.decDigits u).head? ≠ some 45 := by
      cases hy : Lib.decDigits u with
      | nil => simp
      | cons c r =>
        rw [hy] at hd
        have := pu_head hd
        intro e
        have e' : c = 45 := by simpa using e
        subst e'
        have : (45 : UInt8).toNat = 45 := rfl
        omega
    unfold nOf nFold
    rw [if_neg hh, List.take_of_length_le (dd_len20 u (by omega)), fold_dd u (by omega)]
    unfold wrap64
    omega
  · obtain ⟨u, hu⟩ := Int.eq_ofNat_of_zero_le (a := -n) (by omega)
    obtain rfl : n = -(u : Int) := by omega
    rw [Lib.itoa_neg u (by omega)]
    unfold nOf nFold
    have hlen := dd_len19 u (by omega)
    rw [if_pos (show (45 :: Lib.decDigits u).head? = some 45 from rfl), List.take_of_length_le (by simp; omega)]
    show (Lib.decDigits u).foldl nStep (nStep 0 45) = _
    have : nStep 0 45 = 0 := by decide
    rw [this, fold_dd u (by omega)]
end Go.Proofs.YtlflhigphfnhoaaDoor

/- Plain: what the document's Parse (21) finds. -/
namespace Go.Proofs.YtlflhigphfnhoaaDoor
open Go.RowKit
set_option linter.unusedVariables false

/-- Each byte, and past a quote the byte behind it left out. -/
def runq : List UInt8 → List UInt8
  | [] => []
  | [c] => [c]
  | c :: d :: t => c :: (if c = 39 then runq t else runq (d :: t))
theorem runq_byte {c : UInt8} (h : c ≠ 39) (t : List UInt8) : runq (c :: t) = c :: runq t := by
  cases t with
  | nil => rfl
  | cons d t => simp [runq, h]
theorem runq_two (t : List UInt8) : runq (39 :: t) = 39 :: runq (t.drop 1) := by
  cases t with
  | nil => rfl
  | cons d t => simp [runq]
theorem runq_esc : ∀ l : List UInt8, runq (esc l) = l
  | [] => rfl
  | c :: t => by
    have e : esc (c :: t) = (if c = 39 then [39, 39] else [c]) ++ esc t := rfl
    rw [e]
    by_cases h : c = 39
    · rw [if_pos h]
      show runq (39 :: 39 :: esc t) = _
      rw [runq_two]
      show 39 :: runq (esc t) = _
      rw [runq_esc t, h]
    · rw [if_neg h]
      show runq (c :: esc t) = _
      rw [runq_byte h, runq_esc t]
/-- What stands between the first byte and the last. -/
def midOf (l : List UInt8) : List UInt8 := (l.drop 1).take (l.length - 2)
theorem mid_quote (t : List UInt8) : midOf (quoteL t) = esc t := by
  unfold midOf quoteL
  show (esc t ++ [39]).take ((39 :: (esc t ++ [39])).length - 2) = _
  rw [show (39 :: (esc t ++ [39])).length - 2 = (esc t).length from by simp, List.take_left]
/-- What is read so far, and what is still to be read. -/
def RqAt (m d : List UInt8) (j : Nat) : Prop := d ++ runq (m.drop j) = runq m
theorem RqAt.byte {m d : List UInt8} {j : Nat} (h : RqAt m d j) (hj : j < m.length) (hc : m[j] ≠ 39) : RqAt m (d ++ [m[j]]) (j + 1) := by
  unfold RqAt at h ⊢
  rw [List.drop_eq_getElem_cons hj, runq_byte hc] at h
  rw [← h]; simp
theorem RqAt.two {m d : List UInt8} {j : Nat} (h : RqAt m d j) (hj : j < m.length) (hc : m[j] = 39) : RqAt m (d ++ [m[j]]) (j + 2) := by
  unfold RqAt at h ⊢
  rw [List.drop_eq_getElem_cons hj, hc, runq_two, List.drop_drop] at h
  rw [← h, hc]; simp
theorem RqAt.done {m d : List UInt8} {j : Nat} (h : RqAt m d j) (hj : m.length ≤ j) : d = runq m := by
  unfold RqAt at h
  rw [List.drop_of_length_le hj] at h
  rw [← h]; simp [runq]
theorem RqAt.len {m d : List UInt8} {j : Nat} (h : RqAt m d j) : d.length ≤ (runq m).length := by
  unfold RqAt at h
  rw [← h]; simp
theorem runq_len : ∀ (n : Nat) (l : List UInt8), l.length ≤ n → (runq l).length ≤ l.length
  | _, [], _ => by simp [runq]
  | n, [c], _ => by simp [runq]
  | 0, _ :: _ :: _, hn => by simp at hn
  | n + 1, c :: d :: t, hn => by
    have h1 := runq_len n t (by simp at hn; omega)
    have h2 := runq_len n (d :: t) (by simp at hn ⊢; omega)
    by_cases h : c = 39
    · subst h; rw [runq_two]; simp at h1 ⊢; omega
    · rw [runq_byte h]; simp at h2 ⊢; omega
theorem par_quoted (s : ByteArray) (hq : s.toList.head? = some 39) : parO s = if (runq (midOf s.data.toList)).length ≤ 1024 ∧ (⟨(quoteL (runq (midOf s.data.toList))).toArray⟩ : ByteArray) = s then some (3, 0, ⟨(runq (midOf s.data.toList)).toArray⟩) else none := by
  have hw : ∀ (x : UInt8) (l : List UInt8), x ≠ 39 → s.toList ≠ x :: l := by
    intro x l hx e
    rw [e] at hq
    exact hx (by simpa using hq)
  have e1 : parO s = (match ptO s with | some t => some (3, 0, t) | none => none) := by
    unfold parO
    rw [if_neg (hw _ _ (by decide)), if_neg (hw _ _ (by decide)), if_neg (hw _ _ (by decide)), if_pos hq]
    cases ptO s <;> rfl
  rw [e1]
  by_cases hc : (runq (midOf s.data.toList)).length ≤ 1024 ∧ (⟨(quoteL (runq (midOf s.data.toList))).toArray⟩ : ByteArray) = s
  · rw [if_pos hc]
    have h2 := ptO_quote ⟨(runq (midOf s.data.toList)).toArray⟩ (by show (runq (midOf s.data.toList)).toArray.size ≤ 1024; simpa using hc.1)
    have h3 : (⟨(quoteL (⟨(runq (midOf s.data.toList)).toArray⟩ : ByteArray).data.toList).toArray⟩ : ByteArray) = s := hc.2
    rw [h3] at h2
    rw [h2]
  · rw [if_neg hc]
    cases hp : ptO s with
    | none => rfl
    | some t =>
      exfalso
      obtain ⟨h1, h2⟩ := quote_of_ptO hp hq
      have hm : runq (midOf s.data.toList) = t.data.toList := by
        have : s.data.toList = quoteL t.data.toList := by rw [h2]
        rw [this, mid_quote, runq_esc]
      rw [hm] at hc
      exact hc ⟨by rw [txt_len']; exact h1, h2.symm⟩
theorem step_in (n : Int) (c : UInt8) (h : -9223372036854775808 ≤ n ∧ n ≤ 9223372036854775807) : -9223372036854775808 ≤ nStep n c ∧ nStep n c ≤ 9223372036854775807 := by
  unfold nStep
  split
  · unfold wrap64; omega
  · exact h
theorem fold_in : ∀ (l : List UInt8) (n : Int), (-9223372036854775808 ≤ n ∧ n ≤ 9223372036854775807) → -9223372036854775808 ≤ l.foldl nStep n ∧ l.foldl nStep n ≤ 9223372036854775807
  | [], n, h => h
  | c :: t, n, h => fold_in t (nStep n c) (step_in n c h)
theorem nof_in (l : List UInt8) : -9223372036854775808 ≤ nOf l ∧ nOf l ≤ 9223372036854775807 := by
  unfold nOf
  split
  · exact fold_in _ 0 (by omega)
  · unfold wrap64; omega
theorem par_num (s : ByteArray) (h1 : s.toList ≠ [110, 117, 108, 108]) (h2 : s.toList ≠ [102, 97, 108, 115, 101]) (h3 : s.toList ≠ [116, 114, 117, 101]) (hq : ¬ (2 ≤ s.size ∧ s.toList.head? = some 39)) :
    parO s = if (⟨(Lib.itoa (nOf s.data.toList)).toArray⟩ : ByteArray) = s then some (1, nOf s.data.toList, ⟨#[]⟩) else none := by
  cases hp : parO s with
  | none =>
    rw [if_neg]
    intro e
    have hb : -9223372036854775808 ≤ nOf s.data.toList ∧ nOf s.data.toList ≤ 9223372036854775807 := nof_in _
    have := par_txt (k := 1) (n := nOf s.data.toList) (t := ⟨#[]⟩) (by rw [ByteArray.toList_eq]; rfl) hb.1 hb.2
    have e2 : txtOf 1 (nOf s.data.toList) ⟨#[]⟩ = s := e
    rw [e2, hp] at this
    cases this
  | some v =>
    obtain ⟨k, n, t⟩ := v
    obtain ⟨hr, n0, n1, hx⟩ := txt_par hp
    obtain ⟨r1, r2, r3, r4⟩ := right_text hr
    have hk : k = 0 ∨ k = 1 ∨ k = 2 ∨ k = 3 := by omega
    rcases hk with rfl | rfl | rfl | rfl
    · exact absurd (by rw [← hx]; exact tl_mk [110, 117, 108, 108]) h1
    · have ht : t = ⟨#[]⟩ := tol_inj (by rw [r2 (by decide), ByteArray.toList_eq])
      subst ht
      have hs : s.data.toList = Lib.itoa n := by rw [← hx]; rfl
      rw [hs, nof_itoa n n0 n1, if_pos (show (⟨(Lib.itoa n).toArray⟩ : ByteArray) = s from hx)]
    · have hn : n = 0 ∨ n = 1 := by simpa [rightB, r2] using hr
      rcases hn with rfl | rfl
      · exact absurd (by rw [← hx]; exact tl_mk [102, 97, 108, 115, 101]) h2
      · exact absurd (by rw [← hx]; exact tl_mk [116, 114, 117, 101]) h3
    · exfalso
      refine hq ⟨?_, ?_⟩
      · rw [← hx]
        show 2 ≤ (quoteL t.data.toList).toArray.size
        simp [quoteL]
      · rw [← hx]
        exact congrArg List.head? (tl_mk (quoteL t.data.toList))
end Go.Proofs.YtlflhigphfnhoaaDoor
