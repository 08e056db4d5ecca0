/- The document's list, place. -/
import Derived.Test.YtjmkipbolldhgaaDoorDcH
namespace Go.Proofs.YtjmkipbolldhgaaDoor
open Go.RowKit
set_option linter.unusedVariables false

theorem plc_iff : ∀ {R : List Tx}, Rise R → ∀ (x : Tx) (i : Nat), i < plc R x ↔ ∃ h : i < R.length, ltT R[i] x = true
  | [], _, x, i => by simp [plc]
  | a :: R, hR, x, i => by
    unfold Rise at hR
    rw [List.pairwise_cons] at hR
    cases ha : ltT a x with
    | true =>
      have e : plc (a :: R) x = plc R x + 1 := by
        show ((a :: R).filter (fun y => ltT y x)).length = _
        rw [List.filter_cons, if_pos ha, List.length_cons]; rfl
      rw [e]
      cases i with
      | zero => exact ⟨fun _ => ⟨by simp, ha⟩, fun _ => by omega⟩
      | succ i =>
        have ih := plc_iff hR.2 x i
        constructor
        · intro h
          obtain ⟨h1, h2⟩ := ih.1 (by omega)
          exact ⟨by simpa using h1, h2⟩
        · rintro ⟨h1, h2⟩
          have := ih.2 ⟨by simpa using h1, h2⟩
          omega
    | false =>
      have hno : ∀ y ∈ R, ltT y x = false := fun y hy => by
        cases h : ltT y x with
        | false => rfl
        | true => rw [ltT_trans (hR.1 y hy) h] at ha; cases ha
      have e : plc (a :: R) x = 0 := by
        show ((a :: R).filter (fun y => ltT y x)).length = _
        rw [List.filter_cons, if_neg (by rw [ha]; decide), List.length_eq_zero_iff, List.filter_eq_nil_iff]
        intro y hy
        rw [hno y hy]; decide
      rw [e]
      refine ⟨fun h => by omega, ?_⟩
      rintro ⟨h1, h2⟩
      cases i with
      | zero => rw [show (a :: R)[0] = a from rfl, ha] at h2; cases h2
      | succ i =>
        have hi : i < R.length := by simpa using h1
        rw [show (a :: R)[i + 1] = R[i] from rfl, hno _ (List.getElem_mem hi)] at h2; cases h2
theorem mem_plc {R : List Tx} (hR : Rise R) {x : Tx} (h : plc R x < R.length) : x ∈ R ↔ R[plc R x] = x := by
  constructor
  · intro hx
    exact (plc_of hR hx).2
  · intro e
    rw [← e]; exact List.getElem_mem h

set_option maxHeartbeats 2000000 in
theorem refright7_any (A : Option Addr) (cap : Nat) (l : List Tx) (W : World) (hl : Strs W A l) (hn : l.length ≤ 9223372036854775807) (hs : ∀ x ∈ l, x.length ≤ 9223372036854775807) :
    Calls Tryd.prog 21 #[.slice A l.length cap] W fun e W' => e = .returned (.bool (decide (rightT l))) ∧ Below W.heap.size W W' := by
  have HL := Lib.hid hl
  obtain ⟨n, hn2⟩ : ∃ n, l.length = n := ⟨_, rfl⟩
  have HN := Lib.hid hn2
  have HREF : Hid (Below W.heap.size W W) := Below.refl _ _
  rw [hn2] at hn ⊢
  have HS := Lib.hid hs
  clear hl hn2 hs
  go_enter Tryd.func21, Tryd.ntmps21
  go_wp2
  go_loop [3] (fun i => ∃ k : Nat, k ≤ n ∧ i = .int .i64 k ∧ ∀ j (hj : j < l.length), j < k → (l[j]).length ≤ 1024) (fun i => n - (intOf i).toNat)
  case atStart => exact ⟨0, by omega, rfl, fun j _ h => by omega⟩
  case round =>
    obtain ⟨k, hk, rfl, hall⟩ := hrel
    have HAL := Lib.hid hall
    clear hall
    by_cases hlt : k < n
    · have hk1 : k < l.length := by rw [HN.out]; exact hlt
      obtain ⟨b', o', rfl, hc⟩ := HL.out k hk1
      have HK : Hid (k < n) := hlt
      have hsz := str_size l[k]
      by_cases hy : (l[k]).length ≤ 1024
      · have HNX : Hid (∀ j (hj : j < l.length), j < k + 1 → (l[j]).length ≤ 1024) := fun j hj h => by
          by_cases e : j = k
          · subst e; exact hy
          · exact HAL.out j hj (by omega)
        generalize str l[k] = y at hc hsz
        have h2 : ¬ (1024 : Int) < (y.size : Int) := by omega
        have h3 : ¬ 1024 < y.size := by omega
        clear hsz hy
        go_wp2
        go_round
        case rel => exact ⟨k + 1, HK.out, by go_num, HNX.out⟩
        case measure => simp [intOf]; have := HK.out; omega
      · have HR : Hid (decide (rightT l) = false) := decide_eq_false (fun h => hy (h.2 _ (List.getElem_mem hk1)))
        generalize str l[k] = y at hc hsz
        have h2 : (1024 : Int) < (y.size : Int) := by omega
        have h3 : 1024 < y.size := by omega
        clear hsz hy
        go_wp2
        go_ret
        exact ⟨congrArg (fun r => Ending.returned (Value.bool r)) HR.out.symm, HREF.out⟩
    · obtain rfl : k = n := by omega
      have hall2 : ∀ x ∈ l, x.length ≤ 1024 := fun x hx => by
        obtain ⟨i, hi, rfl⟩ := List.getElem_of_mem hx
        exact HAL.out i hi (by rw [← HN.out]; exact hi)
      by_cases h4 : k ≤ 4096
      · have HR : Hid (decide (rightT l) = true) := decide_eq_true ⟨by rw [HN.out]; exact h4, hall2⟩
        have h5 : (k : Int) ≤ 4096 := by omega
        clear hall2
        go_wp2
        go_ret
        exact ⟨congrArg (fun r => Ending.returned (Value.bool r)) HR.out.symm, HREF.out⟩
      · have HR : Hid (decide (rightT l) = false) := decide_eq_false (fun h => h4 (by rw [← HN.out]; exact h.1))
        have h5 : ¬ (k : Int) ≤ 4096 := by omega
        clear hall2
        go_wp2
        go_ret
        exact ⟨congrArg (fun r => Ending.returned (Value.bool r)) HR.out.symm, HREF.out⟩

set_option maxRecDepth 100000 in
set_option maxHeartbeats 4000000 in
theorem place_any (A : Option Addr) (cap : Nat) (R : List Tx) (x : Tx) (W : World) (hl : Strs W A R) (hR : Rise R) (hn : R.length ≤ 8192) :
    Calls Tryd.prog 25 #[.slice A R.length cap, .string (str x)] W fun e W' => e = .returned (.tuple #[.int .i64 (plc R x), .bool (decide (x ∈ R))]) ∧ Below W.heap.size W W' := by
  have HL := Lib.hid hl
  obtain ⟨n, hn2⟩ : ∃ n, R.length = n := ⟨_, rfl⟩
  have HN := Lib.hid hn2
  have HREF : Hid (Below W.heap.size W W) := Below.refl _ _
  have hpl : plc R x ≤ n := by rw [← hn2]; exact plc_le R x
  obtain ⟨P, hP⟩ : ∃ P, plc R x = P := ⟨_, rfl⟩
  have hlt1 : ∀ i (h : i < R.length), i < P → Op.bytesLess (str R[i]).toList (str x).toList = true := fun i h hi => by
    obtain ⟨_, h2⟩ := (plc_iff hR x i).1 (by omega)
    rw [ByteArray.toList_eq, ByteArray.toList_eq]
    exact h2
  have hlt2 : ∀ i (h : i < R.length), P ≤ i → Op.bytesLess (str R[i]).toList (str x).toList = false := fun i h hi => by
    cases hh : Op.bytesLess (str R[i]).toList (str x).toList with
    | false => rfl
    | true => rw [ByteArray.toList_eq, ByteArray.toList_eq] at hh; have := (plc_iff hR x i).2 ⟨h, hh⟩; omega
  have hno : ¬ P < n → decide (x ∈ R) = false := fun h => decide_eq_false fun hx => by
    obtain ⟨h2, _⟩ := plc_of hR hx
    omega
  have hye : ∀ h : P < R.length, decide (x ∈ R) = ((str R[P]).toList == (str x).toList) := fun h => by
    subst hP
    have hm := mem_plc hR h
    by_cases e : R[plc R x] = x
    · rw [decide_eq_true (hm.2 e), e]; simp
    · rw [decide_eq_false (fun hx => e (hm.1 hx)), str_ne e]
  rw [hn2] at hn ⊢
  rw [hP] at hpl ⊢
  have H1 := Lib.hid hlt1
  have H2 := Lib.hid hlt2
  have HNO := Lib.hid hno
  have HYE := Lib.hid hye
  generalize decide (x ∈ R) = dd at *
  generalize str x = sx at *
  clear hl hn2 hlt1 hlt2 hP hR hno hye
  go_enter Tryd.func25, Tryd.ntmps25
  go_wp2
  go_loop [6, 7] (fun i j => ∃ p q : Nat, p ≤ P ∧ P ≤ q ∧ q ≤ n ∧ i = .int .i64 p ∧ j = .int .i64 q) (fun i j => (intOf j).toNat - (intOf i).toNat)
  case atStart => exact ⟨0, n, by omega, hpl, Nat.le_refl _, rfl, rfl⟩
  case round =>
    obtain ⟨p, q, hp, hq, hqn, rfl, rfl⟩ := hrel
    by_cases hlt : p < q
    · obtain ⟨m, hm⟩ : ∃ m, (p + q) / 2 = m := ⟨_, rfl⟩
      have hmq : m < q := by omega
      have hpm : p ≤ m := by omega
      have hmn : m < n := by omega
      have hw : IntKind.i64.wrap ((p : Int) + (q : Int)) = (p : Int) + (q : Int) := by rw [IntKind.wrap_i64]; omega
      have hd : ((p : Int) + (q : Int)).tdiv 2 = (m : Int) := by rw [Int.tdiv_eq_ediv_of_nonneg (by omega)]; omega
      have hd2 : ((p : Int) + (q : Int)) / 2 = (m : Int) := by omega
      have hk1 : m < R.length := by rw [HN.out]; exact hmn
      obtain ⟨b', o', rfl, hc⟩ := HL.out m hk1
      have h1 := H1.out m hk1
      have h2 := H2.out m hk1
      generalize str R[m] = y at hc h1 h2
      have HK : Hid (p < q ∧ m < q ∧ p ≤ m ∧ m < n) := ⟨hlt, hmq, hpm, hmn⟩
      have HPQ : Hid (p ≤ P ∧ P ≤ q ∧ q ≤ n) := ⟨hp, hq, hqn⟩
      have hmn2 : (m : Int) < (n : Int) := by omega
      by_cases hlo : m < P
      · have h3 := h1 hlo
        clear h1 h2
        go_wp2
        go_round
        case rel => exact ⟨m + 1, q, hlo, HPQ.out.2.1, HPQ.out.2.2, by go_num, rfl⟩
        case measure => simp [intOf]; have := HK.out; omega
      · have h3 := h2 (by omega)
        clear h1 h2
        go_wp2
        go_round
        case rel => exact ⟨p, m, HPQ.out.1, Nat.le_of_not_lt hlo, Nat.le_of_lt HK.out.2.2.2, rfl, rfl⟩
        case measure => simp [intOf]; have := HK.out; omega
    · obtain rfl : p = q := by omega
      obtain rfl : p = P := by omega
      by_cases hlt2 : p < n
      · have hk1 : p < R.length := by rw [HN.out]; exact hlt2
        have hy := HYE.out hk1
        obtain ⟨b', o', rfl, hc⟩ := HL.out p hk1
        generalize str R[p] = y at hc hy
        have hlt3 : (p : Int) < (n : Int) := by omega
        go_wp2
        go_quiet (fail)
        go_wp2
        go_ret2
        exact ⟨by rw [hy]; rfl, Below.drewN' HREF.out _⟩
      · have hd := HNO.out hlt2
        go_wp2
        go_quiet (fail)
        go_wp2
        go_ret2
        exact ⟨by rw [hd]; rfl, Below.drewN' HREF.out _⟩
end Go.Proofs.YtjmkipbolldhgaaDoor
