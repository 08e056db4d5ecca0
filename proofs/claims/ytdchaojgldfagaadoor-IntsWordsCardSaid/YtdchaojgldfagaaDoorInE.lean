/- The first number of a list that differs from its head (slices.IndexFunc with runsOf's closure). -/
import Derived.Test.YtdchaojgldfagaaDoorInD
namespace Go.Proofs.YtdchaojgldfagaaDoor
open Go.RowKit
set_option linter.unusedVariables false

/-- How many numbers at a list's front are x. -/
def runLen (x : Int) : List Int → Nat
  | [] => 0
  | y :: t => if y = x then runLen x t + 1 else 0
theorem runLen_le (x : Int) : ∀ l : List Int, runLen x l ≤ l.length
  | [] => Nat.le_refl _
  | y :: t => by
    rw [runLen]
    have := runLen_le x t
    split <;> simp <;> omega
theorem runLen_split (x : Int) : ∀ l : List Int, l = List.replicate (runLen x l) x ++ l.drop (runLen x l) ∧ (l.drop (runLen x l)).head? ≠ some x
  | [] => ⟨rfl, by simp [runLen]⟩
  | y :: t => by
    rw [runLen]
    by_cases h : y = x
    · subst h
      obtain ⟨h1, h2⟩ := runLen_split y t
      rw [if_pos rfl, List.replicate_succ, List.drop_succ_cons]
      exact ⟨by rw [List.cons_append, ← h1], h2⟩
    · rw [if_neg h]
      exact ⟨rfl, by simpa using h⟩
theorem runLen_pos (x : Int) (t : List Int) : 1 ≤ runLen x (x :: t) := by rw [runLen, if_pos rfl]; omega
/-- A list's first run, and the others. -/
theorem runsL_step (x : Int) (t : List Int) : runsL (x :: t) = (runLen x (x :: t), x) :: runsL ((x :: t).drop (runLen x (x :: t))) := by
  obtain ⟨h1, h2⟩ := runLen_split x (x :: t)
  have h3 := runLen_pos x t
  obtain ⟨m, hm⟩ : ∃ m, runLen x (x :: t) = m + 1 := ⟨runLen x (x :: t) - 1, by omega⟩
  rw [hm] at h1 h2 ⊢
  conv => lhs; rw [h1]
  exact runsL_head x _ h2 m
theorem runLen_all {x : Int} : ∀ {l : List Int}, (∀ y ∈ l, y = x) → runLen x l = l.length
  | [], _ => rfl
  | y :: t, h => by rw [runLen, if_pos (h y (by simp)), runLen_all (fun z hz => h z (List.mem_cons_of_mem _ hz))]; rfl
theorem runLen_at {x : Int} : ∀ {l : List Int} {k : Nat} (hk : k < l.length), (∀ j (hj : j < l.length), j < k → l[j] = x) → l[k] ≠ x → runLen x l = k
  | y :: t, 0, _, _, h => by rw [runLen, if_neg (by simpa using h)]
  | y :: t, k + 1, hk, ha, h => by
    have h0 : y = x := ha 0 (by simp) (by omega)
    rw [runLen, if_pos h0, runLen_at (l := t) (k := k) (by simpa using hk) (fun j hj hjk => ha (j + 1) (by simpa using hj) (by omega)) (by simpa using h)]

set_option maxHeartbeats 1000000 in
theorem clo_any (q b o m c : Nat) (x y : Int) (W : World) (hm : 0 < m) (hm2 : m ≤ 4096) (hq : W.cell? ⟨q, 0, none⟩ = some (.slice (some ⟨b, o, none⟩) m c)) (hx : W.cell? ⟨b, o, none⟩ = some (.int .i64 x)) :
    Calls Tryd.prog 36 #[.int .i64 y, .pointer (some ⟨q, 0, none⟩)] W fun e W' => e = .returned (.bool (!decide (y = x))) ∧ W = W' := by
  go_enter Tryd.func36, Tryd.ntmps36
  go_wp2
  go_ret
  exact ⟨rfl, rfl⟩

set_option maxRecDepth 100000 in
set_option maxHeartbeats 2000000 in
theorem index_any (q b o c : Nat) (x : Int) (t : List Int) (W : World) (hl : Ints W (some ⟨b, o, none⟩) (x :: t)) (hn : (x :: t).length ≤ 4096) (hq : W.cell? ⟨q, 0, none⟩ = some (.slice (some ⟨b, o, none⟩) (x :: t).length c)) :
    Calls Tryd.prog 35 #[.slice (some ⟨b, o, none⟩) (x :: t).length c, .func (.func 36) #[] #[.pointer (some ⟨q, 0, none⟩)]] W fun e W' =>
      e = .returned (.int .i64 (if runLen x (x :: t) = (x :: t).length then -1 else (runLen x (x :: t) : Int))) ∧ W = W' := by
  obtain ⟨b0, o0, e0, hx0⟩ := hl 0 (by simp)
  injection e0 with e0
  injection e0 with e1 e2
  subst e1 e2
  have hclo := fun y => clo_any q b o (x :: t).length c x y W (by simp) hn hq hx0
  obtain ⟨l, hL⟩ : ∃ l, x :: t = l := ⟨_, rfl⟩
  rw [hL] at hl hn ⊢
  have HALL : Hid (∀ k (h : k < l.length), (∀ j (hj : j < l.length), j < k → l[j] = x) → l[k] ≠ x → (if runLen x l = l.length then -1 else (runLen x l : Int)) = (k : Int)) := fun k h h1 h2 => by
    rw [runLen_at h h1 h2, if_neg (by omega)]
  have HEND : Hid ((∀ j (hj : j < l.length), l[j] = x) → (if runLen x l = l.length then -1 else (runLen x l : Int)) = -1) := fun h => by
    rw [runLen_all (fun y hy => by obtain ⟨i, hi, rfl⟩ := List.getElem_of_mem hy; exact h i hi), if_pos rfl]
  generalize (if runLen x l = l.length then -1 else (runLen x l : Int)) = R at *
  have HL := Lib.hid hl
  have HCLO := Lib.hid hclo
  obtain ⟨n, hn2⟩ : ∃ n, l.length = n := ⟨_, rfl⟩
  have HN := Lib.hid hn2
  rw [hn2] at hn ⊢
  clear hl hclo hq hx0 hn2 hL
  go_enter Tryd.func35, Tryd.ntmps35
  go_wp2
  go_loop [8] (fun i => ∃ k : Nat, k ≤ n ∧ i = .int .i64 k ∧ ∀ j (hj : j < l.length), j < k → l[j] = x) (fun i => n - (intOf i).toNat)
  case atStart => exact ⟨0, by omega, rfl, fun j _ h => by omega⟩
  case round =>
    obtain ⟨k, hk, rfl, hall⟩ := hrel
    have HAL := Lib.hid hall
    clear hall
    by_cases hlt : k < n
    · have hk1 : k < l.length := by rw [HN.out]; exact hlt
      obtain ⟨b', o', e', hc⟩ := HL.out k hk1
      injection e' with e'
      injection e' with e1 e2
      subst e1 e2
      have HK : Hid (k < n) := hlt
      by_cases hy : l[k] = x
      · have HNX : Hid (∀ j (hj : j < l.length), j < k + 1 → l[j] = x) := fun j hj h => by
          by_cases e : j = k
          · subst e; exact hy
          · exact HAL.out j hj (by omega)
        have hcl := HCLO.out l[k]
        rw [hy] at hc hcl
        have hd : (!decide (x = x)) = false := by simp
        rw [hd] at hcl
        have HCL := Lib.hid hcl
        clear hcl hd hy HCLO
        go_wp2_with (go_at_call 36; refine HCL.out.mono ?_; rintro e w1 ⟨rfl, rfl⟩)
        go_round
        case rel => exact ⟨k + 1, HK.out, by go_num, HNX.out⟩
        case measure => simp [intOf]; have := HK.out; omega
      · have hres := HALL.out k hk1 HAL.out hy
        have hcl := HCLO.out l[k]
        have hd : (!decide (l[k] = x)) = true := by simp [hy]
        rw [hd] at hcl
        generalize l[k] = y at hc hcl
        have HCL := Lib.hid hcl
        have HRES := Lib.hid hres
        clear hcl hd hy HCLO hres
        go_wp2_with (go_at_call 36; refine HCL.out.mono ?_; rintro e w1 ⟨rfl, rfl⟩)
        go_ret
        exact ⟨by rw [HRES.out]; rfl, rfl⟩
    · obtain rfl : k = n := by omega
      have hres := HEND.out (fun j hj => HAL.out j hj (by rw [← HN.out]; exact hj))
      have HRES := Lib.hid hres
      clear hres HCLO
      go_wp2
      go_ret
      exact ⟨by rw [HRES.out]; rfl, rfl⟩
end Go.Proofs.YtdchaojgldfagaaDoor
