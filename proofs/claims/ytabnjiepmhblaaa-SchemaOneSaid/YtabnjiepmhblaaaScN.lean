/- The document's Fits. -/
import Derived.Test.YtabnjiepmhblaaaScV
import Derived.Test.YtabnjiepmhblaaaOne0
namespace Go.Proofs.Ytabnjiepmhblaaa
open Go.RowKit Go.Shelf Go.Maps
set_option linter.unusedVariables false

set_option maxRecDepth 100000 in
set_option maxHeartbeats 8000000 in
theorem reffits_any (A B : Option Addr) (cap rcap : Nat) (l : List Col) (r : List Vl) (W : World) (hl : Cols W A l) (hr : Vls W B r) (hn : l.length ≤ 4000000000000000000) (hm : r.length ≤ 4000000000000000000) :
    Calls Try.prog 12 #[.slice A l.length cap, .slice B r.length rcap] W fun e W' => e = .returned (.bool (rightC l && fitsL l r)) ∧ Below W.heap.size W W' := by
  have HRI := Lib.hid (refrightC_any A cap l W hl hn)
  cases hri : rightC l with
  | false =>
    rw [hri] at HRI
    clear hl hr hri
    generalize l.length = n at *
    generalize r.length = m at *
    go_enter Try.func12, Try.ntmps12
    go_wp2_with (first | (go_at_call 10; refine HRI.out.mono ?_; rintro e w1 ⟨rfl, rfl⟩; clear HRI))
    go_ret
    exact ⟨rfl, Below.refl _ _⟩
  | true =>
  rw [hri] at HRI
  rw [Bool.true_and]
  by_cases hlen : r.length = l.length
  · obtain ⟨z, hz⟩ : ∃ z, fitsL l r = z := ⟨_, rfl⟩
    rw [hz]
    have HZ := Lib.hid hz
    have HL := Lib.hid hl
    have HV := Lib.hid hr
    have HLEN := Lib.hid hlen
    have hm2 := hm
    rw [hlen]
    clear hl hr hz hm hri
    obtain ⟨n, hn2⟩ : ∃ n, l.length = n := ⟨_, rfl⟩
    rw [hn2] at hn HRI ⊢
    have HN := Lib.hid hn2
    clear hn2 hlen hm2
    go_enter Try.func12, Try.ntmps12
    go_wp2_with (first | (go_at_call 10; refine HRI.out.mono ?_; rintro e w1 ⟨rfl, rfl⟩; clear HRI))
    go_loopw [6, 7] (fun i u wr => ∃ k : Nat, k ≤ n ∧ i = .int .i64 k ∧ (∀ j (a : j < l.length) (b : j < r.length), j < k → vfit l[j] r[j] = true) ∧ Below W.heap.size W wr) (fun i _ _ => n - (intOf i).toNat)
    case atStart => exact ⟨0, by omega, rfl, fun j _ _ h => by omega, Below.refl _ _⟩
    case round =>
      obtain ⟨k, hk, rfl, hall, hbel⟩ := hrel
      have HALL := Lib.hid hall
      have HBEL := Lib.hid hbel
      clear hall hbel
      by_cases hlt : k < n
      · have h1 : k < l.length := by rw [HN.out]; exact hlt
        have h2 : k < r.length := by rw [HLEN.out, HN.out]; exact hlt
        obtain ⟨b, o, rfl, hcb⟩ := HL.out k h1
        obtain ⟨b2, o2, rfl, hvb⟩ := HV.out k h2
        have hcb1 := hcb.keep HBEL.out hcb.lt
        have hvb1 := hvb.keep HBEL.out hvb.lt
        obtain ⟨c0, c1, c2⟩ := hcb1
        obtain ⟨v0, v1, v2⟩ := hvb1
        have HK : Hid (k < n) := hlt
        have HBAD : Hid (vfit l[k] r[k] = false → z = false) := fun h => by rw [← HZ.out]; exact fitsL_bad h1 h2 h
        have HGD : Hid (vfit l[k] r[k] = true → _) := fun h => fits_step h1 h2 h HALL.out
        have hvf : vfit l[k] r[k] = (vlR r[k] && (decide (r[k].kind = l[k].kind) || (decide (r[k].kind = 0) && l[k].null))) := rfl
        generalize vfit l[k] r[k] = vf at hvf HBAD HGD
        clear c0 hcb hvb
        generalize l[k] = c at c1 c2 hvf
        generalize r[k] = v at v0 v1 v2 hvf
        have hR := vrefright_any v.kind v.num v.text wr v.bound
        unfold vlR at hvf
        generalize rightB v.kind v.num v.text.toList = bn at hR hvf
        have HRR := Lib.hid hR
        have HVF := Lib.hid hvf
        clear hR h1 h2 hvf
        generalize v.kind = kd at v0 HVF HRR
        generalize v.num = nm at v1 HRR
        generalize v.text = tx at v2 HRR
        generalize c.kind = ck at c1 HVF
        generalize c.null = cn at c2 HVF
        go_upto_region 8 with (first | (go_at_call 31; refine HRR.out.mono ?_; rintro e w2 ⟨rfl, hb2⟩; have HB2 := Lib.hid (HBEL.out.trans (hb2.mono HBEL.out.size)); have d0 := cell_below hb2 v0; have d1 := cell_below hb2 c1; have d2 := cell_below hb2 c2; clear hb2 HRR))
        clear v0 v1 v2 c1 c2
        cases bn with
        | false =>
          have HX : Hid (z = false) := HBAD.out (by rw [HVF.out]; rfl)
          clear HBAD HGD HVF
          go_quiet (fail)
          go_wp2
          go_ret
          exact ⟨congrArg (fun r => Ending.returned (Value.bool r)) HX.out.symm, Below.drewN' HB2.out _⟩
        | true =>
          by_cases hkc : kd = ck
          · have hq : (kd == ck) = true := by rw [beq_iff_eq]; exact hkc
            have HX := Lib.hid (HGD.out (by rw [HVF.out]; simp [hkc]))
            clear HBAD HGD HVF
            go_quiet (fail)
            go_wp2
            go_roundw
            case rel => exact ⟨k + 1, HK.out, by go_num, HX.out, Below.drewN' HB2.out _⟩
            case measure => have := HK.out; simp [intOf]; omega
          · have hq : (kd == ck) = false := by rw [beq_eq_false_iff_ne]; exact hkc
            by_cases hk0 : kd = 0
            · subst hk0
              cases cn with
              | true =>
                have HX := Lib.hid (HGD.out (by rw [HVF.out]; simp))
                clear HBAD HGD HVF
                go_quiet (fail)
                go_wp2
                go_roundw
                case rel => exact ⟨k + 1, HK.out, by go_num, HX.out, Below.drewN' HB2.out _⟩
                case measure => have := HK.out; simp [intOf]; omega
              | false =>
                have HX : Hid (z = false) := HBAD.out (by rw [HVF.out]; simp [hkc])
                clear HBAD HGD HVF
                go_quiet (fail)
                go_wp2
                go_ret
                exact ⟨congrArg (fun r => Ending.returned (Value.bool r)) HX.out.symm, Below.drewN' HB2.out _⟩
            · have hq0 : (kd == 0) = false := by rw [beq_eq_false_iff_ne]; exact hk0
              have HX : Hid (z = false) := HBAD.out (by rw [HVF.out]; simp [hkc, hk0])
              clear HBAD HGD HVF
              go_quiet (fail)
              go_wp2
              go_ret
              exact ⟨congrArg (fun r => Ending.returned (Value.bool r)) HX.out.symm, Below.drewN' HB2.out _⟩
      · obtain rfl : k = n := by omega
        have HX : Hid (z = true) := by show z = true; rw [← HZ.out]; exact fitsL_good HLEN.out fun j h1 h2 => HALL.out j h1 h2 (by rw [← HN.out]; exact h1)
        go_wp2
        go_ret
        exact ⟨congrArg (fun r => Ending.returned (Value.bool r)) HX.out.symm, HBEL.out⟩
  · rw [fitsL_no hlen]
    have hne : ((r.length : Int) == (l.length : Int)) = false := by rw [beq_eq_false_iff_ne]; omega
    have hne2 : ¬ (r.length : Int) = l.length := by omega
    clear hl hr hri
    generalize l.length = n at *
    generalize r.length = m at *
    go_enter Try.func12, Try.ntmps12
    go_wp2_with (first | (go_at_call 10; refine HRI.out.mono ?_; rintro e w1 ⟨rfl, rfl⟩; clear HRI))
    go_ret
    exact ⟨rfl, Below.refl _ _⟩
end Go.Proofs.Ytabnjiepmhblaaa
