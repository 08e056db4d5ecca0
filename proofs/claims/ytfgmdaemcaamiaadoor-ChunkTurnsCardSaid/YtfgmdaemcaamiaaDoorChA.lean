/- Which values a column may have: the program's isColumn, the document's Right. -/
import Derived.Test.YtfgmdaemcaamiaaDoorChM
import Derived.Test.YtfgmdaemcaamiaaDoorValR
import Derived.Test.YtfgmdaemcaamiaaDoorRegB
import Derived.Outline
import Derived.Deep.QuietTactic
import Derived.BigQuiet
namespace Go.Proofs.YtfgmdaemcaamiaaDoor
open Go.RowKit
set_option linter.unusedVariables false

theorem colR_kind {kind : Int} {l : List Vl} (h : ¬ (1 ≤ kind ∧ kind ≤ 3)) : colR kind l = false := by
  cases hc : colR kind l
  · rfl
  · exact absurd (colR_iff.1 hc).1 h
theorem colR_big {kind : Int} {l : List Vl} (h : 1024 < l.length) : colR kind l = false := by
  cases hc : colR kind l
  · rfl
  · have := (colR_iff.1 hc).2.1; omega
theorem colR_bad {kind : Int} {l : List Vl} {k : Nat} (hk : k < l.length) (h : colOk8 kind l[k] = false) : colR kind l = false := by
  cases hc : colR kind l
  · rfl
  · have := (colR_iff.1 hc).2.2 l[k] (List.getElem_mem hk); rw [h] at this; cases this
theorem colR_good {kind : Int} {l : List Vl} (h0 : 1 ≤ kind ∧ kind ≤ 3) (h1 : l.length ≤ 1024) (h : ∀ j (a : j < l.length), colOk8 kind l[j] = true) : colR kind l = true :=
  colR_iff.2 ⟨h0, h1, fun v hv => by obtain ⟨i, hi, rfl⟩ := List.mem_iff_getElem.1 hv; exact h i hi⟩

set_option maxRecDepth 100000 in
set_option maxHeartbeats 4000000 in
theorem iscol_any (kind : Int) (A : Option Addr) (cap : Nat) (l : List Vl) (W : World) (hl : Vls W A l) (hn : l.length ≤ 4000000000000000000) :
    Calls Tryd.prog 16 #[.int .i64 kind, .slice A l.length cap] W fun e W' => e = .returned (.bool (colR kind l)) ∧ Below W.heap.size W W' := by
  obtain ⟨z, hz⟩ : ∃ z, colR kind l = z := ⟨_, rfl⟩
  rw [hz]
  have HZ := Lib.hid hz
  by_cases hkd : kind = 1 ∨ kind = 2 ∨ kind = 3
  · by_cases hbig : 1024 < l.length
    · have hzf : z = false := by rw [← hz]; exact colR_big hbig
      subst hzf
      clear hz HZ hl
      generalize l.length = n at *
      have hb : (1024 : Int) < (n : Int) := by omega
      rcases hkd with rfl | rfl | rfl
      all_goals
        go_enter Tryd.func16, Tryd.ntmps16
        go_wp2
        go_ret
        exact ⟨rfl, Below.refl _ _⟩
    · have hle : l.length ≤ 1024 := by omega
      have HL := Lib.hid hl
      obtain ⟨n, hn3⟩ : ∃ n, l.length = n := ⟨_, rfl⟩
      rw [hn3] at hn hbig hle ⊢
      have HN := Lib.hid hn3
      have hb : ¬ (1024 : Int) < (n : Int) := by omega
      obtain ⟨K, hK⟩ : ∃ K : Int, K = kind := ⟨_, rfl⟩
      have HK3 : Hid (1 ≤ K ∧ K ≤ 3) := by show _ ∧ _; omega
      rw [← hK] at HZ
      have HKK := Lib.hid hK
      clear hz hl hn3 hK
      rcases hkd with rfl | rfl | rfl
      all_goals
        go_enter Tryd.func16, Tryd.ntmps16
        go_wp2
        go_loopw [6, 24] (fun i x wr => ∃ k : Nat, k ≤ n ∧ x = .int .i64 k ∧ (∀ j (a : j < l.length), j < k → colOk8 K l[j] = true) ∧ Below W.heap.size W wr) (fun _ x _ => n - (intOf x).toNat)
        case atStart => exact ⟨0, by omega, rfl, fun j _ h => by omega, Below.refl _ _⟩
        case round =>
          obtain ⟨k, hk, rfl, hall, hbel⟩ := hrel
          have HALL := Lib.hid hall
          have HBEL := Lib.hid hbel
          clear hall hbel
          by_cases hlt : k < n
          · have h1 : k < l.length := by rw [HN.out]; exact hlt
            obtain ⟨b2, o2, rfl, hvb⟩ := HL.out k h1
            obtain ⟨v0, v1, v2⟩ := hvb.keep HBEL.out hvb.lt
            have HK : Hid (k < n) := hlt
            have HBAD : Hid (colOk8 K l[k] = false → z = false) := fun h => by rw [← HZ.out]; exact colR_bad h1 h
            have HGD : Hid (colOk8 K l[k] = true → ∀ j (a : j < l.length), j < k + 1 → colOk8 K l[j] = true) := fun h j a hj => by
              by_cases e : j = k
              · subst e; exact h
              · exact HALL.out j a (by omega)
            have hvf : colOk8 K l[k] = (vlR l[k] && (decide (l[k].kind = K) || decide (l[k].kind = 0))) := rfl
            generalize colOk8 K l[k] = vf at hvf HBAD HGD
            clear hvb
            generalize l[k] = v at v0 v1 v2 hvf
            have hR := fun w => vright_any v.kind v.num v.text w v.bound
            unfold vlR at hvf
            generalize rightB v.kind v.num v.text.toList = bn at hR hvf
            have HRR := Lib.hid hR
            have HVF := Lib.hid hvf
            clear hR h1 hvf
            generalize v.kind = kd at v0 HVF HRR
            generalize v.num = nm at v1 HRR
            generalize v.text = tx at v2 HRR
            have hb0 : Below W.heap.size W (wr.alloc (Obj.cells #[Value.int .i64 kd, Value.int .i64 nm, Value.string tx] 30)) := (HBEL.out.alloc HBEL.out.size _)
            have HB0 := Lib.hid hb0
            clear hb0
            cases bn with
            | false =>
              have HX : Hid (z = false) := HBAD.out (by rw [HVF.out]; rfl)
              clear HBAD HGD HVF
              go_wp2_with (go_at_call 29; refine (HRR.out _).mono ?_; rintro e w1 ⟨rfl, hb1⟩; have HB1 := Lib.hid (HB0.out.trans (hb1.mono HB0.out.size)); clear hb1)
              go_ret
              exact ⟨congrArg (fun r => Ending.returned (Value.bool r)) HX.out.symm, HB1.out⟩
            | true =>
              have x0 : World.cell? (wr.alloc (Obj.cells #[Value.int .i64 kd, Value.int .i64 nm, Value.string tx] 30)) ⟨wr.heap.size, 0, none⟩ = some (.int .i64 kd) := (Blk.born wr 30 [Value.int .i64 kd, Value.int .i64 nm, Value.string tx]).at_ 0
              by_cases e1 : kd = K ∨ kd = 0
              · have HX := HGD.out (by rw [HVF.out]; simp [e1])
                have HX := Lib.hid HX
                clear HBAD HGD HVF
                rcases e1 with e1 | rfl
                · obtain rfl := e1.trans HKK.out
                  clear e1
                  go_wp2_with (go_at_call 29; refine (HRR.out _).mono ?_; rintro e w1 ⟨rfl, hb1⟩; have HB1 := Lib.hid (HB0.out.trans (hb1.mono HB0.out.size)); have y0 := cell_below hb1 x0; clear hb1 x0)
                  go_roundw
                  case rel => exact ⟨k + 1, HK.out, by go_num, HX.out, HB1.out⟩
                  case measure => have := HK.out; simp [intOf]; omega
                · go_wp2_with (go_at_call 29; refine (HRR.out _).mono ?_; rintro e w1 ⟨rfl, hb1⟩; have HB1 := Lib.hid (HB0.out.trans (hb1.mono HB0.out.size)); have y0 := cell_below hb1 x0; clear hb1 x0)
                  go_roundw
                  case rel => exact ⟨k + 1, HK.out, by go_num, HX.out, HB1.out⟩
                  case measure => have := HK.out; simp [intOf]; omega
              · have HX : Hid (z = false) := HBAD.out (by rw [HVF.out]; simp only [Bool.true_and, Bool.or_eq_false_iff, decide_eq_false_iff_not]; omega)
                have q1 : (kd == K) = false := by rw [beq_eq_false_iff_ne]; omega
                have q2 : (kd == 0) = false := by rw [beq_eq_false_iff_ne]; omega
                have q3 : (kd != K) = true := by rw [bne, q1]; rfl
                have q4 : (kd != 0) = true := by rw [bne, q2]; rfl
                rw [HKK.out] at q3
                clear q1 q2
                clear HBAD HGD HVF e1
                go_wp2_with (go_at_call 29; refine (HRR.out _).mono ?_; rintro e w1 ⟨rfl, hb1⟩; have HB1 := Lib.hid (HB0.out.trans (hb1.mono HB0.out.size)); have y0 := cell_below hb1 x0; clear hb1 x0)
                go_ret
                exact ⟨congrArg (fun r => Ending.returned (Value.bool r)) HX.out.symm, HB1.out⟩
          · obtain rfl : k = n := by omega
            have HX : Hid (z = true) := by show z = true; rw [← HZ.out]; exact colR_good HK3.out (by rw [HN.out]; exact hle) fun j a => HALL.out j a (by rw [← HN.out]; exact a)
            go_wp2
            go_ret
            exact ⟨congrArg (fun r => Ending.returned (Value.bool r)) HX.out.symm, HBEL.out⟩
  · have hzf : z = false := by rw [← hz]; exact colR_kind (by omega)
    subst hzf
    have h1 : (kind == 1) = false := by rw [beq_eq_false_iff_ne]; omega
    have h2 : (kind == 2) = false := by rw [beq_eq_false_iff_ne]; omega
    have h3 : (kind == 3) = false := by rw [beq_eq_false_iff_ne]; omega
    clear hz HZ hl
    generalize l.length = n at *
    go_enter Tryd.func16, Tryd.ntmps16
    go_wp2
    go_ret
    exact ⟨rfl, Below.refl _ _⟩

set_option maxRecDepth 100000 in
set_option maxHeartbeats 4000000 in
theorem refcol_any (kind : Int) (A : Option Addr) (cap : Nat) (l : List Vl) (W : World) (hl : Vls W A l) (hn : l.length ≤ 4000000000000000000) :
    Calls Tryd.prog 23 #[.int .i64 kind, .slice A l.length cap] W fun e W' => e = .returned (.bool (colR kind l)) ∧ Below W.heap.size W W' := by
  obtain ⟨z, hz⟩ : ∃ z, colR kind l = z := ⟨_, rfl⟩
  rw [hz]
  have HZ := Lib.hid hz
  have HL := Lib.hid hl
  obtain ⟨n, hn3⟩ : ∃ n, l.length = n := ⟨_, rfl⟩
  rw [hn3] at hn ⊢
  have HN := Lib.hid hn3
  clear hz hl hn3
  go_enter Tryd.func23, Tryd.ntmps23
  go_wp2
  go_loopw [5, 6] (fun x u wr => ∃ k : Nat, k ≤ n ∧ x = .int .i64 k ∧ (∀ j (a : j < l.length), j < k → colOk8 kind l[j] = true) ∧ Below W.heap.size W wr) (fun x _ _ => n - (intOf x).toNat)
  case atStart => exact ⟨0, by omega, rfl, fun j _ h => by omega, Below.refl _ _⟩
  case round =>
    obtain ⟨k, hk, rfl, hall, hbel⟩ := hrel
    have HALL := Lib.hid hall
    have HBEL := Lib.hid hbel
    clear hall hbel
    by_cases hlt : k < n
    · have h1 : k < l.length := by rw [HN.out]; exact hlt
      obtain ⟨b2, o2, rfl, hvb⟩ := HL.out k h1
      obtain ⟨v0, v1, v2⟩ := hvb.keep HBEL.out hvb.lt
      have HK : Hid (k < n) := hlt
      have HBAD : Hid (colOk8 kind l[k] = false → z = false) := fun h => by rw [← HZ.out]; exact colR_bad h1 h
      have HGD : Hid (colOk8 kind l[k] = true → ∀ j (a : j < l.length), j < k + 1 → colOk8 kind l[j] = true) := fun h j a hj => by
        by_cases e : j = k
        · subst e; exact h
        · exact HALL.out j a (by omega)
      have hvf : colOk8 kind l[k] = (vlR l[k] && (decide (l[k].kind = kind) || decide (l[k].kind = 0))) := rfl
      generalize colOk8 kind l[k] = vf at hvf HBAD HGD
      clear hvb
      generalize l[k] = v at v0 v1 v2 hvf
      have hR := fun w => vrefright_any v.kind v.num v.text w v.bound
      unfold vlR at hvf
      generalize rightB v.kind v.num v.text.toList = bn at hR hvf
      have HRR := Lib.hid hR
      have HVF := Lib.hid hvf
      clear hR h1 hvf
      generalize v.kind = kd at v0 HVF HRR
      generalize v.num = nm at v1 HRR
      generalize v.text = tx at v2 HRR
      cases bn with
      | false =>
        have HX : Hid (z = false) := HBAD.out (by rw [HVF.out]; rfl)
        clear HBAD HGD HVF
        go_wp2_with (go_at_call 32; refine (HRR.out _).mono ?_; rintro e w1 ⟨rfl, hb1⟩; have HB1 := Lib.hid (HBEL.out.trans (hb1.mono HBEL.out.size)); have y0 := cell_below hb1 v0; clear hb1 v0 v1 v2)
        go_ret
        exact ⟨congrArg (fun r => Ending.returned (Value.bool r)) HX.out.symm, HB1.out⟩
      | true =>
        by_cases e1 : kd = kind ∨ kd = 0
        · have HX := HGD.out (by rw [HVF.out]; simp [e1])
          have HX := Lib.hid HX
          clear HBAD HGD HVF
          rcases e1 with rfl | rfl
          · go_wp2_with (go_at_call 32; refine (HRR.out _).mono ?_; rintro e w1 ⟨rfl, hb1⟩; have HB1 := Lib.hid (HBEL.out.trans (hb1.mono HBEL.out.size)); have y0 := cell_below hb1 v0; clear hb1 v0 v1 v2)
            go_roundw
            case rel => exact ⟨k + 1, HK.out, by go_num, HX.out, HB1.out⟩
            case measure => have := HK.out; simp [intOf]; omega
          · by_cases e2 : (0 : Int) = kind
            · subst e2
              go_wp2_with (go_at_call 32; refine (HRR.out _).mono ?_; rintro e w1 ⟨rfl, hb1⟩; have HB1 := Lib.hid (HBEL.out.trans (hb1.mono HBEL.out.size)); have y0 := cell_below hb1 v0; clear hb1 v0 v1 v2)
              go_roundw
              case rel => exact ⟨k + 1, HK.out, by go_num, HX.out, HB1.out⟩
              case measure => have := HK.out; simp [intOf]; omega
            · have q1 : ((0 : Int) == kind) = false := by rw [beq_eq_false_iff_ne]; omega
              have q3 : ((0 : Int) != kind) = true := by rw [bne, q1]; rfl
              clear e2 q1
              go_wp2_with (go_at_call 32; refine (HRR.out _).mono ?_; rintro e w1 ⟨rfl, hb1⟩; have HB1 := Lib.hid (HBEL.out.trans (hb1.mono HBEL.out.size)); have y0 := cell_below hb1 v0; clear hb1 v0 v1 v2)
              go_roundw
              case rel => exact ⟨k + 1, HK.out, by go_num, HX.out, HB1.out⟩
              case measure => have := HK.out; simp [intOf]; omega
        · have HX : Hid (z = false) := HBAD.out (by rw [HVF.out]; simp only [Bool.true_and, Bool.or_eq_false_iff, decide_eq_false_iff_not]; omega)
          have q1 : (kd == kind) = false := by rw [beq_eq_false_iff_ne]; omega
          have q2 : (kd == 0) = false := by rw [beq_eq_false_iff_ne]; omega
          have q3 : (kd != kind) = true := by rw [bne, q1]; rfl
          have q4 : (kd != 0) = true := by rw [bne, q2]; rfl
          clear q1 q2
          clear HBAD HGD HVF e1
          go_wp2_with (go_at_call 32; refine (HRR.out _).mono ?_; rintro e w1 ⟨rfl, hb1⟩; have HB1 := Lib.hid (HBEL.out.trans (hb1.mono HBEL.out.size)); have y0 := cell_below hb1 v0; clear hb1 v0 v1 v2)
          go_ret
          exact ⟨congrArg (fun r => Ending.returned (Value.bool r)) HX.out.symm, HB1.out⟩
    · obtain rfl : k = n := by omega
      have HX : Hid (z = (decide (1 ≤ kind) && (decide (kind ≤ 3) && decide (k ≤ 1024)))) := by
        show z = _
        rw [← HZ.out]
        unfold colR
        rw [HN.out, show l.all (colOk8 kind) = true from by rw [List.all_eq_true]; intro v hv; obtain ⟨i, hi, rfl⟩ := List.mem_iff_getElem.1 hv; exact HALL.out i hi (by rw [← HN.out]; exact hi)]
        rw [Bool.and_true, Bool.and_assoc]
      by_cases c1 : 1 ≤ kind
      · by_cases c2 : kind ≤ 3
        · by_cases c3 : k ≤ 1024
          · have c4 : (k : Int) ≤ 1024 := by omega
            have HX2 : Hid (z = true) := by show z = _; rw [HX.out]; simp [c1, c2, c3]
            clear c3
            go_wp2
            go_ret
            exact ⟨congrArg (fun r => Ending.returned (Value.bool r)) HX2.out.symm, HBEL.out⟩
          · have c4 : ¬ (k : Int) ≤ 1024 := by omega
            have HX2 : Hid (z = false) := by show z = _; rw [HX.out]; simp [c1, c2, c3]
            clear c3
            go_wp2
            go_ret
            exact ⟨congrArg (fun r => Ending.returned (Value.bool r)) HX2.out.symm, HBEL.out⟩
        · have HX2 : Hid (z = false) := by show z = _; rw [HX.out]; simp [c1, c2]
          go_wp2
          go_ret
          exact ⟨congrArg (fun r => Ending.returned (Value.bool r)) HX2.out.symm, HBEL.out⟩
      · have HX2 : Hid (z = false) := by show z = _; rw [HX.out]; simp [c1]
        go_wp2
        go_ret
        exact ⟨congrArg (fun r => Ending.returned (Value.bool r)) HX2.out.symm, HBEL.out⟩
theorem nul_snoc (l : List Vl) (k : Nat) (h : k < l.length) : nulN (l.take (k + 1)) = nulN (l.take k) + if l[k].kind = 0 then 1 else 0 := by
  have h1 := nulN_oth (l.take (k + 1))
  have h2 := nulN_oth (l.take k)
  rw [List.take_succ_eq_append_getElem h] at h1 ⊢
  rw [othL_app, List.length_append, List.length_append, List.length_singleton] at h1
  have h3 : (othL [l[k]]).length = if l[k].kind = 0 then 0 else 1 := by
    unfold othL
    by_cases e : l[k].kind = 0
    · rw [List.filter_cons, if_neg (by simp [e]), if_pos e]; rfl
    · rw [List.filter_cons, if_pos (by simp [e]), if_neg e]; rfl
  rw [h3] at h1
  split <;> simp_all <;> omega

set_option maxHeartbeats 2000000 in
theorem refnul_any (A : Option Addr) (cap : Nat) (l : List Vl) (W : World) (hl : Vls W A l) (hn : l.length ≤ 4000000000000000000) :
    Calls Tryd.prog 24 #[.slice A l.length cap] W fun e W' => e = .returned (.int .i64 (nulN l : Int)) ∧ Below W.heap.size W W' := by
  have HL := Lib.hid hl
  obtain ⟨n, hn3⟩ : ∃ n, l.length = n := ⟨_, rfl⟩
  rw [hn3] at hn ⊢
  have HN := Lib.hid hn3
  clear hl hn3
  go_enter Tryd.func24, Tryd.ntmps24
  go_wp2
  go_loopw [3, 4] (fun s x wr => ∃ k m : Nat, k ≤ n ∧ x = .int .i64 k ∧ s = .int .i64 m ∧ m ≤ k ∧ m = nulN (l.take k) ∧ Below W.heap.size W wr) (fun _ x _ => n - (intOf x).toNat)
  case atStart => exact ⟨0, 0, by omega, rfl, rfl, by omega, rfl, Below.refl _ _⟩
  case round =>
    obtain ⟨k, m, hk, rfl, rfl, hmk, hm, hbel⟩ := hrel
    have HM := Lib.hid hm
    have HBEL := Lib.hid hbel
    clear hm hbel
    by_cases hlt : k < n
    · have h1 : k < l.length := by rw [HN.out]; exact hlt
      obtain ⟨b2, o2, rfl, hvb⟩ := HL.out k h1
      obtain ⟨v0, v1, v2⟩ := hvb.keep HBEL.out hvb.lt
      have HK : Hid (k < n) := hlt
      have HS := Lib.hid (nul_snoc l k h1)
      clear hvb v1 v2
      generalize l[k] = v at v0 HS
      generalize v.kind = kd at v0 HS
      by_cases e : kd = 0
      · have HX : Hid (m + 1 = nulN (l.take (k + 1))) := by show _ = _; rw [HS.out, if_pos e, HM.out]
        subst e
        clear HS
        go_wp2
        go_roundw
        case rel => exact ⟨k + 1, m + 1, HK.out, by go_num, by go_num, by omega, HX.out, HBEL.out⟩
        case measure => have := HK.out; simp [intOf]; omega
      · have HX : Hid (m = nulN (l.take (k + 1))) := by show _ = _; rw [HS.out, if_neg e, HM.out]; rfl
        have q : (kd == 0) = false := by rw [beq_eq_false_iff_ne]; exact e
        clear HS e
        go_wp2
        go_roundw
        case rel => exact ⟨k + 1, m, HK.out, by go_num, rfl, by omega, HX.out, HBEL.out⟩
        case measure => have := HK.out; simp [intOf]; omega
    · obtain rfl : k = n := by omega
      have HX : Hid (m = nulN l) := by show _ = _; rw [HM.out, List.take_of_length_le (by rw [HN.out]; omega)]
      go_wp2
      go_ret
      exact ⟨by rw [HX.out]; rfl, HBEL.out⟩
end Go.Proofs.YtfgmdaemcaamiaaDoor
