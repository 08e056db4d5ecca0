/- The program's fits and Fits. -/
import Derived.Test.YtabnjiepmhblaaaDoorJ7
namespace Go.Proofs.YtabnjiepmhblaaaDoor
open Go.RowKit Go.Shelf Go.Maps
set_option linter.unusedVariables false

set_option maxRecDepth 100000 in
set_option maxHeartbeats 40000000 in
theorem fits1_any (A B : Option Addr) (cap rcap : Nat) (l : List Col) (r : List Vl) (W : World) (hl : Cols W A l) (hr : Vls W B r) (hn : l.length ≤ 4000000000000000000) (hm : r.length ≤ 4000000000000000000) :
    Calls Tryd.prog 32 #[.slice A l.length cap, .slice B r.length rcap] W fun e W' => e = .returned (.bool (fitsL l r)) ∧ Below W.heap.size W W' := by
  by_cases hlen : r.length = l.length
  · obtain ⟨z, hz⟩ : ∃ z, fitsL l r = z := ⟨_, rfl⟩
    rw [hz]
    have HZ := Lib.hid hz
    have HL := Lib.hid hl
    have HV := Lib.hid hr
    have HLEN := Lib.hid hlen
    have hm2 := hm
    rw [hlen]
    clear hl hr hz hm
    obtain ⟨n, hn2⟩ : ∃ n, l.length = n := ⟨_, rfl⟩
    rw [hn2] at hn ⊢
    have HN := Lib.hid hn2
    clear hn2 hlen hm2
    go_enter Tryd.func32, Tryd.ntmps32
    go_wp2
    go_loopw [5, 6, 14] (fun i u x wr => ∃ k : Nat, k ≤ n ∧ x = .int .i64 k ∧ (∀ j (a : j < l.length) (b : j < r.length), j < k → vfit l[j] r[j] = true) ∧ Below W.heap.size W wr) (fun _ _ x _ => n - (intOf x).toNat)
    case atStart => exact ⟨0, by omega, rfl, fun j _ _ h => by omega, Below.refl _ _⟩
    case round =>
      obtain ⟨k, hk, rfl, hall, hbel⟩ := hrel
      have HALL := Lib.hid hall
      have HBEL := Lib.hid hbel
      clear hall hbel
      by_cases hlt : k < n
      · have h1 : k < l.length := by rw [HN.out]; exact hlt
        have h2 : k < r.length := by rw [HLEN.out, HN.out]; exact hlt
        obtain ⟨b, o, rfl, hcb⟩ := HL.out k h1
        obtain ⟨b2, o2, rfl, hvb⟩ := HV.out k h2
        have hcb1 := hcb.keep HBEL.out hcb.lt
        have hvb1 := hvb.keep HBEL.out hvb.lt
        have hbl := hcb.lt
        have hbl2 := hvb.lt
        have hsz := HBEL.out.size
        obtain ⟨c0, c1, c2⟩ := hcb1
        obtain ⟨v0, v1, v2⟩ := hvb1
        have HK : Hid (k < n) := hlt
        have HBAD : Hid (vfit l[k] r[k] = false → z = false) := fun h => by rw [← HZ.out]; exact fitsL_bad h1 h2 h
        have HGD : Hid (vfit l[k] r[k] = true → _) := fun h => fits_step h1 h2 h HALL.out
        have hvf : vfit l[k] r[k] = (vlR r[k] && (decide (r[k].kind = l[k].kind) || (decide (r[k].kind = 0) && l[k].null))) := rfl
        generalize vfit l[k] r[k] = vf at hvf HBAD HGD
        clear c0 hcb hvb
        generalize l[k] = c at c1 c2 hvf
        generalize r[k] = v at v0 v1 v2 hvf
        have hR := fun w => vright_any v.kind v.num v.text w v.bound
        unfold vlR at hvf
        generalize rightB v.kind v.num v.text.toList = bn at hR hvf
        have HRR := Lib.hid hR
        have HVF := Lib.hid hvf
        clear hR h1 h2 hvf
        generalize v.kind = kd at v0 HVF HRR
        generalize v.num = nm at v1 HRR
        generalize v.text = tx at v2 HRR
        generalize c.kind = ck at c1 HVF
        generalize c.null = cn at c2 HVF
        go_upto_region 6 with (fail)
        have hb0 : Below W.heap.size W (wr.alloc (Obj.cells #[Value.int .i64 kd, Value.int .i64 nm, Value.string tx] 71)).drew := (HBEL.out.alloc HBEL.out.size _).drew
        have hk0 : Below wr.heap.size wr (wr.alloc (Obj.cells #[Value.int .i64 kd, Value.int .i64 nm, Value.string tx] 71)).drew := ((Below.refl _ _).alloc (Nat.le_refl _) _).drew
        have x0 : World.cell? (wr.alloc (Obj.cells #[Value.int .i64 kd, Value.int .i64 nm, Value.string tx] 71)).drew ⟨wr.heap.size, 0, none⟩ = some (.int .i64 kd) := (Blk.born wr 71 [Value.int .i64 kd, Value.int .i64 nm, Value.string tx]).at_ 0
        have x1 : World.cell? (wr.alloc (Obj.cells #[Value.int .i64 kd, Value.int .i64 nm, Value.string tx] 71)).drew ⟨wr.heap.size, 1, none⟩ = some (.int .i64 nm) := (Blk.born wr 71 [Value.int .i64 kd, Value.int .i64 nm, Value.string tx]).at_ 1
        have x2 : World.cell? (wr.alloc (Obj.cells #[Value.int .i64 kd, Value.int .i64 nm, Value.string tx] 71)).drew ⟨wr.heap.size, 2, none⟩ = some (.string tx) := (Blk.born wr 71 [Value.int .i64 kd, Value.int .i64 nm, Value.string tx]).at_ 2
        have y1 := cell_below hk0 c1
        have y2 := cell_below hk0 c2
        clear v0 v1 v2 c1 c2
        refine wpB_start 26 (by kernel_rfl) rfl (fun R HR => ?_)
        generalize (wr.alloc (Obj.cells #[Value.int .i64 kd, Value.int .i64 nm, Value.string tx] 71)).drew = w1 at hb0 hk0 x0 x1 x2 y1 y2 ⊢
        generalize wr.heap.size = G at x0 x1 x2 hsz ⊢
        cases bn with
        | false =>
          have HX : Hid (z = false) := HBAD.out (by rw [HVF.out]; rfl)
          clear HBAD HGD HVF
          refine wpB_take HR (i := 0) (v := .agg #[.int .i64 kd, .int .i64 nm, .string tx]) rfl (by decide +kernel) (by decide +kernel) (by decide +kernel) (fun _ _ _ h => h) (by rfl) (fun W hW => by have q0 := cell_below hW x0; have q1 := cell_below hW x1; have q2 := cell_below hW x2; go_simp) ?_
          go_simp
          refine wpB_call HR (i := 1) rfl (by decide +kernel) (by rfl) (by go_simp; exact ⟨rfl, rfl⟩) ?_
          refine (HRR.out _).mono ?_
          rintro e w2 ⟨rfl, hb2⟩
          refine ⟨_, rfl, hb2, ?_⟩
          have z0 := cell_below hb2 x0
          have z1 := cell_below hb2 y1
          have z2 := cell_below hb2 y2
          have HB2 := Lib.hid (hb0.trans (hb2.mono hb0.size))
          clear hb2 hb0 hk0 x0 x1 x2 y1 y2 HRR
          go_simp
          refine wpB_take HR (i := 2) rfl (by decide +kernel) (by decide +kernel) (by decide +kernel) (fun _ _ _ h => h) (by rfl) (fun W hW => by rfl) ?_
          go_simp
          refine wpB_take HR (i := 3) rfl (by decide +kernel) (by decide +kernel) (by decide +kernel) (fun _ _ _ h => h) (by rfl) (fun W hW => by rfl) ?_
          go_simp
          refine wpB_skip HR (i := 4) rfl (by decide +kernel) (by decide +kernel) (by decide +kernel) (fun _ _ _ h => h) (by rfl) ?_
          go_simp
          refine wpB_skip HR (i := 5) rfl (by decide +kernel) (by decide +kernel) (by decide +kernel) (fun _ _ _ h => h) (by rfl) ?_
          go_simp
          refine wpB_skip HR (i := 6) rfl (by decide +kernel) (by decide +kernel) (by decide +kernel) (fun _ _ _ h => h) (by rfl) ?_
          go_simp
          refine wpB_skip HR (i := 7) rfl (by decide +kernel) (by decide +kernel) (by decide +kernel) (fun _ _ _ h => h) (by rfl) ?_
          go_simp
          refine wpB_skip HR (i := 8) rfl (by decide +kernel) (by decide +kernel) (by decide +kernel) (fun _ _ _ h => h) (by rfl) ?_
          go_simp
          refine wpB_skip HR (i := 9) rfl (by decide +kernel) (by decide +kernel) (by decide +kernel) (fun _ _ _ h => h) (by rfl) ?_
          go_simp
          refine wpB_skip HR (i := 10) rfl (by decide +kernel) (by decide +kernel) (by decide +kernel) (fun _ _ _ h => h) (by rfl) ?_
          go_simp
          refine wpB_skip HR (i := 11) rfl (by decide +kernel) (by decide +kernel) (by decide +kernel) (fun _ _ _ h => h) (by rfl) ?_
          go_simp
          refine wpB_skip HR (i := 12) rfl (by decide +kernel) (by decide +kernel) (by decide +kernel) (fun _ _ _ h => h) (by rfl) ?_
          go_simp
          refine wpB_skip HR (i := 13) rfl (by decide +kernel) (by decide +kernel) (by decide +kernel) (fun _ _ _ h => h) (by rfl) ?_
          go_simp
          refine wpB_skip HR (i := 14) rfl (by decide +kernel) (by decide +kernel) (by decide +kernel) (fun _ _ _ h => h) (by rfl) ?_
          go_simp
          refine wpB_skip HR (i := 15) rfl (by decide +kernel) (by decide +kernel) (by decide +kernel) (fun _ _ _ h => h) (by rfl) ?_
          go_simp
          refine wpB_skip HR (i := 16) rfl (by decide +kernel) (by decide +kernel) (by decide +kernel) (fun _ _ _ h => h) (by rfl) ?_
          go_simp
          refine wpB_skip HR (i := 17) rfl (by decide +kernel) (by decide +kernel) (by decide +kernel) (fun _ _ _ h => h) (by rfl) ?_
          go_simp
          refine wpB_skip HR (i := 18) rfl (by decide +kernel) (by decide +kernel) (by decide +kernel) (fun _ _ _ h => h) (by rfl) ?_
          go_simp
          refine wpB_skip HR (i := 19) rfl (by decide +kernel) (by decide +kernel) (by decide +kernel) (fun _ _ _ h => h) (by rfl) ?_
          go_simp
          refine wpB_skip HR (i := 20) rfl (by decide +kernel) (by decide +kernel) (by decide +kernel) (fun _ _ _ h => h) (by rfl) ?_
          go_simp
          refine wpB_skip HR (i := 21) rfl (by decide +kernel) (by decide +kernel) (by decide +kernel) (fun _ _ _ h => h) (by rfl) ?_
          go_simp
          refine wpB_skip HR (i := 22) rfl (by decide +kernel) (by decide +kernel) (by decide +kernel) (fun _ _ _ h => h) (by rfl) ?_
          go_simp
          refine wpB_skip HR (i := 23) rfl (by decide +kernel) (by decide +kernel) (by decide +kernel) (fun _ _ _ h => h) (by rfl) ?_
          go_simp
          refine wpB_skip HR (i := 24) rfl (by decide +kernel) (by decide +kernel) (by decide +kernel) (fun _ _ _ h => h) (by rfl) ?_
          go_simp
          refine wpB_take HR (i := 25) (v := .bool true) rfl (by decide +kernel) (by decide +kernel) (by decide +kernel) (fun _ _ _ h => h) (by rfl) (fun W hW => by go_simp) ?_
          go_simp
          refine wpB_done HR (by decide +kernel) ?_
          go_wp2
          go_ret
          exact ⟨congrArg (fun r => Ending.returned (Value.bool r)) HX.out.symm, HB2.out⟩
        | true =>
          by_cases hkc : kd = ck
          · subst hkc
            have HX := Lib.hid (HGD.out (by rw [HVF.out]; simp))
            clear HBAD HGD HVF
            refine wpB_take HR (i := 0) (v := .agg #[.int .i64 kd, .int .i64 nm, .string tx]) rfl (by decide +kernel) (by decide +kernel) (by decide +kernel) (fun _ _ _ h => h) (by rfl) (fun W hW => by have q0 := cell_below hW x0; have q1 := cell_below hW x1; have q2 := cell_below hW x2; go_simp) ?_
            go_simp
            refine wpB_call HR (i := 1) rfl (by decide +kernel) (by rfl) (by go_simp; exact ⟨rfl, rfl⟩) ?_
            refine (HRR.out _).mono ?_
            rintro e w2 ⟨rfl, hb2⟩
            refine ⟨_, rfl, hb2, ?_⟩
            have z0 := cell_below hb2 x0
            have z1 := cell_below hb2 y1
            have z2 := cell_below hb2 y2
            have HB2 := Lib.hid (hb0.trans (hb2.mono hb0.size))
            clear hb2 hb0 hk0 x0 x1 x2 y1 y2 HRR
            go_simp
            refine wpB_take HR (i := 2) rfl (by decide +kernel) (by decide +kernel) (by decide +kernel) (fun _ _ _ h => h) (by rfl) (fun W hW => by rfl) ?_
            go_simp
            refine wpB_take HR (i := 3) rfl (by decide +kernel) (by decide +kernel) (by decide +kernel) (fun _ _ _ h => h) (by rfl) (fun W hW => by rfl) ?_
            go_simp
            refine wpB_take HR (i := 4) rfl (by decide +kernel) (by decide +kernel) (by decide +kernel) (fun _ _ _ h => h) (by rfl) (fun W hW => by rfl) ?_
            go_simp
            refine wpB_take HR (i := 5) (v := .int .i64 kd) rfl (by decide +kernel) (by decide +kernel) (by decide +kernel) (fun _ _ _ h => h) (by rfl) (fun W hW => by have q := cell_below hW z0; go_simp) ?_
            go_simp
            refine wpB_take HR (i := 6) rfl (by decide +kernel) (by decide +kernel) (by decide +kernel) (fun _ _ _ h => h) (by rfl) (fun W hW => by rfl) ?_
            go_simp
            refine wpB_take HR (i := 7) rfl (by decide +kernel) (by decide +kernel) (by decide +kernel) (fun _ _ _ h => h) (by rfl) (fun W hW => by rfl) ?_
            go_simp
            refine wpB_take HR (i := 8) (v := .pointer (some ⟨b, o + k * 3, none⟩)) rfl (by decide +kernel) (by decide +kernel) (by decide +kernel) (fun _ _ _ h => h) (by rfl) (fun W hW => by go_simp) ?_
            go_simp
            refine wpB_take HR (i := 9) rfl (by decide +kernel) (by decide +kernel) (by decide +kernel) (fun _ _ _ h => h) (by rfl) (fun W hW => by rfl) ?_
            go_simp
            refine wpB_take HR (i := 10) (v := .int .i64 kd) rfl (by decide +kernel) (by decide +kernel) (by decide +kernel) (fun _ _ _ h => h) (by rfl) (fun W hW => by have q := cell_below hW z1; go_simp) ?_
            go_simp
            refine wpB_take HR (i := 11) (v := .bool false) rfl (by decide +kernel) (by decide +kernel) (by decide +kernel) (fun _ _ _ h => h) (by rfl) (fun W hW => by go_simp) ?_
            go_simp
            refine wpB_take HR (i := 12) rfl (by decide +kernel) (by decide +kernel) (by decide +kernel) (fun _ _ _ h => h) (by rfl) (fun W hW => by rfl) ?_
            go_simp
            refine wpB_skip HR (i := 13) rfl (by decide +kernel) (by decide +kernel) (by decide +kernel) (fun _ _ _ h => h) (by rfl) ?_
            go_simp
            refine wpB_skip HR (i := 14) rfl (by decide +kernel) (by decide +kernel) (by decide +kernel) (fun _ _ _ h => h) (by rfl) ?_
            go_simp
            refine wpB_skip HR (i := 15) rfl (by decide +kernel) (by decide +kernel) (by decide +kernel) (fun _ _ _ h => h) (by rfl) ?_
            go_simp
            refine wpB_skip HR (i := 16) rfl (by decide +kernel) (by decide +kernel) (by decide +kernel) (fun _ _ _ h => h) (by rfl) ?_
            go_simp
            refine wpB_skip HR (i := 17) rfl (by decide +kernel) (by decide +kernel) (by decide +kernel) (fun _ _ _ h => h) (by rfl) ?_
            go_simp
            refine wpB_skip HR (i := 18) rfl (by decide +kernel) (by decide +kernel) (by decide +kernel) (fun _ _ _ h => h) (by rfl) ?_
            go_simp
            refine wpB_skip HR (i := 19) rfl (by decide +kernel) (by decide +kernel) (by decide +kernel) (fun _ _ _ h => h) (by rfl) ?_
            go_simp
            refine wpB_skip HR (i := 20) rfl (by decide +kernel) (by decide +kernel) (by decide +kernel) (fun _ _ _ h => h) (by rfl) ?_
            go_simp
            refine wpB_skip HR (i := 21) rfl (by decide +kernel) (by decide +kernel) (by decide +kernel) (fun _ _ _ h => h) (by rfl) ?_
            go_simp
            refine wpB_skip HR (i := 22) rfl (by decide +kernel) (by decide +kernel) (by decide +kernel) (fun _ _ _ h => h) (by rfl) ?_
            go_simp
            refine wpB_skip HR (i := 23) rfl (by decide +kernel) (by decide +kernel) (by decide +kernel) (fun _ _ _ h => h) (by rfl) ?_
            go_simp
            refine wpB_take HR (i := 24) (v := .bool false) rfl (by decide +kernel) (by decide +kernel) (by decide +kernel) (fun _ _ _ h => h) (by rfl) (fun W hW => by go_simp) ?_
            go_simp
            refine wpB_take HR (i := 25) (v := .bool false) rfl (by decide +kernel) (by decide +kernel) (by decide +kernel) (fun _ _ _ h => h) (by rfl) (fun W hW => by go_simp) ?_
            go_simp
            refine wpB_done HR (by decide +kernel) ?_
            go_wp2
            go_roundw
            case rel => exact ⟨k + 1, HK.out, by go_num, HX.out, HB2.out⟩
            case measure => have := HK.out; simp [intOf]; omega
          · have hq : (kd == ck) = false := by rw [beq_eq_false_iff_ne]; exact hkc
            by_cases hk0 : kd = 0
            · subst hk0
              cases cn with
              | true =>
                have HX := Lib.hid (HGD.out (by rw [HVF.out]; simp))
                clear HBAD HGD HVF
                refine wpB_take HR (i := 0) (v := .agg #[.int .i64 0, .int .i64 nm, .string tx]) rfl (by decide +kernel) (by decide +kernel) (by decide +kernel) (fun _ _ _ h => h) (by rfl) (fun W hW => by have q0 := cell_below hW x0; have q1 := cell_below hW x1; have q2 := cell_below hW x2; go_simp) ?_
                go_simp
                refine wpB_call HR (i := 1) rfl (by decide +kernel) (by rfl) (by go_simp; exact ⟨rfl, rfl⟩) ?_
                refine (HRR.out _).mono ?_
                rintro e w2 ⟨rfl, hb2⟩
                refine ⟨_, rfl, hb2, ?_⟩
                have z0 := cell_below hb2 x0
                have z1 := cell_below hb2 y1
                have z2 := cell_below hb2 y2
                have HB2 := Lib.hid (hb0.trans (hb2.mono hb0.size))
                clear hb2 hb0 hk0 x0 x1 x2 y1 y2 HRR
                go_simp
                refine wpB_take HR (i := 2) rfl (by decide +kernel) (by decide +kernel) (by decide +kernel) (fun _ _ _ h => h) (by rfl) (fun W hW => by rfl) ?_
                go_simp
                refine wpB_take HR (i := 3) rfl (by decide +kernel) (by decide +kernel) (by decide +kernel) (fun _ _ _ h => h) (by rfl) (fun W hW => by rfl) ?_
                go_simp
                refine wpB_take HR (i := 4) rfl (by decide +kernel) (by decide +kernel) (by decide +kernel) (fun _ _ _ h => h) (by rfl) (fun W hW => by rfl) ?_
                go_simp
                refine wpB_take HR (i := 5) (v := .int .i64 0) rfl (by decide +kernel) (by decide +kernel) (by decide +kernel) (fun _ _ _ h => h) (by rfl) (fun W hW => by have q := cell_below hW z0; go_simp) ?_
                go_simp
                refine wpB_take HR (i := 6) rfl (by decide +kernel) (by decide +kernel) (by decide +kernel) (fun _ _ _ h => h) (by rfl) (fun W hW => by rfl) ?_
                go_simp
                refine wpB_take HR (i := 7) rfl (by decide +kernel) (by decide +kernel) (by decide +kernel) (fun _ _ _ h => h) (by rfl) (fun W hW => by rfl) ?_
                go_simp
                refine wpB_take HR (i := 8) (v := .pointer (some ⟨b, o + k * 3, none⟩)) rfl (by decide +kernel) (by decide +kernel) (by decide +kernel) (fun _ _ _ h => h) (by rfl) (fun W hW => by go_simp) ?_
                go_simp
                refine wpB_take HR (i := 9) rfl (by decide +kernel) (by decide +kernel) (by decide +kernel) (fun _ _ _ h => h) (by rfl) (fun W hW => by rfl) ?_
                go_simp
                refine wpB_take HR (i := 10) (v := .int .i64 ck) rfl (by decide +kernel) (by decide +kernel) (by decide +kernel) (fun _ _ _ h => h) (by rfl) (fun W hW => by have q := cell_below hW z1; go_simp) ?_
                go_simp
                refine wpB_take HR (i := 11) (v := .bool true) rfl (by decide +kernel) (by decide +kernel) (by decide +kernel) (fun _ _ _ h => h) (by rfl) (fun W hW => by go_simp) ?_
                go_simp
                refine wpB_take HR (i := 12) rfl (by decide +kernel) (by decide +kernel) (by decide +kernel) (fun _ _ _ h => h) (by rfl) (fun W hW => by rfl) ?_
                go_simp
                refine wpB_take HR (i := 13) rfl (by decide +kernel) (by decide +kernel) (by decide +kernel) (fun _ _ _ h => h) (by rfl) (fun W hW => by rfl) ?_
                go_simp
                refine wpB_take HR (i := 14) (v := .int .i64 0) rfl (by decide +kernel) (by decide +kernel) (by decide +kernel) (fun _ _ _ h => h) (by rfl) (fun W hW => by have q := cell_below hW z0; go_simp) ?_
                go_simp
                refine wpB_take HR (i := 15) (v := .bool true) rfl (by decide +kernel) (by decide +kernel) (by decide +kernel) (fun _ _ _ h => h) (by rfl) (fun W hW => by go_simp) ?_
                go_simp
                refine wpB_take HR (i := 16) rfl (by decide +kernel) (by decide +kernel) (by decide +kernel) (fun _ _ _ h => h) (by rfl) (fun W hW => by rfl) ?_
                go_simp
                refine wpB_take HR (i := 17) rfl (by decide +kernel) (by decide +kernel) (by decide +kernel) (fun _ _ _ h => h) (by rfl) (fun W hW => by rfl) ?_
                go_simp
                refine wpB_take HR (i := 18) rfl (by decide +kernel) (by decide +kernel) (by decide +kernel) (fun _ _ _ h => h) (by rfl) (fun W hW => by rfl) ?_
                go_simp
                refine wpB_take HR (i := 19) (v := .pointer (some ⟨b, o + k * 3, none⟩)) rfl (by decide +kernel) (by decide +kernel) (by decide +kernel) (fun _ _ _ h => h) (by rfl) (fun W hW => by go_simp) ?_
                go_simp
                refine wpB_take HR (i := 20) rfl (by decide +kernel) (by decide +kernel) (by decide +kernel) (fun _ _ _ h => h) (by rfl) (fun W hW => by rfl) ?_
                go_simp
                refine wpB_take HR (i := 21) (v := .bool true) rfl (by decide +kernel) (by decide +kernel) (by decide +kernel) (fun _ _ _ h => h) (by rfl) (fun W hW => by have q := cell_below hW z2; go_simp) ?_
                go_simp
                refine wpB_take HR (i := 22) (v := .bool true) rfl (by decide +kernel) (by decide +kernel) (by decide +kernel) (fun _ _ _ h => h) (by rfl) (fun W hW => by go_simp) ?_
                go_simp
                refine wpB_take HR (i := 23) (v := .bool false) rfl (by decide +kernel) (by decide +kernel) (by decide +kernel) (fun _ _ _ h => h) (by rfl) (fun W hW => by go_simp) ?_
                go_simp
                refine wpB_take HR (i := 24) (v := .bool false) rfl (by decide +kernel) (by decide +kernel) (by decide +kernel) (fun _ _ _ h => h) (by rfl) (fun W hW => by go_simp) ?_
                go_simp
                refine wpB_take HR (i := 25) (v := .bool false) rfl (by decide +kernel) (by decide +kernel) (by decide +kernel) (fun _ _ _ h => h) (by rfl) (fun W hW => by go_simp) ?_
                go_simp
                refine wpB_done HR (by decide +kernel) ?_
                go_wp2
                go_roundw
                case rel => exact ⟨k + 1, HK.out, by go_num, HX.out, HB2.out⟩
                case measure => have := HK.out; simp [intOf]; omega
              | false =>
                have HX : Hid (z = false) := HBAD.out (by rw [HVF.out]; simp [hkc])
                clear HBAD HGD HVF
                refine wpB_take HR (i := 0) (v := .agg #[.int .i64 0, .int .i64 nm, .string tx]) rfl (by decide +kernel) (by decide +kernel) (by decide +kernel) (fun _ _ _ h => h) (by rfl) (fun W hW => by have q0 := cell_below hW x0; have q1 := cell_below hW x1; have q2 := cell_below hW x2; go_simp) ?_
                go_simp
                refine wpB_call HR (i := 1) rfl (by decide +kernel) (by rfl) (by go_simp; exact ⟨rfl, rfl⟩) ?_
                refine (HRR.out _).mono ?_
                rintro e w2 ⟨rfl, hb2⟩
                refine ⟨_, rfl, hb2, ?_⟩
                have z0 := cell_below hb2 x0
                have z1 := cell_below hb2 y1
                have z2 := cell_below hb2 y2
                have HB2 := Lib.hid (hb0.trans (hb2.mono hb0.size))
                clear hb2 hb0 hk0 x0 x1 x2 y1 y2 HRR
                go_simp
                refine wpB_take HR (i := 2) rfl (by decide +kernel) (by decide +kernel) (by decide +kernel) (fun _ _ _ h => h) (by rfl) (fun W hW => by rfl) ?_
                go_simp
                refine wpB_take HR (i := 3) rfl (by decide +kernel) (by decide +kernel) (by decide +kernel) (fun _ _ _ h => h) (by rfl) (fun W hW => by rfl) ?_
                go_simp
                refine wpB_take HR (i := 4) rfl (by decide +kernel) (by decide +kernel) (by decide +kernel) (fun _ _ _ h => h) (by rfl) (fun W hW => by rfl) ?_
                go_simp
                refine wpB_take HR (i := 5) (v := .int .i64 0) rfl (by decide +kernel) (by decide +kernel) (by decide +kernel) (fun _ _ _ h => h) (by rfl) (fun W hW => by have q := cell_below hW z0; go_simp) ?_
                go_simp
                refine wpB_take HR (i := 6) rfl (by decide +kernel) (by decide +kernel) (by decide +kernel) (fun _ _ _ h => h) (by rfl) (fun W hW => by rfl) ?_
                go_simp
                refine wpB_take HR (i := 7) rfl (by decide +kernel) (by decide +kernel) (by decide +kernel) (fun _ _ _ h => h) (by rfl) (fun W hW => by rfl) ?_
                go_simp
                refine wpB_take HR (i := 8) (v := .pointer (some ⟨b, o + k * 3, none⟩)) rfl (by decide +kernel) (by decide +kernel) (by decide +kernel) (fun _ _ _ h => h) (by rfl) (fun W hW => by go_simp) ?_
                go_simp
                refine wpB_take HR (i := 9) rfl (by decide +kernel) (by decide +kernel) (by decide +kernel) (fun _ _ _ h => h) (by rfl) (fun W hW => by rfl) ?_
                go_simp
                refine wpB_take HR (i := 10) (v := .int .i64 ck) rfl (by decide +kernel) (by decide +kernel) (by decide +kernel) (fun _ _ _ h => h) (by rfl) (fun W hW => by have q := cell_below hW z1; go_simp) ?_
                go_simp
                refine wpB_take HR (i := 11) (v := .bool true) rfl (by decide +kernel) (by decide +kernel) (by decide +kernel) (fun _ _ _ h => h) (by rfl) (fun W hW => by go_simp) ?_
                go_simp
                refine wpB_take HR (i := 12) rfl (by decide +kernel) (by decide +kernel) (by decide +kernel) (fun _ _ _ h => h) (by rfl) (fun W hW => by rfl) ?_
                go_simp
                refine wpB_take HR (i := 13) rfl (by decide +kernel) (by decide +kernel) (by decide +kernel) (fun _ _ _ h => h) (by rfl) (fun W hW => by rfl) ?_
                go_simp
                refine wpB_take HR (i := 14) (v := .int .i64 0) rfl (by decide +kernel) (by decide +kernel) (by decide +kernel) (fun _ _ _ h => h) (by rfl) (fun W hW => by have q := cell_below hW z0; go_simp) ?_
                go_simp
                refine wpB_take HR (i := 15) (v := .bool true) rfl (by decide +kernel) (by decide +kernel) (by decide +kernel) (fun _ _ _ h => h) (by rfl) (fun W hW => by go_simp) ?_
                go_simp
                refine wpB_take HR (i := 16) rfl (by decide +kernel) (by decide +kernel) (by decide +kernel) (fun _ _ _ h => h) (by rfl) (fun W hW => by rfl) ?_
                go_simp
                refine wpB_take HR (i := 17) rfl (by decide +kernel) (by decide +kernel) (by decide +kernel) (fun _ _ _ h => h) (by rfl) (fun W hW => by rfl) ?_
                go_simp
                refine wpB_take HR (i := 18) rfl (by decide +kernel) (by decide +kernel) (by decide +kernel) (fun _ _ _ h => h) (by rfl) (fun W hW => by rfl) ?_
                go_simp
                refine wpB_take HR (i := 19) (v := .pointer (some ⟨b, o + k * 3, none⟩)) rfl (by decide +kernel) (by decide +kernel) (by decide +kernel) (fun _ _ _ h => h) (by rfl) (fun W hW => by go_simp) ?_
                go_simp
                refine wpB_take HR (i := 20) rfl (by decide +kernel) (by decide +kernel) (by decide +kernel) (fun _ _ _ h => h) (by rfl) (fun W hW => by rfl) ?_
                go_simp
                refine wpB_take HR (i := 21) (v := .bool false) rfl (by decide +kernel) (by decide +kernel) (by decide +kernel) (fun _ _ _ h => h) (by rfl) (fun W hW => by have q := cell_below hW z2; go_simp) ?_
                go_simp
                refine wpB_take HR (i := 22) (v := .bool false) rfl (by decide +kernel) (by decide +kernel) (by decide +kernel) (fun _ _ _ h => h) (by rfl) (fun W hW => by go_simp) ?_
                go_simp
                refine wpB_take HR (i := 23) (v := .bool true) rfl (by decide +kernel) (by decide +kernel) (by decide +kernel) (fun _ _ _ h => h) (by rfl) (fun W hW => by go_simp) ?_
                go_simp
                refine wpB_take HR (i := 24) (v := .bool true) rfl (by decide +kernel) (by decide +kernel) (by decide +kernel) (fun _ _ _ h => h) (by rfl) (fun W hW => by go_simp) ?_
                go_simp
                refine wpB_take HR (i := 25) (v := .bool true) rfl (by decide +kernel) (by decide +kernel) (by decide +kernel) (fun _ _ _ h => h) (by rfl) (fun W hW => by go_simp) ?_
                go_simp
                refine wpB_done HR (by decide +kernel) ?_
                go_wp2
                go_ret
                exact ⟨congrArg (fun r => Ending.returned (Value.bool r)) HX.out.symm, HB2.out⟩
            · have hq0 : (kd == 0) = false := by rw [beq_eq_false_iff_ne]; exact hk0
              have HX : Hid (z = false) := HBAD.out (by rw [HVF.out]; simp [hkc, hk0])
              clear HBAD HGD HVF
              refine wpB_take HR (i := 0) (v := .agg #[.int .i64 kd, .int .i64 nm, .string tx]) rfl (by decide +kernel) (by decide +kernel) (by decide +kernel) (fun _ _ _ h => h) (by rfl) (fun W hW => by have q0 := cell_below hW x0; have q1 := cell_below hW x1; have q2 := cell_below hW x2; go_simp) ?_
              go_simp
              refine wpB_call HR (i := 1) rfl (by decide +kernel) (by rfl) (by go_simp; exact ⟨rfl, rfl⟩) ?_
              refine (HRR.out _).mono ?_
              rintro e w2 ⟨rfl, hb2⟩
              refine ⟨_, rfl, hb2, ?_⟩
              have z0 := cell_below hb2 x0
              have z1 := cell_below hb2 y1
              have z2 := cell_below hb2 y2
              have HB2 := Lib.hid (hb0.trans (hb2.mono hb0.size))
              clear hb2 hb0 hk0 x0 x1 x2 y1 y2 HRR
              go_simp
              refine wpB_take HR (i := 2) rfl (by decide +kernel) (by decide +kernel) (by decide +kernel) (fun _ _ _ h => h) (by rfl) (fun W hW => by rfl) ?_
              go_simp
              refine wpB_take HR (i := 3) rfl (by decide +kernel) (by decide +kernel) (by decide +kernel) (fun _ _ _ h => h) (by rfl) (fun W hW => by rfl) ?_
              go_simp
              refine wpB_take HR (i := 4) rfl (by decide +kernel) (by decide +kernel) (by decide +kernel) (fun _ _ _ h => h) (by rfl) (fun W hW => by rfl) ?_
              go_simp
              refine wpB_take HR (i := 5) (v := .int .i64 kd) rfl (by decide +kernel) (by decide +kernel) (by decide +kernel) (fun _ _ _ h => h) (by rfl) (fun W hW => by have q := cell_below hW z0; go_simp) ?_
              go_simp
              refine wpB_take HR (i := 6) rfl (by decide +kernel) (by decide +kernel) (by decide +kernel) (fun _ _ _ h => h) (by rfl) (fun W hW => by rfl) ?_
              go_simp
              refine wpB_take HR (i := 7) rfl (by decide +kernel) (by decide +kernel) (by decide +kernel) (fun _ _ _ h => h) (by rfl) (fun W hW => by rfl) ?_
              go_simp
              refine wpB_take HR (i := 8) (v := .pointer (some ⟨b, o + k * 3, none⟩)) rfl (by decide +kernel) (by decide +kernel) (by decide +kernel) (fun _ _ _ h => h) (by rfl) (fun W hW => by go_simp) ?_
              go_simp
              refine wpB_take HR (i := 9) rfl (by decide +kernel) (by decide +kernel) (by decide +kernel) (fun _ _ _ h => h) (by rfl) (fun W hW => by rfl) ?_
              go_simp
              refine wpB_take HR (i := 10) (v := .int .i64 ck) rfl (by decide +kernel) (by decide +kernel) (by decide +kernel) (fun _ _ _ h => h) (by rfl) (fun W hW => by have q := cell_below hW z1; go_simp) ?_
              go_simp
              refine wpB_take HR (i := 11) (v := .bool true) rfl (by decide +kernel) (by decide +kernel) (by decide +kernel) (fun _ _ _ h => h) (by rfl) (fun W hW => by go_simp) ?_
              go_simp
              refine wpB_take HR (i := 12) rfl (by decide +kernel) (by decide +kernel) (by decide +kernel) (fun _ _ _ h => h) (by rfl) (fun W hW => by rfl) ?_
              go_simp
              refine wpB_take HR (i := 13) rfl (by decide +kernel) (by decide +kernel) (by decide +kernel) (fun _ _ _ h => h) (by rfl) (fun W hW => by rfl) ?_
              go_simp
              refine wpB_take HR (i := 14) (v := .int .i64 kd) rfl (by decide +kernel) (by decide +kernel) (by decide +kernel) (fun _ _ _ h => h) (by rfl) (fun W hW => by have q := cell_below hW z0; go_simp) ?_
              go_simp
              refine wpB_take HR (i := 15) (v := .bool false) rfl (by decide +kernel) (by decide +kernel) (by decide +kernel) (fun _ _ _ h => h) (by rfl) (fun W hW => by go_simp) ?_
              go_simp
              refine wpB_take HR (i := 16) rfl (by decide +kernel) (by decide +kernel) (by decide +kernel) (fun _ _ _ h => h) (by rfl) (fun W hW => by rfl) ?_
              go_simp
              refine wpB_skip HR (i := 17) rfl (by decide +kernel) (by decide +kernel) (by decide +kernel) (fun _ _ _ h => h) (by rfl) ?_
              go_simp
              refine wpB_skip HR (i := 18) rfl (by decide +kernel) (by decide +kernel) (by decide +kernel) (fun _ _ _ h => h) (by rfl) ?_
              go_simp
              refine wpB_skip HR (i := 19) rfl (by decide +kernel) (by decide +kernel) (by decide +kernel) (fun _ _ _ h => h) (by rfl) ?_
              go_simp
              refine wpB_skip HR (i := 20) rfl (by decide +kernel) (by decide +kernel) (by decide +kernel) (fun _ _ _ h => h) (by rfl) ?_
              go_simp
              refine wpB_skip HR (i := 21) rfl (by decide +kernel) (by decide +kernel) (by decide +kernel) (fun _ _ _ h => h) (by rfl) ?_
              go_simp
              refine wpB_take HR (i := 22) (v := .bool false) rfl (by decide +kernel) (by decide +kernel) (by decide +kernel) (fun _ _ _ h => h) (by rfl) (fun W hW => by go_simp) ?_
              go_simp
              refine wpB_take HR (i := 23) (v := .bool true) rfl (by decide +kernel) (by decide +kernel) (by decide +kernel) (fun _ _ _ h => h) (by rfl) (fun W hW => by go_simp) ?_
              go_simp
              refine wpB_take HR (i := 24) (v := .bool true) rfl (by decide +kernel) (by decide +kernel) (by decide +kernel) (fun _ _ _ h => h) (by rfl) (fun W hW => by go_simp) ?_
              go_simp
              refine wpB_take HR (i := 25) (v := .bool true) rfl (by decide +kernel) (by decide +kernel) (by decide +kernel) (fun _ _ _ h => h) (by rfl) (fun W hW => by go_simp) ?_
              go_simp
              refine wpB_done HR (by decide +kernel) ?_
              go_wp2
              go_ret
              exact ⟨congrArg (fun r => Ending.returned (Value.bool r)) HX.out.symm, HB2.out⟩
      · obtain rfl : k = n := by omega
        have HX : Hid (z = true) := by show z = true; rw [← HZ.out]; exact fitsL_good HLEN.out fun j h1 h2 => HALL.out j h1 h2 (by rw [← HN.out]; exact h1)
        go_wp2
        go_ret
        exact ⟨congrArg (fun r => Ending.returned (Value.bool r)) HX.out.symm, HBEL.out⟩
  · rw [fitsL_no hlen]
    have hne : ((r.length : Int) == (l.length : Int)) = false := by rw [beq_eq_false_iff_ne]; omega
    have hne2 : ¬ (r.length : Int) = l.length := by omega
    clear hl hr
    generalize l.length = n at *
    generalize r.length = m at *
    go_enter Tryd.func32, Tryd.ntmps32
    go_wp2
    go_ret
    exact ⟨rfl, Below.refl _ _⟩
end Go.Proofs.YtabnjiepmhblaaaDoor
