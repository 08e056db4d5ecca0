/- The walk of the document's Parse of a schema. -/
import Derived.Test.YtabnjiepmhblaaaDoorJ18
import Derived.Outline
namespace Go.Proofs.YtabnjiepmhblaaaDoor
open Go.RowKit Go.Shelf Go.Maps
set_option linter.unusedVariables false
set_option maxRecDepth 100000 in
set_option maxHeartbeats 16000000 in
theorem refparse_any (s : ByteArray) (W : World) (hs : s.size ≤ 3000000000) : Calls Tryd.prog 9 #[.string s] W (ParsedS W s.data.toList) := by
  have hpa : Calls Tryd.prog 24 #[.string s, .int .u8 44] W (MadeP W.heap.size W (partsL 44 s.data.toList)) := parts_any s 44 W hs
  have hsm := parts_small 44 s.data.toList
  have hrs := refS_eq s.data.toList (by rw [sz_list]; omega)
  rw [sz_list] at hsm
  have hrl : refS s.data.toList = match (if 16 < (partsL 44 s.data.toList).length then none else looseCs (partsL 44 s.data.toList)) with | some cs => if rightC cs = true ∧ showL cs = s.data.toList then some cs else none | none => none := rfl
  rw [hrs] at hrl
  generalize partsL 44 s.data.toList = ps at *
  obtain ⟨sl, hsl⟩ : ∃ sl, s.data.toList = sl := ⟨_, rfl⟩
  have hsb : s = ⟨sl.toArray⟩ := by rw [← hsl]
  rw [hsl] at hrl ⊢
  obtain ⟨n, hn⟩ : ∃ n, ps.length = n := ⟨_, rfl⟩
  rw [hn] at hrl
  have HN := Lib.hid hn
  have HPA := Lib.hid hpa
  have HSM := Lib.hid hsm
  have HSB := Lib.hid hsb
  clear hpa hsm hrs hsl hn hsb
  by_cases h16 : 16 < n
  · rw [if_pos h16] at hrl
    have HNO : Hid (∀ W', Below W.heap.size W W' → ParsedS W sl (.returned (.tuple #[.slice none 0 0, .int .i64 50])) W') := fun W' hb => parsed_no hrl hb
    have h16i : (16 : Int) < (n : Int) := by omega
    clear hrl
    go_enter Tryd.func9, Tryd.ntmps9
    go_wp2_with (first | (go_at_call 24; refine HPA.out.mono ?_; rintro e w1 ⟨v1, rfl, hown1, hbel1⟩; obtain ⟨A1, c1, rfl, hA1, hc1, hcell1⟩ := hown1.form; rw [HN.out]; have HB1 := Lib.hid hbel1; clear hbel1 hown1 hA1 hc1 hcell1 HPA))
    go_ret2
    exact HNO.out _ HB1.out
  rw [if_neg h16] at hrl
  have h16i : ¬ (16 : Int) < (n : Int) := by omega
  have HRL := Lib.hid hrl
  clear hrl
  have HNO : Hid (∀ W', parseL sl = none → Below W.heap.size W W' → ParsedS W sl (.returned (.tuple #[.slice none 0 0, .int .i64 50])) W') := fun W' h hb => parsed_no h hb
  have HYES : Hid (∀ W' r A cap n, parseL sl = some r → r.length = n → Cols W' A r → (A = none → cap = 0) → Below W.heap.size W W' → ParsedS W sl (.returned (.tuple #[.slice A n cap, .int .i64 0])) W') := fun W' r A cap n h hn hc hA hb => parsed_yes h hn hc hA hb
  go_enter Tryd.func9, Tryd.ntmps9
  go_wp2_with (first | (go_at_call 24; refine HPA.out.mono ?_; rintro e w1 ⟨v1, rfl, hown1, hbel1⟩; obtain ⟨A1, c1, rfl, hA1, hc1, hcell1⟩ := hown1.form; rw [HN.out]; have HB1 := Lib.hid hbel1; have HC1 := Lib.hid hcell1; clear hbel1 hown1 hA1 hcell1 HPA))
  go_loopw [4, 6] (fun x4 x6 wr => ∃ k : Nat, k ≤ n ∧ x6 = .int .i64 k ∧ ∃ cs, looseCs (ps.take k) = some cs ∧ cs.length = k ∧ OwnC wr w1.heap.size x4 cs ∧ Below w1.heap.size w1 wr) (fun _ x _ => n - (intOf x).toNat)
  case atStart => exact ⟨0, by omega, rfl, [], rfl, rfl, World.ownsRow_nil w1 _ 44 3, Below.refl _ _⟩
  case round =>
    obtain ⟨k, hk, rfl, cs, hcs, hck, hown, hbel⟩ := hrel
    obtain ⟨Av, cv, rfl, hcols, hA, hle⟩ := hown.form
    rw [hck] at hown
    have HCS := Lib.hid hcs
    have HOWN := Lib.hid hown
    have HBEL := Lib.hid hbel
    have HCOLS := Lib.hid hcols
    have HCK := Lib.hid hck
    have HWB : Hid (Below W.heap.size W wr) := HB1.out.trans (hbel.mono HB1.out.size)
    obtain ⟨wo, rfl⟩ : ∃ wo : World, wo = wr := ⟨_, rfl⟩
    rw [hck]
    clear hcs hown hbel hcols hck
    by_cases hlt : k < n
    · have hkp : k < ps.length := by rw [HN.out]; exact hlt
      obtain ⟨g, rfl, hg⟩ := HC1.out k hkp
      have hgl : g < w1.heap.size := World.block_lt_of_cell? w1 _ hg
      have hcell := (HBEL.out.cell (p := ⟨g, k, none⟩) hgl).trans hg
      have hsn := looseCs_snoc (ps.take k) ps[k]
      have hts : ps.take (k + 1) = ps.take k ++ [ps[k]] := by rw [List.take_add_one, List.getElem?_eq_getElem hkp]; rfl
      have htd : ps = ps.take (k + 1) ++ ps.drop (k + 1) := (List.take_append_drop _ _).symm
      rw [HCS.out, ← hts] at hsn
      have hpk := HSM.out _ (List.getElem_mem hkp)
      have HK : Hid (k + 1 ≤ n) := hlt
      have HNOK : Hid (looseC ps[k] = none → ∀ W', Below W.heap.size W W' → ParsedS W sl (.returned (.tuple #[.slice none 0 0, .int .i64 50])) W') := fun h W' hb => HNO.out W' (by
        rw [h] at hsn
        rw [HRL.out, htd, looseCs_stuck _ _ hsn]) hb
      have HSN : Hid (∀ x, looseC ps[k] = some x → looseCs (ps.take (k + 1)) = some (cs ++ [colP x])) := fun x h => by rw [hsn, h]
      generalize ps[k] = p at hcell hpk HNOK HSN
      obtain ⟨q, hq⟩ : ∃ q, dropB p = q := ⟨_, rfl⟩
      have hlo : looseC p = looseP (partsL 32 q) := by unfold looseC; rw [hq]
      have hql : q.length ≤ p.length := by
        rw [← hq]; cases p with
        | nil => exact Nat.le_refl _
        | cons x r => show (if x = 32 then r else x :: r).length ≤ _; split <;> simp
      obtain ⟨tb, htb⟩ : ∃ tb : ByteArray, (⟨p.toArray⟩ : ByteArray) = tb := ⟨_, rfl⟩
      obtain ⟨qb, hqb⟩ : ∃ qb : ByteArray, (⟨q.toArray⟩ : ByteArray) = qb := ⟨_, rfl⟩
      have hpb : ∀ W, Calls Tryd.prog 24 #[.string qb, .int .u8 32] W (MadeP W.heap.size W (partsL 32 q)) := fun W => by
        have := parts_any qb 32 W (by rw [← hqb, bsz]; omega)
        rw [← hqb] at this ⊢
        exact this
      have hps := parts_small 32 q
      generalize partsL 32 q = pq at hlo hpb hps
      have hpm : ∀ z ∈ pq, z.length ≤ 3000000000 := fun z hz => by have := hps z hz; omega
      have HPB := Lib.hid hpb
      have HPM := Lib.hid hpm
      rw [htb] at hcell
      -- three ways to the second cut
      have hways : (tb = qb ∧ ((tb.size = 0) ∨ (0 < tb.size ∧ ∃ y : UInt8, tb[0]? = some y ∧ y ≠ 32))) ∨ (0 < tb.size ∧ tb[0]? = some 32 ∧ tb.extract 1 tb.size = qb) := by
        cases p with
        | nil =>
          left
          have : q = [] := hq.symm
          subst this
          exact ⟨by rw [← htb, ← hqb], .inl (by rw [← htb]; rfl)⟩
        | cons x r =>
          have hts0 : tb.size = r.length + 1 := by rw [← htb]; simp [ByteArray.size]
          have ht0 : tb[0]? = some x := by rw [getElem?_pos tb 0 (by omega)]; congr 1; subst htb; rfl
          by_cases hx : x = 32
          · right
            have : q = r := by rw [← hq]; show (if x = 32 then r else x :: r) = r; rw [if_pos hx]
            refine ⟨by omega, by rw [ht0, hx], ?_⟩
            rw [← hqb, this, ba_eq (tb.extract 1 tb.size), sl_data, ← htb]
            simp [ByteArray.size]
          · left
            have : q = x :: r := by rw [← hq]; show (if x = 32 then r else x :: r) = _; rw [if_neg hx]
            exact ⟨by rw [← htb, ← hqb, this], .inr ⟨by omega, x, ht0, hx⟩⟩
      have HLO := Lib.hid hlo
      clear hsn hts htd hlo hps hpm hpb hq hql htb hqb hkp hg hpk
      rcases hways with ⟨rfl, hz | ⟨hz, y, hy, hy32⟩⟩ | ⟨hz, hy, hex⟩
      · have z1 : ¬ (0 : Int) < (tb.size : Int) := by omega
        clear hz
        go_upto_region 11 with (fail)
        by_cases hm2 : pq.length < 2
        · have hn2 : looseP pq = none := by
            match pq, hm2 with
            | [], _ => rfl
            | [_], _ => rfl
            | _ :: _ :: t, h => simp only [List.length_cons] at h; omega
          have HNO2 := Lib.hid (HNOK.out (by rw [HLO.out]; exact hn2))
          obtain ⟨m, hm⟩ : ∃ m, pq.length = m := ⟨_, rfl⟩
          have HM := Lib.hid hm
          rw [hm] at hm2
          have m2 : (m : Int) < 2 := by omega
          clear hm hn2 hm2
          go_wp2_with (first | (go_at_call 24; refine (HPB.out _).mono ?_; rintro e w2 ⟨v2, rfl, hown2, hbel2⟩; obtain ⟨A2, c2, rfl, _, _, _⟩ := hown2.form; rw [HM.out]; have HB2 := Lib.hid (HWB.out.trans (hbel2.mono HWB.out.size)); clear hbel2 hown2))
          go_ret2
          exact HNO2.out _ HB2.out
        · obtain ⟨nm, wd, rest, rfl⟩ : ∃ nm wd rest, pq = nm :: wd :: rest := by
            match pq, hm2 with
            | [], h => exact absurd (by simp) h
            | [_], h => exact absurd (by simp) h
            | a :: b :: t, _ => exact ⟨a, b, t, rfl⟩
          have hnm := HPM.out nm (by simp)
          have hwd := HPM.out wd (by simp)
          obtain ⟨m, hm⟩ : ∃ m, (nm :: wd :: rest).length = m := ⟨_, rfl⟩
          have hm2' : 2 ≤ m := by rw [← hm]; simp
          have hnl : (decide ((2 : Int) < (m : Int))) = !rest.isEmpty := by
            rw [← hm]
            cases rest with
            | nil => rfl
            | cons a t => simp only [List.length_cons, List.isEmpty_cons, Bool.not_false, decide_eq_true_eq]; omega
          have HSN2 := Lib.hid (HSN.out _ HLO.out)
          obtain ⟨nl, hnl2⟩ : ∃ nl, (!rest.isEmpty) = nl := ⟨_, rfl⟩
          have hcol : colC (colP (nm, kindUp wd 3, nl)) = [Value.string ⟨nm.toArray⟩, .int .i64 (kindUp wd 3), .bool nl] := by
            unfold colC colP
            simp only
            rw [List.take_of_length_le (by omega)]
            rfl
          have HCOL := Lib.hid hcol
          rw [hnl2] at hnl HSN2
          obtain ⟨qcol, hqc⟩ : ∃ qc, colP (nm, kindUp wd 3, nl) = qc := ⟨_, rfl⟩
          rw [hqc] at HSN2 HCOL
          obtain ⟨nb, hnb⟩ : ∃ nb : ByteArray, (⟨nm.toArray⟩ : ByteArray) = nb := ⟨_, rfl⟩
          rw [hnb] at HCOL
          have HNB := Lib.hid hnb
          have HM := Lib.hid hm
          have m2 : ¬ (m : Int) < 2 := by omega
          clear hm2 hnm hcol hqc hnl2 HSN hnb hm
          go_wp2_with (fail)
          refine (HPB.out _).mono ?_
          rintro e w2 ⟨v2, rfl, hown2, hbel2⟩
          obtain ⟨A2, c2, rfl, _, _, hcl2⟩ := hown2.form
          obtain ⟨g2, rfl, h20⟩ := hcl2 0 (by simp)
          obtain ⟨_, e21, h21⟩ := hcl2 1 (by simp)
          injection e21 with e21
          injection e21 with e21
          subst e21
          replace h20 : w2.cell? ⟨g2, 0, none⟩ = some (.string nb) := by rw [← HNB.out]; exact h20
          replace h21 : w2.cell? ⟨g2, 1, none⟩ = some (.string ⟨wd.toArray⟩) := h21
          rw [HM.out]
          have HB2 := Lib.hid hbel2
          clear hbel2 hown2 hcl2
          go_wp2_with (fail)
          obtain ⟨w3, hw3⟩ : ∃ x, x = w2.alloc (Obj.cells #[Value.string nb, Value.int .i64 0, Value.bool nl] 44) := ⟨_, rfl⟩
          have hb3 : Below w2.heap.size w2 w3 := by rw [hw3]; exact (Below.refl _ _).alloc (Nat.le_refl _) _
          have hk3 : Blk w3 w2.heap.size 44 [Value.string nb, Value.int .i64 0, Value.bool nl] := by rw [hw3]; exact Blk.born w2 _ _
          obtain ⟨X, hX⟩ : ∃ X, w2.heap.size = X := ⟨_, rfl⟩
          rw [← hw3]
          rw [hX] at hb3 hk3 ⊢
          have hg2 : g2 < X := by rw [← hX]; exact World.block_lt_of_cell? w2 _ h20
          have HX := Lib.hid hX
          have HB3 := Lib.hid hb3
          have HK3 := Lib.hid hk3
          have H21 := Lib.hid h21
          clear hw3 hb3 hk3 hX h20 h21 hnl
          go_loopw [10] (fun x10 wr => ∃ j : Nat, j ≤ 3 ∧ x10 = .int .i64 ((j : Int) + 1) ∧ Blk wr X 44 [Value.string nb, Value.int .i64 (kindUp wd j), Value.bool nl] ∧ Below X w2 wr) (fun x _ => (4 - intOf x).toNat)
          case atStart => exact ⟨0, by omega, rfl, HK3.out, HB3.out⟩
          case round =>
            obtain ⟨j, hj, rfl, hblk, hbel⟩ := hrel
            have HBLK := Lib.hid hblk
            have HBI := Lib.hid hbel
            have hXl : X < wr.heap.size := lt_of_block hblk
            clear hblk hbel HK3 HB3
            by_cases hj3 : j < 3
            · have hkj : (j : Int) + 1 ≤ 3 := by omega
              have HKD := Lib.hid (fun w => kinds_any ((j : Int) + 1) ⟨by omega, by omega⟩ w)
              have hstep : kindUp wd (j + 1) = if wd = wordT ((j : Int) + 1) then (j : Int) + 1 else kindUp wd j := rfl
              generalize wordT ((j : Int) + 1) = wt at HKD hstep
              obtain ⟨bq, hbq⟩ : ∃ bq, decide (wd = wt) = bq := ⟨_, rfl⟩
              have HSTEP : Hid (kindUp wd (j + 1) = if bq = true then (j : Int) + 1 else kindUp wd j) := by
                show _ = _
                rw [hstep, ← hbq]
                by_cases e : wd = wt <;> simp [e]
              have d1 := (HBI.out.drew.cell (p := ⟨g2, 1, none⟩) hg2).trans H21.out
              have HBQ := Lib.hid hbq
              clear hstep hbq
              go_upto_region 18 with (fail)
              refine wpB_start 6 (by kernel_rfl) rfl (fun R HR => ?_)
              refine wpB_take HR (i := 0) rfl (by decide +kernel) (by decide +kernel) (by decide +kernel) (fun _ _ _ h => h) (by rfl) (fun W hW => by rfl) ?_
              go_simp
              refine wpB_take HR (i := 1) (v := .pointer (some ⟨g2, 1, none⟩)) rfl (by decide +kernel) (by decide +kernel) (by decide +kernel) (fun _ _ _ h => h) (by rfl) (fun W hW => by first | (go_simp; rw [← HBQ.out, Bool.eq_iff_iff]; simp) | (go_simp; intro hx; exact absurd hx (by omega)) | (go_simp; rw [if_pos ⟨by omega, by omega⟩]; done)) ?_
              go_simp
              refine wpB_take HR (i := 2) (v := .string ⟨wd.toArray⟩) rfl (by decide +kernel) (by decide +kernel) (by decide +kernel) (fun _ _ _ h => h) (by rfl) (fun W hW => by have q := cell_below hW d1; go_simp) ?_
              go_simp
              refine wpB_take HR (i := 3) rfl (by decide +kernel) (by decide +kernel) (by decide +kernel) (fun _ _ _ h => h) (by rfl) (fun W hW => by rfl) ?_
              go_simp
              refine wpB_call HR (i := 4) rfl (by decide +kernel) (by rfl) (by go_simp; exact ⟨rfl, rfl⟩) ?_
              refine (HKD.out _).mono ?_
              rintro e w5 ⟨rfl, hb5⟩
              refine ⟨_, rfl, hb5, ?_⟩
              have hb5' := hb5.mono (show X + 1 ≤ wr.drew.heap.size from hXl)
              have HB5 := Lib.hid (HBI.out.drew.trans (hb5.mono (show X ≤ wr.drew.heap.size from Nat.le_of_lt hXl)))
              have hk5 : Blk w5 X 44 [Value.string nb, Value.int .i64 (kindUp wd j), Value.bool nl] := Blk.below (w := wr.drew) HBLK.out hb5' (Nat.lt_succ_self _)
              have HK5 := Lib.hid hk5
              have c1x := (hk5.at_ 1).trans rfl
              have f1x := hk5.free 1
              clear hb5 hb5' d1 hk5
              go_simp
              refine wpB_take HR (i := 5) (v := .bool bq) rfl (by decide +kernel) (by decide +kernel) (by decide +kernel) (fun _ _ _ h => h) (by rfl) (fun W hW => by go_simp; rw [← HBQ.out, Bool.eq_iff_iff]; simp) ?_
              go_simp
              refine wpB_done HR (by decide +kernel) ?_
              cases bq with
              | true =>
                have hkk : kindUp wd (j + 1) = (j : Int) + 1 := by rw [HSTEP.out, if_pos rfl]
                have HKK := Lib.hid hkk
                clear hkk
                go_wp2
                go_roundw
                case rel => exact ⟨j + 1, by omega, by go_num, by rw [HKK.out]; exact HK5.out.store 1 _, HB5.out.setCell (by simp) _⟩
                case measure => simp [intOf]; omega
              | false =>
                have hkk : kindUp wd (j + 1) = kindUp wd j := by rw [HSTEP.out, if_neg (by simp)]
                have HKK := Lib.hid hkk
                clear hkk
                go_wp2
                go_roundw
                case rel => exact ⟨j + 1, by omega, by go_num, by rw [HKK.out]; exact HK5.out, HB5.out⟩
                case measure => simp [intOf]; omega
            · obtain rfl : j = 3 := by omega
              have c0 : wr.cell? ⟨X, 0, none⟩ = some (.string nb) := (HBLK.out.at_ 0).trans rfl
              have c1x : wr.cell? ⟨X, 1, none⟩ = some (.int .i64 (kindUp wd 3)) := (HBLK.out.at_ 1).trans rfl
              have c2x : wr.cell? ⟨X, 2, none⟩ = some (.bool nl) := (HBLK.out.at_ 2).trans rfl
              have hbx : Below w2.heap.size w2 wr := by rw [HX.out]; exact HBI.out
              have hor := row_below (row_below HOWN.out HB2.out) hbx
              have hbr := HBEL.out.trans ((HB2.out.trans (hbx.mono HB2.out.size)).mono HBEL.out.size)
              have HOR := Lib.hid hor
              have HBR := Lib.hid hbr
              clear hbx hor hbr
              go_wp2_with (first | (refine app_col w1 rfl (.tmp 62) (.tmp 64) rfl (.slice Av k cv) cs rfl (World.ownsRow.alloc HOR.out _) (HBR.out.alloc HBR.out.size _) wr.heap.size 1 qcol rfl (by rw [HCOL.out]; exact Blk.born wr _ _) (by have := HCK.out; omega) ?_; intro v7 w7 hown7 hbel7; have HO7 := Lib.hid hown7; have HB7 := Lib.hid hbel7; clear hown7 hbel7))
              go_roundw
              case rel => exact ⟨k + 1, HK.out, by go_num, cs ++ [qcol], HSN2.out, by have := HCK.out; rw [List.length_append, List.length_cons, List.length_nil]; omega, HO7.out, HB7.out⟩
              case measure => simp [intOf]; have := HK.out; omega
      · have z1 : (0 : Int) < (tb.size : Int) := by omega
        have hidx : ∀ W : World, (Instr.index 9 (.string tb) (.int .i64 0)).run Tryd.prog W = .ok (.int .u8 (y.toNat : Int)) W := fun W => by
          have hg : tb[0]'hz = y := by have h1 := getElem?_pos tb 0 hz; rw [h1] at hy; exact Option.some.inj hy
          go_simp
        have e32 : ((y.toNat : Int) == 32) = false := by rw [beq_eq_false_iff_ne]; intro h; exact hy32 (UInt8.toNat_inj.1 (by show y.toNat = 32; omega))
        clear hy hy32 hz
        go_upto_region 11 with (fail)
        by_cases hm2 : pq.length < 2
        · have hn2 : looseP pq = none := by
            match pq, hm2 with
            | [], _ => rfl
            | [_], _ => rfl
            | _ :: _ :: t, h => simp only [List.length_cons] at h; omega
          have HNO2 := Lib.hid (HNOK.out (by rw [HLO.out]; exact hn2))
          obtain ⟨m, hm⟩ : ∃ m, pq.length = m := ⟨_, rfl⟩
          have HM := Lib.hid hm
          rw [hm] at hm2
          have m2 : (m : Int) < 2 := by omega
          clear hm hn2 hm2
          go_wp2_with (first | (go_at_call 24; refine (HPB.out _).mono ?_; rintro e w2 ⟨v2, rfl, hown2, hbel2⟩; obtain ⟨A2, c2, rfl, _, _, _⟩ := hown2.form; rw [HM.out]; have HB2 := Lib.hid (HWB.out.trans (hbel2.mono HWB.out.size)); clear hbel2 hown2))
          go_ret2
          exact HNO2.out _ HB2.out
        · obtain ⟨nm, wd, rest, rfl⟩ : ∃ nm wd rest, pq = nm :: wd :: rest := by
            match pq, hm2 with
            | [], h => exact absurd (by simp) h
            | [_], h => exact absurd (by simp) h
            | a :: b :: t, _ => exact ⟨a, b, t, rfl⟩
          have hnm := HPM.out nm (by simp)
          have hwd := HPM.out wd (by simp)
          obtain ⟨m, hm⟩ : ∃ m, (nm :: wd :: rest).length = m := ⟨_, rfl⟩
          have hm2' : 2 ≤ m := by rw [← hm]; simp
          have hnl : (decide ((2 : Int) < (m : Int))) = !rest.isEmpty := by
            rw [← hm]
            cases rest with
            | nil => rfl
            | cons a t => simp only [List.length_cons, List.isEmpty_cons, Bool.not_false, decide_eq_true_eq]; omega
          have HSN2 := Lib.hid (HSN.out _ HLO.out)
          obtain ⟨nl, hnl2⟩ : ∃ nl, (!rest.isEmpty) = nl := ⟨_, rfl⟩
          have hcol : colC (colP (nm, kindUp wd 3, nl)) = [Value.string ⟨nm.toArray⟩, .int .i64 (kindUp wd 3), .bool nl] := by
            unfold colC colP
            simp only
            rw [List.take_of_length_le (by omega)]
            rfl
          have HCOL := Lib.hid hcol
          rw [hnl2] at hnl HSN2
          obtain ⟨qcol, hqc⟩ : ∃ qc, colP (nm, kindUp wd 3, nl) = qc := ⟨_, rfl⟩
          rw [hqc] at HSN2 HCOL
          obtain ⟨nb, hnb⟩ : ∃ nb : ByteArray, (⟨nm.toArray⟩ : ByteArray) = nb := ⟨_, rfl⟩
          rw [hnb] at HCOL
          have HNB := Lib.hid hnb
          have HM := Lib.hid hm
          have m2 : ¬ (m : Int) < 2 := by omega
          clear hm2 hnm hcol hqc hnl2 HSN hnb hm
          go_wp2_with (fail)
          refine (HPB.out _).mono ?_
          rintro e w2 ⟨v2, rfl, hown2, hbel2⟩
          obtain ⟨A2, c2, rfl, _, _, hcl2⟩ := hown2.form
          obtain ⟨g2, rfl, h20⟩ := hcl2 0 (by simp)
          obtain ⟨_, e21, h21⟩ := hcl2 1 (by simp)
          injection e21 with e21
          injection e21 with e21
          subst e21
          replace h20 : w2.cell? ⟨g2, 0, none⟩ = some (.string nb) := by rw [← HNB.out]; exact h20
          replace h21 : w2.cell? ⟨g2, 1, none⟩ = some (.string ⟨wd.toArray⟩) := h21
          rw [HM.out]
          have HB2 := Lib.hid hbel2
          clear hbel2 hown2 hcl2
          go_wp2_with (fail)
          obtain ⟨w3, hw3⟩ : ∃ x, x = w2.alloc (Obj.cells #[Value.string nb, Value.int .i64 0, Value.bool nl] 44) := ⟨_, rfl⟩
          have hb3 : Below w2.heap.size w2 w3 := by rw [hw3]; exact (Below.refl _ _).alloc (Nat.le_refl _) _
          have hk3 : Blk w3 w2.heap.size 44 [Value.string nb, Value.int .i64 0, Value.bool nl] := by rw [hw3]; exact Blk.born w2 _ _
          obtain ⟨X, hX⟩ : ∃ X, w2.heap.size = X := ⟨_, rfl⟩
          rw [← hw3]
          rw [hX] at hb3 hk3 ⊢
          have hg2 : g2 < X := by rw [← hX]; exact World.block_lt_of_cell? w2 _ h20
          have HX := Lib.hid hX
          have HB3 := Lib.hid hb3
          have HK3 := Lib.hid hk3
          have H21 := Lib.hid h21
          clear hw3 hb3 hk3 hX h20 h21 hnl
          go_loopw [10] (fun x10 wr => ∃ j : Nat, j ≤ 3 ∧ x10 = .int .i64 ((j : Int) + 1) ∧ Blk wr X 44 [Value.string nb, Value.int .i64 (kindUp wd j), Value.bool nl] ∧ Below X w2 wr) (fun x _ => (4 - intOf x).toNat)
          case atStart => exact ⟨0, by omega, rfl, HK3.out, HB3.out⟩
          case round =>
            obtain ⟨j, hj, rfl, hblk, hbel⟩ := hrel
            have HBLK := Lib.hid hblk
            have HBI := Lib.hid hbel
            have hXl : X < wr.heap.size := lt_of_block hblk
            clear hblk hbel HK3 HB3
            by_cases hj3 : j < 3
            · have hkj : (j : Int) + 1 ≤ 3 := by omega
              have HKD := Lib.hid (fun w => kinds_any ((j : Int) + 1) ⟨by omega, by omega⟩ w)
              have hstep : kindUp wd (j + 1) = if wd = wordT ((j : Int) + 1) then (j : Int) + 1 else kindUp wd j := rfl
              generalize wordT ((j : Int) + 1) = wt at HKD hstep
              obtain ⟨bq, hbq⟩ : ∃ bq, decide (wd = wt) = bq := ⟨_, rfl⟩
              have HSTEP : Hid (kindUp wd (j + 1) = if bq = true then (j : Int) + 1 else kindUp wd j) := by
                show _ = _
                rw [hstep, ← hbq]
                by_cases e : wd = wt <;> simp [e]
              have d1 := (HBI.out.drew.cell (p := ⟨g2, 1, none⟩) hg2).trans H21.out
              have HBQ := Lib.hid hbq
              clear hstep hbq
              go_upto_region 18 with (fail)
              refine wpB_start 6 (by kernel_rfl) rfl (fun R HR => ?_)
              refine wpB_take HR (i := 0) rfl (by decide +kernel) (by decide +kernel) (by decide +kernel) (fun _ _ _ h => h) (by rfl) (fun W hW => by rfl) ?_
              go_simp
              refine wpB_take HR (i := 1) (v := .pointer (some ⟨g2, 1, none⟩)) rfl (by decide +kernel) (by decide +kernel) (by decide +kernel) (fun _ _ _ h => h) (by rfl) (fun W hW => by first | (go_simp; rw [← HBQ.out, Bool.eq_iff_iff]; simp) | (go_simp; intro hx; exact absurd hx (by omega)) | (go_simp; rw [if_pos ⟨by omega, by omega⟩]; done)) ?_
              go_simp
              refine wpB_take HR (i := 2) (v := .string ⟨wd.toArray⟩) rfl (by decide +kernel) (by decide +kernel) (by decide +kernel) (fun _ _ _ h => h) (by rfl) (fun W hW => by have q := cell_below hW d1; go_simp) ?_
              go_simp
              refine wpB_take HR (i := 3) rfl (by decide +kernel) (by decide +kernel) (by decide +kernel) (fun _ _ _ h => h) (by rfl) (fun W hW => by rfl) ?_
              go_simp
              refine wpB_call HR (i := 4) rfl (by decide +kernel) (by rfl) (by go_simp; exact ⟨rfl, rfl⟩) ?_
              refine (HKD.out _).mono ?_
              rintro e w5 ⟨rfl, hb5⟩
              refine ⟨_, rfl, hb5, ?_⟩
              have hb5' := hb5.mono (show X + 1 ≤ wr.drew.heap.size from hXl)
              have HB5 := Lib.hid (HBI.out.drew.trans (hb5.mono (show X ≤ wr.drew.heap.size from Nat.le_of_lt hXl)))
              have hk5 : Blk w5 X 44 [Value.string nb, Value.int .i64 (kindUp wd j), Value.bool nl] := Blk.below (w := wr.drew) HBLK.out hb5' (Nat.lt_succ_self _)
              have HK5 := Lib.hid hk5
              have c1x := (hk5.at_ 1).trans rfl
              have f1x := hk5.free 1
              clear hb5 hb5' d1 hk5
              go_simp
              refine wpB_take HR (i := 5) (v := .bool bq) rfl (by decide +kernel) (by decide +kernel) (by decide +kernel) (fun _ _ _ h => h) (by rfl) (fun W hW => by go_simp; rw [← HBQ.out, Bool.eq_iff_iff]; simp) ?_
              go_simp
              refine wpB_done HR (by decide +kernel) ?_
              cases bq with
              | true =>
                have hkk : kindUp wd (j + 1) = (j : Int) + 1 := by rw [HSTEP.out, if_pos rfl]
                have HKK := Lib.hid hkk
                clear hkk
                go_wp2
                go_roundw
                case rel => exact ⟨j + 1, by omega, by go_num, by rw [HKK.out]; exact HK5.out.store 1 _, HB5.out.setCell (by simp) _⟩
                case measure => simp [intOf]; omega
              | false =>
                have hkk : kindUp wd (j + 1) = kindUp wd j := by rw [HSTEP.out, if_neg (by simp)]
                have HKK := Lib.hid hkk
                clear hkk
                go_wp2
                go_roundw
                case rel => exact ⟨j + 1, by omega, by go_num, by rw [HKK.out]; exact HK5.out, HB5.out⟩
                case measure => simp [intOf]; omega
            · obtain rfl : j = 3 := by omega
              have c0 : wr.cell? ⟨X, 0, none⟩ = some (.string nb) := (HBLK.out.at_ 0).trans rfl
              have c1x : wr.cell? ⟨X, 1, none⟩ = some (.int .i64 (kindUp wd 3)) := (HBLK.out.at_ 1).trans rfl
              have c2x : wr.cell? ⟨X, 2, none⟩ = some (.bool nl) := (HBLK.out.at_ 2).trans rfl
              have hbx : Below w2.heap.size w2 wr := by rw [HX.out]; exact HBI.out
              have hor := row_below (row_below HOWN.out HB2.out) hbx
              have hbr := HBEL.out.trans ((HB2.out.trans (hbx.mono HB2.out.size)).mono HBEL.out.size)
              have HOR := Lib.hid hor
              have HBR := Lib.hid hbr
              clear hbx hor hbr
              go_wp2_with (first | (refine app_col w1 rfl (.tmp 62) (.tmp 64) rfl (.slice Av k cv) cs rfl (World.ownsRow.alloc HOR.out _) (HBR.out.alloc HBR.out.size _) wr.heap.size 1 qcol rfl (by rw [HCOL.out]; exact Blk.born wr _ _) (by have := HCK.out; omega) ?_; intro v7 w7 hown7 hbel7; have HO7 := Lib.hid hown7; have HB7 := Lib.hid hbel7; clear hown7 hbel7))
              go_roundw
              case rel => exact ⟨k + 1, HK.out, by go_num, cs ++ [qcol], HSN2.out, by have := HCK.out; rw [List.length_append, List.length_cons, List.length_nil]; omega, HO7.out, HB7.out⟩
              case measure => simp [intOf]; have := HK.out; omega
      · have z1 : (0 : Int) < (tb.size : Int) := by omega
        have hidx : ∀ W : World, (Instr.index 9 (.string tb) (.int .i64 0)).run Tryd.prog W = .ok (.int .u8 32) W := fun W => by
          have hg : tb[0]'hz = 32 := by have h1 := getElem?_pos tb 0 hz; rw [h1] at hy; exact Option.some.inj hy
          go_simp
        have hso : ∀ W : World, (Instr.slice 9 (.string tb) (some (.int .i64 1)) none none).run Tryd.prog W = .ok (.string qb) W := fun W => by
          rw [← hex]; go_simp; intro hx; exact absurd hx (by omega)
        clear hy hex hz
        go_upto_region 11 with (fail)
        by_cases hm2 : pq.length < 2
        · have hn2 : looseP pq = none := by
            match pq, hm2 with
            | [], _ => rfl
            | [_], _ => rfl
            | _ :: _ :: t, h => simp only [List.length_cons] at h; omega
          have HNO2 := Lib.hid (HNOK.out (by rw [HLO.out]; exact hn2))
          obtain ⟨m, hm⟩ : ∃ m, pq.length = m := ⟨_, rfl⟩
          have HM := Lib.hid hm
          rw [hm] at hm2
          have m2 : (m : Int) < 2 := by omega
          clear hm hn2 hm2
          go_wp2_with (first | (go_at_call 24; refine (HPB.out _).mono ?_; rintro e w2 ⟨v2, rfl, hown2, hbel2⟩; obtain ⟨A2, c2, rfl, _, _, _⟩ := hown2.form; rw [HM.out]; have HB2 := Lib.hid (HWB.out.trans (hbel2.mono HWB.out.size)); clear hbel2 hown2))
          go_ret2
          exact HNO2.out _ HB2.out
        · obtain ⟨nm, wd, rest, rfl⟩ : ∃ nm wd rest, pq = nm :: wd :: rest := by
            match pq, hm2 with
            | [], h => exact absurd (by simp) h
            | [_], h => exact absurd (by simp) h
            | a :: b :: t, _ => exact ⟨a, b, t, rfl⟩
          have hnm := HPM.out nm (by simp)
          have hwd := HPM.out wd (by simp)
          obtain ⟨m, hm⟩ : ∃ m, (nm :: wd :: rest).length = m := ⟨_, rfl⟩
          have hm2' : 2 ≤ m := by rw [← hm]; simp
          have hnl : (decide ((2 : Int) < (m : Int))) = !rest.isEmpty := by
            rw [← hm]
            cases rest with
            | nil => rfl
            | cons a t => simp only [List.length_cons, List.isEmpty_cons, Bool.not_false, decide_eq_true_eq]; omega
          have HSN2 := Lib.hid (HSN.out _ HLO.out)
          obtain ⟨nl, hnl2⟩ : ∃ nl, (!rest.isEmpty) = nl := ⟨_, rfl⟩
          have hcol : colC (colP (nm, kindUp wd 3, nl)) = [Value.string ⟨nm.toArray⟩, .int .i64 (kindUp wd 3), .bool nl] := by
            unfold colC colP
            simp only
            rw [List.take_of_length_le (by omega)]
            rfl
          have HCOL := Lib.hid hcol
          rw [hnl2] at hnl HSN2
          obtain ⟨qcol, hqc⟩ : ∃ qc, colP (nm, kindUp wd 3, nl) = qc := ⟨_, rfl⟩
          rw [hqc] at HSN2 HCOL
          obtain ⟨nb, hnb⟩ : ∃ nb : ByteArray, (⟨nm.toArray⟩ : ByteArray) = nb := ⟨_, rfl⟩
          rw [hnb] at HCOL
          have HNB := Lib.hid hnb
          have HM := Lib.hid hm
          have m2 : ¬ (m : Int) < 2 := by omega
          clear hm2 hnm hcol hqc hnl2 HSN hnb hm
          go_wp2_with (fail)
          refine (HPB.out _).mono ?_
          rintro e w2 ⟨v2, rfl, hown2, hbel2⟩
          obtain ⟨A2, c2, rfl, _, _, hcl2⟩ := hown2.form
          obtain ⟨g2, rfl, h20⟩ := hcl2 0 (by simp)
          obtain ⟨_, e21, h21⟩ := hcl2 1 (by simp)
          injection e21 with e21
          injection e21 with e21
          subst e21
          replace h20 : w2.cell? ⟨g2, 0, none⟩ = some (.string nb) := by rw [← HNB.out]; exact h20
          replace h21 : w2.cell? ⟨g2, 1, none⟩ = some (.string ⟨wd.toArray⟩) := h21
          rw [HM.out]
          have HB2 := Lib.hid hbel2
          clear hbel2 hown2 hcl2
          go_wp2_with (fail)
          obtain ⟨w3, hw3⟩ : ∃ x, x = w2.alloc (Obj.cells #[Value.string nb, Value.int .i64 0, Value.bool nl] 44) := ⟨_, rfl⟩
          have hb3 : Below w2.heap.size w2 w3 := by rw [hw3]; exact (Below.refl _ _).alloc (Nat.le_refl _) _
          have hk3 : Blk w3 w2.heap.size 44 [Value.string nb, Value.int .i64 0, Value.bool nl] := by rw [hw3]; exact Blk.born w2 _ _
          obtain ⟨X, hX⟩ : ∃ X, w2.heap.size = X := ⟨_, rfl⟩
          rw [← hw3]
          rw [hX] at hb3 hk3 ⊢
          have hg2 : g2 < X := by rw [← hX]; exact World.block_lt_of_cell? w2 _ h20
          have HX := Lib.hid hX
          have HB3 := Lib.hid hb3
          have HK3 := Lib.hid hk3
          have H21 := Lib.hid h21
          clear hw3 hb3 hk3 hX h20 h21 hnl
          go_loopw [10] (fun x10 wr => ∃ j : Nat, j ≤ 3 ∧ x10 = .int .i64 ((j : Int) + 1) ∧ Blk wr X 44 [Value.string nb, Value.int .i64 (kindUp wd j), Value.bool nl] ∧ Below X w2 wr) (fun x _ => (4 - intOf x).toNat)
          case atStart => exact ⟨0, by omega, rfl, HK3.out, HB3.out⟩
          case round =>
            obtain ⟨j, hj, rfl, hblk, hbel⟩ := hrel
            have HBLK := Lib.hid hblk
            have HBI := Lib.hid hbel
            have hXl : X < wr.heap.size := lt_of_block hblk
            clear hblk hbel HK3 HB3
            by_cases hj3 : j < 3
            · have hkj : (j : Int) + 1 ≤ 3 := by omega
              have HKD := Lib.hid (fun w => kinds_any ((j : Int) + 1) ⟨by omega, by omega⟩ w)
              have hstep : kindUp wd (j + 1) = if wd = wordT ((j : Int) + 1) then (j : Int) + 1 else kindUp wd j := rfl
              generalize wordT ((j : Int) + 1) = wt at HKD hstep
              obtain ⟨bq, hbq⟩ : ∃ bq, decide (wd = wt) = bq := ⟨_, rfl⟩
              have HSTEP : Hid (kindUp wd (j + 1) = if bq = true then (j : Int) + 1 else kindUp wd j) := by
                show _ = _
                rw [hstep, ← hbq]
                by_cases e : wd = wt <;> simp [e]
              have d1 := (HBI.out.drew.cell (p := ⟨g2, 1, none⟩) hg2).trans H21.out
              have HBQ := Lib.hid hbq
              clear hstep hbq
              go_upto_region 18 with (fail)
              refine wpB_start 6 (by kernel_rfl) rfl (fun R HR => ?_)
              refine wpB_take HR (i := 0) rfl (by decide +kernel) (by decide +kernel) (by decide +kernel) (fun _ _ _ h => h) (by rfl) (fun W hW => by rfl) ?_
              go_simp
              refine wpB_take HR (i := 1) (v := .pointer (some ⟨g2, 1, none⟩)) rfl (by decide +kernel) (by decide +kernel) (by decide +kernel) (fun _ _ _ h => h) (by rfl) (fun W hW => by first | (go_simp; rw [← HBQ.out, Bool.eq_iff_iff]; simp) | (go_simp; intro hx; exact absurd hx (by omega)) | (go_simp; rw [if_pos ⟨by omega, by omega⟩]; done)) ?_
              go_simp
              refine wpB_take HR (i := 2) (v := .string ⟨wd.toArray⟩) rfl (by decide +kernel) (by decide +kernel) (by decide +kernel) (fun _ _ _ h => h) (by rfl) (fun W hW => by have q := cell_below hW d1; go_simp) ?_
              go_simp
              refine wpB_take HR (i := 3) rfl (by decide +kernel) (by decide +kernel) (by decide +kernel) (fun _ _ _ h => h) (by rfl) (fun W hW => by rfl) ?_
              go_simp
              refine wpB_call HR (i := 4) rfl (by decide +kernel) (by rfl) (by go_simp; exact ⟨rfl, rfl⟩) ?_
              refine (HKD.out _).mono ?_
              rintro e w5 ⟨rfl, hb5⟩
              refine ⟨_, rfl, hb5, ?_⟩
              have hb5' := hb5.mono (show X + 1 ≤ wr.drew.heap.size from hXl)
              have HB5 := Lib.hid (HBI.out.drew.trans (hb5.mono (show X ≤ wr.drew.heap.size from Nat.le_of_lt hXl)))
              have hk5 : Blk w5 X 44 [Value.string nb, Value.int .i64 (kindUp wd j), Value.bool nl] := Blk.below (w := wr.drew) HBLK.out hb5' (Nat.lt_succ_self _)
              have HK5 := Lib.hid hk5
              have c1x := (hk5.at_ 1).trans rfl
              have f1x := hk5.free 1
              clear hb5 hb5' d1 hk5
              go_simp
              refine wpB_take HR (i := 5) (v := .bool bq) rfl (by decide +kernel) (by decide +kernel) (by decide +kernel) (fun _ _ _ h => h) (by rfl) (fun W hW => by go_simp; rw [← HBQ.out, Bool.eq_iff_iff]; simp) ?_
              go_simp
              refine wpB_done HR (by decide +kernel) ?_
              cases bq with
              | true =>
                have hkk : kindUp wd (j + 1) = (j : Int) + 1 := by rw [HSTEP.out, if_pos rfl]
                have HKK := Lib.hid hkk
                clear hkk
                go_wp2
                go_roundw
                case rel => exact ⟨j + 1, by omega, by go_num, by rw [HKK.out]; exact HK5.out.store 1 _, HB5.out.setCell (by simp) _⟩
                case measure => simp [intOf]; omega
              | false =>
                have hkk : kindUp wd (j + 1) = kindUp wd j := by rw [HSTEP.out, if_neg (by simp)]
                have HKK := Lib.hid hkk
                clear hkk
                go_wp2
                go_roundw
                case rel => exact ⟨j + 1, by omega, by go_num, by rw [HKK.out]; exact HK5.out, HB5.out⟩
                case measure => simp [intOf]; omega
            · obtain rfl : j = 3 := by omega
              have c0 : wr.cell? ⟨X, 0, none⟩ = some (.string nb) := (HBLK.out.at_ 0).trans rfl
              have c1x : wr.cell? ⟨X, 1, none⟩ = some (.int .i64 (kindUp wd 3)) := (HBLK.out.at_ 1).trans rfl
              have c2x : wr.cell? ⟨X, 2, none⟩ = some (.bool nl) := (HBLK.out.at_ 2).trans rfl
              have hbx : Below w2.heap.size w2 wr := by rw [HX.out]; exact HBI.out
              have hor := row_below (row_below HOWN.out HB2.out) hbx
              have hbr := HBEL.out.trans ((HB2.out.trans (hbx.mono HB2.out.size)).mono HBEL.out.size)
              have HOR := Lib.hid hor
              have HBR := Lib.hid hbr
              clear hbx hor hbr
              go_wp2_with (first | (refine app_col w1 rfl (.tmp 62) (.tmp 64) rfl (.slice Av k cv) cs rfl (World.ownsRow.alloc HOR.out _) (HBR.out.alloc HBR.out.size _) wr.heap.size 1 qcol rfl (by rw [HCOL.out]; exact Blk.born wr _ _) (by have := HCK.out; omega) ?_; intro v7 w7 hown7 hbel7; have HO7 := Lib.hid hown7; have HB7 := Lib.hid hbel7; clear hown7 hbel7))
              go_roundw
              case rel => exact ⟨k + 1, HK.out, by go_num, cs ++ [qcol], HSN2.out, by have := HCK.out; rw [List.length_append, List.length_cons, List.length_nil]; omega, HO7.out, HB7.out⟩
              case measure => simp [intOf]; have := HK.out; omega
    · obtain rfl : k = n := by omega
      have hfull : ps.take k = ps := List.take_of_length_le (by rw [HN.out]; omega)
      have hpl := HRL.out
      rw [← hfull, HCS.out] at hpl
      simp only at hpl
      cases hr : rightC cs with
      | false =>
        have hsh := refshow_no Av cv cs wo HCOLS.out (by have := HCK.out; omega) hr
        rw [HCK.out] at hsh
        have HNO2 := Lib.hid (fun W' => HNO.out W' (by rw [hpl, hr]; simp))
        have HSH := Lib.hid hsh
        clear hsh hpl hr hfull HNO HYES
        go_wp2_with (first | (go_at_call 7; refine HSH.out.mono ?_; rintro e w2 ⟨rfl, rfl⟩; clear HSH))
        go_ret2
        exact HNO2.out _ HWB.out
      | true =>
        have hsh := refshow_ok Av cv cs wo HCOLS.out hr
        rw [HCK.out] at hsh
        by_cases he : showL cs = sl
        · have heb : (⟨(showL cs).toArray⟩ : ByteArray) = s := by rw [he]; exact HSB.out.symm
          rw [heb] at hsh
          have HYES2 : Hid (∀ W', Cols W' Av cs → Below W.heap.size W W' → ParsedS W sl (.returned (.tuple #[.slice Av k cv, .int .i64 0])) W') := fun W' h1 h2 => HYES.out W' cs Av cv k (by rw [hpl, hr, he]; simp) HCK.out h1 hA h2
          have HSH := Lib.hid hsh
          clear hsh hpl hr hfull HNO HYES he heb hA
          go_wp2_with (first | (go_at_call 7; refine HSH.out.mono ?_; rintro e w2 ⟨rfl, hb2⟩; have HB2 := Lib.hid (HWB.out.trans (hb2.mono HWB.out.size)); have HC2 := Lib.hid (HCOLS.out.keep hb2); clear hb2 HSH))
          go_ret2
          exact HYES2.out _ HC2.out HB2.out
        · obtain ⟨tb, htb⟩ : ∃ tb : ByteArray, (⟨(showL cs).toArray⟩ : ByteArray) = tb := ⟨_, rfl⟩
          have hne : (tb.toList == s.toList) = false := by
            rw [beq_eq_false_iff_ne, ByteArray.toList_eq, ByteArray.toList_eq, ← htb, HSB.out]
            exact he
          have hne2 : (tb.toList != s.toList) = true := by rw [bne, hne]; rfl
          rw [htb] at hsh
          have HNO2 := Lib.hid (fun W' => HNO.out W' (by rw [hpl, if_neg (by rintro ⟨_, h⟩; exact he h)]))
          have HSH := Lib.hid hsh
          clear hsh hpl hr hfull HNO HYES he htb hA
          go_wp2_with (first | (go_at_call 7; refine HSH.out.mono ?_; rintro e w2 ⟨rfl, hb2⟩; have HB2 := Lib.hid (HWB.out.trans (hb2.mono HWB.out.size)); clear hb2 HSH))
          go_ret2
          exact HNO2.out _ HB2.out
end Go.Proofs.YtabnjiepmhblaaaDoor
