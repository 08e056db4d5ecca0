/- The program's TakeRows once more: of bytes whose spare room may be any. -/
import Derived.Test.YtabnjiepmhblaaaDoorJ32
import Derived.Test.YtabnjiepmhblaaaDoorJ34
namespace Go.Proofs.YtabnjiepmhblaaaDoor
open Go.RowKit Go.Shelf Go.Maps
set_option linter.unusedVariables false
set_option maxRecDepth 100000 in
set_option maxHeartbeats 8000000 in
theorem takerows_anyW (B A : Option Addr) (bcap cap : Nat) (b : List UInt8) (at_ : Int) (l : List Col) (W : World) (hy : Byt W B b) (hB : B = none → bcap = 0) (hbc : b.length ≤ bcap) (hbm : bcap ≤ 9223372036854775807) (hbL : b.length ≤ 400000000000000) (hl : Cols W A l) (hn : l.length ≤ 4000000000000000000) :
    Calls Tryd.prog 15 #[.slice B b.length bcap, .int .i64 at_, .slice A l.length cap] W (TookRw W l b at_) := by
  have hri := right_any A cap l W hl hn
  cases hrr : rightC l with
  | false =>
    rw [hrr] at hri
    have hts : takeRw l b at_ = none := by unfold takeRw; rw [if_pos hrr]
    have HNO := Lib.hid (fun W' (h : Below W.heap.size W W') => tookrw_no (ec := 50) hts (by unfold rwE; rw [hrr]; rfl) h)
    have HR := Lib.hid hri
    clear hri hl hy hrr hts
    generalize l.length = n at *
    generalize b.length = bn at *
    go_enter Tryd.func15, Tryd.ntmps15
    go_wp2_with (first | (go_at_call 12; refine HR.out.mono ?_; rintro e w1 ⟨rfl, hb⟩; have B1 := Lib.hid hb; clear hb HR))
    refine bodyPost_ret (v := .tuple #[.slice none 0 0, .int .i64 0, .int .i64 50]) ?_ rfl (HNO.out _ B1.out)
    rw [results_tmp3 rfl]
    rfl
  | true =>
  rw [hrr] at hri
  have hlen : 1 ≤ l.length ∧ l.length ≤ 16 := by
    apply Classical.byContradiction
    intro h
    rw [rightC_len h] at hrr
    cases hrr
  have hE : rwE l = 52 := by unfold rwE; rw [hrr]; rfl
  have HR := Lib.hid hri
  have hT : ∀ w1, Below W.heap.size W w1 → _ := fun w1 h => take_anyW B bcap at_ b w1 (hy.keep h) hbc hbm hbL
  unfold Took at hT
  have hts : takeRw l b at_ = match takeO b at_ with
    | none => none
    | some (n, c) => if 1024 < n then none else takeRs l b (at_ + c) n := by unfold takeRw; rw [if_neg (by rw [hrr]; simp)] <;> rfl
  cases ht : takeO b at_ with
  | none =>
    rw [ht] at hts
    simp only [tV, tP, tE, ht] at hT
    have HT := Lib.hid hT
    have HNO := Lib.hid (fun W' (h : Below W.heap.size W W') => tookrw_no hts hE h)
    clear hT hts ht hy hri hl hE hrr
    generalize l.length = n at *
    generalize b.length = bn at *
    go_enter Tryd.func15, Tryd.ntmps15
    go_wp2_with (first | (go_at_call 12; refine HR.out.mono ?_; rintro e w1 ⟨rfl, hb⟩; have B1 := Lib.hid hb; clear hb HR) | (go_at_call 30; refine (HT.out _ B1.out).mono ?_; rintro e w2 ⟨rfl, rfl⟩; clear HT))
    refine bodyPost_ret (v := .tuple #[.slice none 0 0, .int .i64 0, .int .i64 52]) ?_ rfl (HNO.out _ B1.out)
    rw [results_tmp3 rfl]
    rfl
  | some x =>
    obtain ⟨n, c⟩ := x
    rw [ht] at hts
    simp only at hts
    simp only [tV, tP, tE, ht] at hT
    have HT := Lib.hid hT
    have h0 := takeO_in ht
    by_cases hn16 : 1024 < n
    · rw [if_pos hn16] at hts
      have HNO := Lib.hid (fun W' (h : Below W.heap.size W W') => tookrw_no hts hE h)
      have hgt : (1024 : Int) < (n : Int) := by omega
      clear hT hts ht hy hri hl hE hrr h0
      generalize l.length = m at *
      generalize b.length = bn at *
      go_enter Tryd.func15, Tryd.ntmps15
      go_wp2_with (first | (go_at_call 12; refine HR.out.mono ?_; rintro e w1 ⟨rfl, hb⟩; have B1 := Lib.hid hb; clear hb HR) | (go_at_call 30; refine (HT.out _ B1.out).mono ?_; rintro e w2 ⟨rfl, rfl⟩; clear HT))
      refine bodyPost_ret (v := .tuple #[.slice none 0 0, .int .i64 0, .int .i64 52]) ?_ rfl (HNO.out _ B1.out)
      rw [results_tmp3 rfl]
      rfl
    · rw [if_neg hn16] at hts
      obtain ⟨at2, hat2⟩ : ∃ a2, at_ + (c : Int) = a2 := ⟨_, rfl⟩
      rw [hat2] at hts
      have hgt : ¬ (1024 : Int) < (n : Int) := by omega
      have HTS := Lib.hid hts
      have HBY := Lib.hid hy
      have HL := Lib.hid hl
      have HE := Lib.hid hE
      have HIN : Hid (at2 ≤ b.length ∧ 0 ≤ at2) := ⟨by omega, by omega⟩
      have HNL := Lib.hid hlen
      clear hT hts ht hy h0 hri hl hE hrr
      rw [hat2] at HT
      clear hat2
      go_enter Tryd.func15, Tryd.ntmps15
      go_wp2_with (first | (go_at_call 12; refine HR.out.mono ?_; rintro e w1 ⟨rfl, hb⟩; have B1 := Lib.hid hb; clear hb HR) | (go_at_call 30; refine (HT.out _ B1.out).mono ?_; rintro e w2 ⟨rfl, rfl⟩; clear HT) | (refine mk_rows rfl (.tmp 31) (.tmp 31) rfl n rfl rfl (by omega) ?_; have HG0 := Lib.hid (Blk.born w1 68 (List.replicate n (Value.slice none 0 0))); have HB0 := Lib.hid (B1.out.alloc B1.out.size (.cells (List.replicate n (Value.slice none 0 0)).toArray 68))))
      obtain ⟨G, hG⟩ : ∃ G, w1.heap.size = G := ⟨_, rfl⟩
      rw [hG] at HG0 ⊢
      have hNG : W.heap.size ≤ G := by rw [← hG]; exact B1.out.size
      clear hG
      go_loopw [10, 11, 13, 14, 35] (fun x10 x11 x13 x14 x35 wr => ∃ k : Nat, k ≤ n ∧ x35 = .int .i64 k ∧ ∃ rs p sl, takeRs l b at2 k = some (rs, p) ∧ x10 = .int .i64 p ∧ sl.length = k ∧ Blk wr G 68 (sl ++ List.replicate (n - k) (Value.slice none 0 0)) ∧ (∀ i (hi : i < rs.length), ∃ g, sl[i]? = some (.slice (some ⟨g, 0, none⟩) l.length l.length) ∧ G < g ∧ Blk wr g 71 (rs[i].flatMap vlC)) ∧ Below W.heap.size W wr) (fun _ _ _ _ x _ => n - (intOf x).toNat)
      case atStart => exact ⟨0, by omega, rfl, [], at2, [], rfl, rfl, rfl, HG0.out, fun i hi => by simp at hi, HB0.out⟩
      case round =>
        obtain ⟨k, hk, rfl, rs, p, sl, htk, rfl, hsl, hblk, hrows, hbel⟩ := hrel
        have hfr := takeRs_form HIN.out.1 htk
        have HBEL := Lib.hid hbel
        have HBLK := Lib.hid hblk
        have HTK := Lib.hid htk
        have HROWS := Lib.hid hrows
        have HFR := Lib.hid hfr
        have HSL := Lib.hid hsl
        have hGl : G < wr.heap.size := lt_of_block hblk
        clear hbel hblk htk hrows HG0 HB0 B1 hfr
        by_cases hlt : k < n
        · have HK : Hid (k < n) := hlt
          have hq16 : l.length ≤ 16 := HNL.out.2
          obtain ⟨g, hg⟩ : ∃ g, wr.heap.size = g := ⟨_, rfl⟩
          have hcut : (sl ++ List.replicate (n - k) (Value.slice none 0 0)).set k (.slice (some ⟨g, 0, none⟩) l.length l.length) = (sl ++ [.slice (some ⟨g, 0, none⟩) l.length l.length]) ++ List.replicate (n - (k + 1)) (Value.slice none 0 0) := by
            rw [show n - k = (n - (k + 1)) + 1 by omega, List.replicate_succ, List.set_append_right _ _ (by omega), show k - sl.length = 0 by omega]
            simp
          have HCUT := Lib.hid hcut
          obtain ⟨W2, hW2⟩ : ∃ x, x = (wr.setCell ⟨G, k, none⟩ (.slice (some ⟨g, 0, none⟩) l.length l.length)).alloc (.cells ((List.replicate l.length zv).flatMap vlC).toArray 71) := ⟨_, rfl⟩
          have hs0 : Sole G wr (wr.setCell ⟨G, k, none⟩ (.slice (some ⟨g, 0, none⟩) l.length l.length)) := (Sole.refl G wr).setCell k _
          have hblk2 : Blk W2 G 68 ((sl ++ [.slice (some ⟨g, 0, none⟩) l.length l.length]) ++ List.replicate (n - (k + 1)) (Value.slice none 0 0)) := by rw [hW2, ← hcut]; exact (HBLK.out.store k _).later _
          have hbn2 : Blk W2 g 71 ((List.replicate l.length zv).flatMap vlC) := by
            have := Blk.born (wr.setCell ⟨G, k, none⟩ (.slice (some ⟨g, 0, none⟩) l.length l.length)) 71 ((List.replicate l.length zv).flatMap vlC)
            rw [hs0.size, hg] at this
            rw [hW2]; exact this
          have hbel2 : Below W.heap.size W W2 := by
            have h1 := hs0.below HBEL.out hNG
            rw [hW2]; exact h1.alloc h1.size _
          have hrows2 : ∀ i (hi : i < rs.length), ∃ g', sl[i]? = some (.slice (some ⟨g', 0, none⟩) l.length l.length) ∧ G < g' ∧ g' < g ∧ Blk W2 g' 71 (rs[i].flatMap vlC) := fun i hi => by
            obtain ⟨g', e1, e2, e3⟩ := HROWS.out i hi
            exact ⟨g', e1, e2, by rw [← hg]; exact lt_of_block e3, by rw [hW2]; exact (e3.sole hs0 (by omega)).later _⟩
          have hGg : G < g := by omega
          have hc0 : ∃ u, wr.cell? ⟨G, k, none⟩ = some u := ⟨_, (HBLK.out.at_ k).trans (List.getElem?_eq_getElem (by rw [List.length_append, List.length_replicate]; omega))⟩
          obtain ⟨u0, hc0⟩ := hc0
          have hf0 := HBLK.out.free k
          have hWg : W.heap.size ≤ g := by omega
          have HW2 := Lib.hid hW2
          have HB2 := Lib.hid hblk2
          have HN2 := Lib.hid hbn2
          have HE2 := Lib.hid hbel2
          have HR2 := Lib.hid hrows2
          have hpl := HFR.out.2.2
          clear hcut hW2 hs0 hblk2 hbn2 hbel2 hrows2 HBLK HROWS HBEL
          go_wp2_with (first | (refine mk_vals rfl (.tmp 41) (.tmp 41) rfl l.length rfl rfl (by omega) ?_; rw [hg]))
          rw [← HW2.out]
          clear HW2 hc0 hf0 hg
          go_loopw [10, 11, 14, 46] (fun x10 x11 x14 x46 w3 => ∃ j : Nat, j ≤ l.length ∧ x46 = .int .i64 j ∧ ∃ r q, takeVs b p j = some (r, q) ∧ x10 = .int .i64 q ∧ Blk w3 g 71 ((r ++ List.replicate (l.length - j) zv).flatMap vlC) ∧ Below g W2 w3) (fun _ _ _ x _ => l.length - (intOf x).toNat)
          case atStart => exact ⟨0, by omega, rfl, [], p, rfl, rfl, HN2.out, Below.refl _ _⟩
          case round =>
            obtain ⟨j, hj, rfl, r, q, htv, rfl, hblk3, hbel3⟩ := hrel
            have hfv := takeVs_form hpl htv
            have HFV := Lib.hid hfv
            have HTV := Lib.hid htv
            have HBK3 := Lib.hid hblk3
            have HBE3 := Lib.hid hbel3
            clear hfv htv hblk3 hbel3
            by_cases hjl : j < l.length
            · have HJ : Hid (j < l.length) := hjl
              have hrj := HFV.out.1
              have hsl := HSL.out
              have hG3 := HB2.out.below HBE3.out hGg
              have hcell : wr.cell? ⟨G, k, none⟩ = some (.slice (some ⟨g, 0, none⟩) l.length l.length) := (hG3.at_ k).trans (by rw [List.getElem?_append_left (by simp; omega), List.getElem?_append_right (by omega), hsl, Nat.sub_self]; rfl)
              have hWw : Below W.heap.size W wr := HE2.out.trans (HBE3.out.mono hWg)
              have htk := V4.takev_anyW B bcap q b wr.drew (HBY.out.keep hWw.drew) hB hbc hbm hbL
              unfold V4.TookV at htk
              rw [valR_takeV] at htk
              have hgl3 : g < wr.heap.size := lt_of_block HBK3.out
              have hBd : Blk wr.drew g 71 ((r ++ List.replicate (l.length - j) zv).flatMap vlC) := HBK3.out
              have H3 : Hid (j * 3 + 3 ≤ ((r ++ List.replicate (l.length - j) zv).flatMap vlC).length) := by show _ ≤ _; rw [flatV_len, List.length_append, List.length_replicate]; omega
              have HBD := Lib.hid hBd
              cases htv2 : takeV b q with
              | none =>
                have hno : takeRw l b at_ = none := by
                  rw [HTS.out, takeRs_none (k := k + 1) (by simp only [takeRs]; rw [HTK.out]; simp only [takeVs_none (k := j + 1) (by simp only [takeVs]; rw [HTV.out]; simp only [htv2]) l.length hjl]) n hlt]
                have HNO := Lib.hid (fun W' (h : Below W.heap.size W W') => tookrw_no hno HE.out h)
                rw [htv2] at htk
                simp only at htk
                have HTKV := Lib.hid htk
                clear htk htv2 hno hrj hsl hG3 hWw hBd
                go_upto_region 14 with (fail)
                have hS : World.cell? wr.drew ⟨G, k, none⟩ = some (.slice (some ⟨g, 0, none⟩) l.length l.length) := hcell
                clear hcell
                refine wpS_start (fun w => World.cell? w ⟨G, k, none⟩ = some (.slice (some ⟨g, 0, none⟩) l.length l.length)) 16 (by kernel_rfl) rfl (fun RG HR => ?_)
                refine wpS_take HR (i := 0) (v := .slice (some ⟨G, 0, none⟩) n n) rfl (by decide +kernel) (by decide +kernel) (by decide +kernel) (fun _ _ _ h => h) (by rfl) hS (fun W hW => by go_simp) ?_
                go_simp
                refine wpS_take HR (i := 1) (v := .int .i64 (k : Int)) rfl (by decide +kernel) (by decide +kernel) (by decide +kernel) (fun _ _ _ h => h) (by rfl) hS (fun W hW => by go_simp) ?_
                go_simp
                refine wpS_take HR (i := 2) (v := .pointer (some ⟨G, k, none⟩)) rfl (by decide +kernel) (by decide +kernel) (by decide +kernel) (fun _ _ _ h => h) (by rfl) hS (fun W hW => by first | (go_simp; done) | (go_simp; intro hx; exact absurd hx (by omega)) | (go_simp; rw [if_pos ⟨by omega, by omega⟩]; done)) ?_
                go_simp
                refine wpS_take HR (i := 3) (v := .slice (some ⟨g, 0, none⟩) l.length l.length) rfl (by decide +kernel) (by decide +kernel) (by decide +kernel) (fun _ _ _ h => h) (by rfl) hS (fun W hW => by go_simp) ?_
                go_simp
                refine wpS_take HR (i := 4) (v := .int .i64 (j : Int)) rfl (by decide +kernel) (by decide +kernel) (by decide +kernel) (fun _ _ _ h => h) (by rfl) hS (fun W hW => by go_simp) ?_
                go_simp
                refine wpS_take HR (i := 5) (v := .slice B b.length bcap) rfl (by decide +kernel) (by decide +kernel) (by decide +kernel) (fun _ _ _ h => h) (by rfl) hS (fun W hW => by go_simp) ?_
                go_simp
                refine wpS_take HR (i := 6) (v := .int .i64 q) rfl (by decide +kernel) (by decide +kernel) (by decide +kernel) (fun _ _ _ h => h) (by rfl) hS (fun W hW => by go_simp) ?_
                go_simp
                refine wpS_step1 HR (i := 7) (by decide +kernel) ?_
                refine stepS_call HR rfl (by rfl) (by go_simp; exact ⟨rfl, rfl⟩) ?_
                refine HTKV.out.mono ?_
                rintro e w4 ⟨rfl, hb4⟩
                have hS4 : World.cell? w4 ⟨G, k, none⟩ = some (.slice (some ⟨g, 0, none⟩) l.length l.length) := cell_below hb4 hS
                refine ⟨_, rfl, hS4, ?_⟩
                clear hS
                have hS := hS4
                have HG4 := Lib.hid (HBD.out.below hb4 hgl3)
                have HE4 := Lib.hid (HBE3.out.drew.trans (hb4.mono (Nat.le_of_lt hgl3)))
                clear hb4 HTKV hS4
                go_simp
                refine wpS_take HR (i := 8) (v := .tuple #[.agg #[.int .i64 0, .int .i64 0, .string ⟨#[]⟩], .int .i64 0, .int .i64 20]) rfl (by decide +kernel) (by decide +kernel) (by decide +kernel) (fun _ _ _ h => h) (by rfl) hS (fun W hW => by go_simp) ?_
                go_simp
                refine wpS_take HR (i := 9) (v := .agg #[.int .i64 0, .int .i64 0, .string ⟨#[]⟩]) rfl (by decide +kernel) (by decide +kernel) (by decide +kernel) (fun _ _ _ h => h) (by rfl) hS (fun W hW => by go_simp) ?_
                go_simp
                refine wpS_take HR (i := 10) (v := .int .i64 0) rfl (by decide +kernel) (by decide +kernel) (by decide +kernel) (fun _ _ _ h => h) (by rfl) hS (fun W hW => by go_simp) ?_
                go_simp
                refine wpS_take HR (i := 11) (v := .int .i64 20) rfl (by decide +kernel) (by decide +kernel) (by decide +kernel) (fun _ _ _ h => h) (by rfl) hS (fun W hW => by go_simp) ?_
                go_simp
                refine wpS_take HR (i := 12) (v := .pointer (some ⟨g, j * 3, none⟩)) rfl (by decide +kernel) (by decide +kernel) (by decide +kernel) (fun _ _ _ h => h) (by rfl) hS (fun W hW => by first | (go_simp; done) | (go_simp; intro hx; exact absurd hx (by omega)) | (go_simp; rw [if_pos ⟨by omega, by omega⟩]; done)) ?_
                go_simp
                refine wpS_step1 HR (i := 13) (by decide +kernel) ?_
                refine stepS_list HR rfl rfl ?_
                intro K hK
                refine st_mid rfl 71 (.tmp 61) (.tmp 58) rfl 3 szVa g (j * 3) 71 _ [Value.int .i64 0, Value.int .i64 0, Value.string ⟨#[]⟩] rfl rfl HG4.out rfl H3.out (one_v _ _ _) ?_
                intro w5 hb5 hs5
                have hS5 : World.cell? w5 ⟨G, k, none⟩ = some (.slice (some ⟨g, 0, none⟩) l.length l.length) := by unfold World.cell? at hS ⊢; rw [hs5.block G (by omega)]; exact hS
                refine wpList_nil (hK _ _ hS5 ?_)
                clear hK K hS
                have hS := hS5
                have HB5 := Lib.hid hb5
                have HE5 := Lib.hid (hs5.below HE4.out (Nat.le_refl _))
                clear hb5 hs5 hS5
                go_simp
                refine wpS_take HR (i := 14) (v := .int .i64 0) rfl (by decide +kernel) (by decide +kernel) (by decide +kernel) (fun _ _ _ h => h) (by rfl) hS (fun W hW => by go_simp) ?_
                go_simp
                refine wpS_take HR (i := 15) (v := .int .i64 20) rfl (by decide +kernel) (by decide +kernel) (by decide +kernel) (fun _ _ _ h => h) (by rfl) hS (fun W hW => by go_simp) ?_
                go_simp
                refine wpS_done HR (by decide +kernel) ?_
                go_wp2
                refine bodyPost_ret (v := .tuple #[.slice none 0 0, .int .i64 0, .int .i64 52]) ?_ rfl (HNO.out _ (HE2.out.trans (HE5.out.mono hWg)))
                rw [results_tmp3 rfl]
                rfl
              | some y =>
                obtain ⟨v, q2⟩ := y
                have hstep : takeVs b p (j + 1) = some (r ++ [v], q2) := by simp only [takeVs]; rw [HTV.out]; simp only [htv2]
                have hset : setL ((r ++ List.replicate (l.length - j) zv).flatMap vlC) (j * 3) [Value.int .i64 v.kind, Value.int .i64 v.num, Value.string v.text] = (((r ++ [v]) ++ List.replicate (l.length - (j + 1)) zv).flatMap vlC) := by
                  have := flatV_set (c := v) (z := l.length - (j + 1)) hrj
                  rw [show l.length - (j + 1) + 1 = l.length - j by omega] at this
                  exact this
                rw [htv2] at htk
                simp only at htk
                unfold vlV at htk
                have HTKV := Lib.hid htk
                have HSTEP := Lib.hid hstep
                have HSET := Lib.hid hset
                clear htk htv2 hstep hset hrj hsl hG3 hWw hBd
                go_upto_region 14 with (fail)
                have hS : World.cell? wr.drew ⟨G, k, none⟩ = some (.slice (some ⟨g, 0, none⟩) l.length l.length) := hcell
                clear hcell
                refine wpS_start (fun w => World.cell? w ⟨G, k, none⟩ = some (.slice (some ⟨g, 0, none⟩) l.length l.length)) 16 (by kernel_rfl) rfl (fun RG HR => ?_)
                refine wpS_take HR (i := 0) (v := .slice (some ⟨G, 0, none⟩) n n) rfl (by decide +kernel) (by decide +kernel) (by decide +kernel) (fun _ _ _ h => h) (by rfl) hS (fun W hW => by go_simp) ?_
                go_simp
                refine wpS_take HR (i := 1) (v := .int .i64 (k : Int)) rfl (by decide +kernel) (by decide +kernel) (by decide +kernel) (fun _ _ _ h => h) (by rfl) hS (fun W hW => by go_simp) ?_
                go_simp
                refine wpS_take HR (i := 2) (v := .pointer (some ⟨G, k, none⟩)) rfl (by decide +kernel) (by decide +kernel) (by decide +kernel) (fun _ _ _ h => h) (by rfl) hS (fun W hW => by first | (go_simp; done) | (go_simp; intro hx; exact absurd hx (by omega)) | (go_simp; rw [if_pos ⟨by omega, by omega⟩]; done)) ?_
                go_simp
                refine wpS_take HR (i := 3) (v := .slice (some ⟨g, 0, none⟩) l.length l.length) rfl (by decide +kernel) (by decide +kernel) (by decide +kernel) (fun _ _ _ h => h) (by rfl) hS (fun W hW => by go_simp) ?_
                go_simp
                refine wpS_take HR (i := 4) (v := .int .i64 (j : Int)) rfl (by decide +kernel) (by decide +kernel) (by decide +kernel) (fun _ _ _ h => h) (by rfl) hS (fun W hW => by go_simp) ?_
                go_simp
                refine wpS_take HR (i := 5) (v := .slice B b.length bcap) rfl (by decide +kernel) (by decide +kernel) (by decide +kernel) (fun _ _ _ h => h) (by rfl) hS (fun W hW => by go_simp) ?_
                go_simp
                refine wpS_take HR (i := 6) (v := .int .i64 q) rfl (by decide +kernel) (by decide +kernel) (by decide +kernel) (fun _ _ _ h => h) (by rfl) hS (fun W hW => by go_simp) ?_
                go_simp
                refine wpS_step1 HR (i := 7) (by decide +kernel) ?_
                refine stepS_call HR rfl (by rfl) (by go_simp; exact ⟨rfl, rfl⟩) ?_
                refine HTKV.out.mono ?_
                rintro e w4 ⟨rfl, hb4⟩
                have hS4 : World.cell? w4 ⟨G, k, none⟩ = some (.slice (some ⟨g, 0, none⟩) l.length l.length) := cell_below hb4 hS
                refine ⟨_, rfl, hS4, ?_⟩
                clear hS
                have hS := hS4
                have HG4 := Lib.hid (HBD.out.below hb4 hgl3)
                have HE4 := Lib.hid (HBE3.out.drew.trans (hb4.mono (Nat.le_of_lt hgl3)))
                clear hb4 HTKV hS4
                go_simp
                refine wpS_take HR (i := 8) (v := .tuple #[.agg #[.int .i64 v.kind, .int .i64 v.num, .string v.text], .int .i64 q2, .int .i64 0]) rfl (by decide +kernel) (by decide +kernel) (by decide +kernel) (fun _ _ _ h => h) (by rfl) hS (fun W hW => by go_simp) ?_
                go_simp
                refine wpS_take HR (i := 9) (v := .agg #[.int .i64 v.kind, .int .i64 v.num, .string v.text]) rfl (by decide +kernel) (by decide +kernel) (by decide +kernel) (fun _ _ _ h => h) (by rfl) hS (fun W hW => by go_simp) ?_
                go_simp
                refine wpS_take HR (i := 10) (v := .int .i64 q2) rfl (by decide +kernel) (by decide +kernel) (by decide +kernel) (fun _ _ _ h => h) (by rfl) hS (fun W hW => by go_simp) ?_
                go_simp
                refine wpS_take HR (i := 11) (v := .int .i64 0) rfl (by decide +kernel) (by decide +kernel) (by decide +kernel) (fun _ _ _ h => h) (by rfl) hS (fun W hW => by go_simp) ?_
                go_simp
                refine wpS_take HR (i := 12) (v := .pointer (some ⟨g, j * 3, none⟩)) rfl (by decide +kernel) (by decide +kernel) (by decide +kernel) (fun _ _ _ h => h) (by rfl) hS (fun W hW => by first | (go_simp; done) | (go_simp; intro hx; exact absurd hx (by omega)) | (go_simp; rw [if_pos ⟨by omega, by omega⟩]; done)) ?_
                go_simp
                refine wpS_step1 HR (i := 13) (by decide +kernel) ?_
                refine stepS_list HR rfl rfl ?_
                intro K hK
                refine st_mid rfl 71 (.tmp 61) (.tmp 58) rfl 3 szVa g (j * 3) 71 _ [Value.int .i64 v.kind, Value.int .i64 v.num, Value.string v.text] rfl rfl HG4.out rfl H3.out (one_v _ _ _) ?_
                intro w5 hb5 hs5
                have hS5 : World.cell? w5 ⟨G, k, none⟩ = some (.slice (some ⟨g, 0, none⟩) l.length l.length) := by unfold World.cell? at hS ⊢; rw [hs5.block G (by omega)]; exact hS
                refine wpList_nil (hK _ _ hS5 ?_)
                clear hK K hS
                have hS := hS5
                have HB5 := Lib.hid hb5
                have HE5 := Lib.hid (hs5.below HE4.out (Nat.le_refl _))
                clear hb5 hs5 hS5
                go_simp
                refine wpS_take HR (i := 14) (v := .int .i64 q2) rfl (by decide +kernel) (by decide +kernel) (by decide +kernel) (fun _ _ _ h => h) (by rfl) hS (fun W hW => by go_simp) ?_
                go_simp
                refine wpS_take HR (i := 15) (v := .int .i64 0) rfl (by decide +kernel) (by decide +kernel) (by decide +kernel) (fun _ _ _ h => h) (by rfl) hS (fun W hW => by go_simp) ?_
                go_simp
                refine wpS_done HR (by decide +kernel) ?_
                go_wp2
                go_roundw
                case rel => exact ⟨j + 1, HJ.out, by go_num, r ++ [v], q2, HSTEP.out, rfl, by rw [← HSET.out]; exact HB5.out, HE5.out⟩
                case measure => have := HJ.out; simp [intOf]; omega
            · have hjq : j = l.length := by omega
              have hfit := fits1_any A (some ⟨g, 0, none⟩) cap l.length l r wr (HL.out.keep (HE2.out.trans (HBE3.out.mono hWg))) (vls_blk (by have := HBK3.out; rw [hjq, Nat.sub_self, List.replicate_zero, List.append_nil] at this; exact this)) hn (by have := HFV.out.1; omega)
              have hrl := HFV.out.1
              have htvq := HTV.out
              have hbkq := HBK3.out
              rw [hjq] at hrl htvq
              rw [hjq, Nat.sub_self, List.replicate_zero, List.append_nil] at hbkq
              rw [hrl] at hfit
              have hG3 := HB2.out.below HBE3.out hGg
              have hsl := HSL.out
              have hcell : wr.cell? ⟨G, k, none⟩ = some (.slice (some ⟨g, 0, none⟩) l.length l.length) := (hG3.at_ k).trans (by rw [List.getElem?_append_left (by simp; omega), List.getElem?_append_right (by omega), hsl, Nat.sub_self]; rfl)
              have hgl3 : g < wr.heap.size := lt_of_block HBK3.out
              have HG3 := Lib.hid hG3
              have HBKQ := Lib.hid hbkq
              cases hff : fitsL l r with
              | false =>
                have hno : takeRw l b at_ = none := by
                  rw [HTS.out, takeRs_none (k := k + 1) (by simp only [takeRs]; rw [HTK.out]; simp only [htvq, hff]; simp) n hlt]
                have HNO := Lib.hid (fun W' (h : Below W.heap.size W W') => tookrw_no hno HE.out h)
                rw [hff] at hfit
                have HF := Lib.hid hfit
                clear hfit hff hno hrl htvq hbkq hG3 hsl
                subst hjq
                go_wp2_with (first | (go_at_call 32; refine HF.out.mono ?_; rintro e w4 ⟨rfl, hb⟩; have HE4 := Lib.hid (HBE3.out.trans (hb.mono (by omega))); clear hb HF))
                refine bodyPost_ret (v := .tuple #[.slice none 0 0, .int .i64 0, .int .i64 52]) ?_ rfl (HNO.out _ (HE2.out.trans (HE4.out.mono hWg)))
                rw [results_tmp3 rfl]
                rfl
              | true =>
                have hstepr : takeRs l b at2 (k + 1) = some (rs ++ [r], q) := by simp only [takeRs]; rw [HTK.out]; simp only [htvq, hff]; simp
                rw [hff] at hfit
                have HF := Lib.hid hfit
                have HSTEPR := Lib.hid hstepr
                clear hfit hff hstepr hrl htvq hbkq hG3 hsl
                subst hjq
                go_wp2_with (first | (go_at_call 32; refine HF.out.mono ?_; rintro e w4 ⟨rfl, hb⟩; have HE4 := Lib.hid (HBE3.out.trans (hb.mono (by omega))); have HG4 := Lib.hid (HG3.out.below hb (by omega)); have HQ4 := Lib.hid (HBKQ.out.below hb hgl3); clear hb HF))
                go_roundw
                case rel =>
                  refine ⟨k + 1, HK.out, by go_num, rs ++ [r], q, sl ++ [.slice (some ⟨g, 0, none⟩) l.length l.length], HSTEPR.out, rfl, by have := HSL.out; simp; omega, HG4.out, fun i hi => ?_, HE2.out.trans (HE4.out.mono hWg)⟩
                  have hsl := HSL.out
                  have hrl := HFR.out.1
                  by_cases hi2 : i < rs.length
                  · obtain ⟨g', e1, e2, e3, e4⟩ := HR2.out i hi2
                    refine ⟨g', by rw [List.getElem?_append_left (by omega)]; exact e1, e2, ?_⟩
                    rw [List.getElem_append_left hi2]
                    exact e4.below HE4.out e3
                  · obtain rfl : i = rs.length := by simp at hi; omega
                    refine ⟨g, by rw [List.getElem?_append_right (by omega), show rs.length - sl.length = 0 by omega]; rfl, hGg, ?_⟩
                    rw [List.getElem_concat_length rfl]
                    exact HQ4.out
                case measure => have := HK.out; simp [intOf]; omega
        · obtain rfl : k = n := by omega
          have hfin : takeRw l b at_ = some (rs, p) := by rw [HTS.out, HTK.out]
          have hrw : Rws wr (some ⟨G, 0, none⟩) rs := fun i hi => by
            obtain ⟨g, e, hgG, hbg⟩ := HROWS.out i hi
            have hfit : rs[i].length = l.length ∧ rs[i].length ≤ 16 := by
              have hff := (fitsL_at (takeRs_fits HTK.out rs[i] (List.getElem_mem hi))).1
              exact ⟨hff, by rw [hff]; exact HNL.out.2⟩
            refine ⟨G, 0, some ⟨g, 0, none⟩, l.length, rfl, ?_, vls_blk hbg, by omega⟩
            rw [Nat.zero_add, HBLK.out.at_, List.getElem?_append_left (by have := HSL.out; have := HFR.out.1; omega), e, hfit.1]
          have HYES : Hid (TookRw W l b at_ (.returned (.tuple #[.slice (some ⟨G, 0, none⟩) k k, .int .i64 p, .int .i64 0])) wr) := tookrw_yes hfin HFR.out.1 hrw (by simp) (Nat.le_refl _) HBEL.out
          clear hfin hrw hsl
          go_wp2
          refine bodyPost_ret (v := .tuple #[.slice (some ⟨G, 0, none⟩) k k, .int .i64 p, .int .i64 0]) ?_ rfl HYES.out
          rw [results_tmp3 rfl]
          rfl
end Go.Proofs.YtabnjiepmhblaaaDoor
