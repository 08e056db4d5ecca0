/- The program's LayRows once more: what it lays lies in a row of the call's own. -/
import Derived.Test.YtabnjiepmhblaaaDoorJ32
namespace Go.Proofs.YtabnjiepmhblaaaDoor
open Go.RowKit Go.Shelf Go.Maps
set_option linter.unusedVariables false

def LayO (W : World) (D : List UInt8) (ec : Int) (e : Ending) (W' : World) : Prop := ∃ A c, e = .returned (.tuple #[.slice A D.length c, .int .i64 ec]) ∧ (ec = 0 → Own W' W.heap.size (.slice A D.length c) D) ∧ (ec ≠ 0 → A = none ∧ c = 0 ∧ D = []) ∧ Below W.heap.size W W'
theorem layo_no {W W' : World} {D : List UInt8} {ec : Int} (hD : D = []) (he : ec ≠ 0) (hb : Below W.heap.size W W') : LayO W D ec (.returned (.tuple #[.slice none 0 0, .int .i64 ec])) W' := by
  subst hD
  exact ⟨none, 0, rfl, fun h => absurd h he, fun _ => ⟨rfl, rfl, rfl⟩, hb⟩
set_option maxRecDepth 100000 in
set_option maxHeartbeats 8000000 in
theorem layrows_own (B A C : Option Addr) (bcap cap ccap : Nat) (b : List UInt8) (l : List Col) (rs : List (List Vl)) (W : World) (hy : Byt W B b) (hB : B = none → bcap = 0) (hbl : b.length ≤ 140737488351232) (hl : Cols W A l) (hn : l.length ≤ 4000000000000000000) (hr : Rws W C rs) (hm : rs.length ≤ 4000000000000000000) :
    Calls Tryd.prog 14 #[.slice B b.length bcap, .slice A l.length cap, .slice C rs.length ccap] W (LayO W (rowsD b l rs) (rowsE l rs)) := by
  have hri := right_any A cap l W hl hn
  cases hrr : rightC l with
  | false =>
    rw [hrr] at hri
    have hE : rowsE l rs = 50 := by unfold rowsE; rw [hrr]; rfl
    have hD : rowsD b l rs = [] := by unfold rowsD; rw [hrr]; rw [if_neg (by simp)]
    rw [hE]
    have HNO := Lib.hid (fun W' (h : Below W.heap.size W W') => layo_no (ec := 50) hD (by decide) h)
    have HR := Lib.hid hri
    clear hri hl hr hy hE hD hrr
    generalize rowsD b l rs = D at *
    generalize l.length = n at *
    generalize rs.length = m at *
    go_enter Tryd.func14, Tryd.ntmps14
    go_wp2_with (first | (go_at_call 12; refine HR.out.mono ?_; rintro e w1 ⟨rfl, hb⟩; have B1 := Lib.hid hb; clear hb HR))
    go_ret2
    exact HNO.out _ B1.out
  | true =>
  rw [hrr] at hri
  have hlen : 1 ≤ l.length ∧ l.length ≤ 16 := by
    apply Classical.byContradiction
    intro h
    rw [rightC_len h] at hrr
    cases hrr
  by_cases hm1 : rs.length ≤ 1024
  · have hcv : IntKind.u64.wrap (rs.length : Int) = (rs.length : Int) := by rw [IntKind.wrap_u64]; omega
    have hgt : ¬ (1024 : Int) < (rs.length : Int) := by omega
    have HR := Lib.hid hri
    have HNUM := Lib.hid (fun w1 (h : Below W.heap.size W w1) => number_any B bcap rs.length b w1 (hy.keep h) hB (by omega) (by omega))
    have HL := Lib.hid hl
    have HV := Lib.hid hr
    have HRR := Lib.hid hrr
    have HNL := Lib.hid (num_len rs.length)
    obtain ⟨DD, hDD⟩ : ∃ DD : Nat → List UInt8, DD = fun k => b ++ (num rs.length ++ (rs.take k).flatMap encRow) := ⟨_, rfl⟩
    have hD0 : b ++ num rs.length = DD 0 := by rw [hDD]; simp
    have hDS : ∀ k (h : k < rs.length), DD (k + 1) = DD k ++ encRow rs[k] := fun k h => by rw [hDD]; simp only; rw [rows_take rs k h]; simp
    have hDL : ∀ k, k ≤ rs.length → (∀ j (hj : j < rs.length), j < k → fitsL l rs[j] = true) → (DD k).length ≤ b.length + 10 + 17100000 := fun k hk h => by
      rw [hDD]; simp only
      have := rows_len hlen.2 k hk h
      rw [List.length_append, List.length_append]
      have := HNL.out
      omega
    have hDE : (∀ r ∈ rs, fitsL l r = true) → LayO W (DD rs.length) 0 = LayO W (rowsD b l rs) (rowsE l rs) := fun h => by
      have e1 : rowsD b l rs = DD rs.length := by unfold rowsD; rw [if_pos ⟨hrr, hm1, h⟩, hDD]; simp only [List.take_length]
      have e2 : rowsE l rs = 0 := by unfold rowsE; rw [if_pos hrr, if_pos ⟨hm1, h⟩]
      rw [e1, e2]
    have hBE : ∀ k (h : k < rs.length), fitsL l rs[k] = false → ∀ W', Below W.heap.size W W' → LayO W (rowsD b l rs) (rowsE l rs) (.returned (.tuple #[.slice none 0 0, .int .i64 51])) W' := fun k h hf W' hb => by
      have hno : ¬ ∀ r ∈ rs, fitsL l r = true := fun hall => by have := hall rs[k] (List.getElem_mem h); rw [hf] at this; cases this
      have e1 : rowsD b l rs = [] := by unfold rowsD; rw [if_neg (fun h => hno h.2.2)]
      have e2 : rowsE l rs = 51 := by unfold rowsE; rw [if_pos hrr, if_neg (fun h => hno h.2)]
      rw [e2]; exact layo_no e1 (by decide) hb
    have HD0 := Lib.hid hD0
    have HDS := Lib.hid hDS
    have HDL := Lib.hid hDL
    have HDE := Lib.hid hDE
    have HBE := Lib.hid hBE
    generalize hLP : LayO W (rowsD b l rs) (rowsE l rs) = LP at *
    clear hD0 hDS hDL hDE hBE hDD hri hl hr hy hrr hLP
    obtain ⟨m, hmm⟩ : ∃ m, rs.length = m := ⟨_, rfl⟩
    have HM := Lib.hid hmm
    have HN16 := Lib.hid hlen
    rw [hmm] at hm hm1 hcv hgt HNUM ⊢
    rw [HM.out] at HD0 HDE
    clear hmm
    go_enter Tryd.func14, Tryd.ntmps14
    go_wp2_with (first | (go_at_call 12; refine HR.out.mono ?_; rintro e w1 ⟨rfl, hb⟩; have B1 := Lib.hid hb; clear hb HR) | (go_at_call 25; refine (HNUM.out _ B1.out).mono ?_; rintro e w2 ⟨v, rfl, hown, hbel⟩; have HO2 := Lib.hid (hown.base B1.out.size); have HB2 := Lib.hid (B1.out.trans (hbel.mono B1.out.size)); clear hown hbel HNUM))
    go_loopw [8, 10, 12, 13, 14, 28] (fun x8 x10 x12 x13 x14 x28 wr => ∃ k : Nat, k ≤ m ∧ x28 = .int .i64 k ∧ (∀ j (hj : j < rs.length), j < k → fitsL l rs[j] = true) ∧ Own wr W.heap.size x8 (DD k) ∧ Below W.heap.size W wr) (fun _ _ _ _ _ x _ => m - (intOf x).toNat)
    case atStart => exact ⟨0, by omega, rfl, fun j _ h => by omega, by rw [← HD0.out]; exact HO2.out, HB2.out⟩
    case round =>
      obtain ⟨k, hk, rfl, hall, hown, hbel⟩ := hrel
      have HALL := Lib.hid hall
      have HBEL := Lib.hid hbel
      have HOWN := Lib.hid hown
      clear hall hbel hown HO2 HB2 B1
      by_cases hlt : k < m
      · have h1 : k < rs.length := by rw [HM.out]; exact hlt
        obtain ⟨b1, o1, Ar, cr, rfl, hc0, hvr, hrn⟩ := HV.out k h1
        have hc1 := cell_below HBEL.out hc0
        have HK : Hid (k < m) := hlt
        have hfit := fits1_any A Ar cap cr l rs[k] wr (HL.out.keep HBEL.out) (hvr.keep HBEL.out) (by have := HN16.out; omega) (by omega)
        clear hrn
        have hdk := HDS.out k h1
        have hdl := HDL.out k (by omega) HALL.out
        have HSTEPF : Hid (fitsL l rs[k] = true → ∀ j (hj : j < rs.length), j < k + 1 → fitsL l rs[j] = true) := fun h j hj hjk => by
          by_cases e : j = k
          · subst e; exact h
          · exact HALL.out j hj (by omega)
        cases hff : fitsL l rs[k] with
        | false =>
          rw [hff] at hfit
          have HF := Lib.hid hfit
          have HEND := Lib.hid (HBE.out k h1 hff)
          clear hfit hvr hc0 hdk hdl hff HSTEPF
          generalize rs[k] = r at hc1 HF
          go_wp2_with (first | (go_at_call 32; refine HF.out.mono ?_; rintro e w3 ⟨rfl, hb⟩; have B3 := Lib.hid (HBEL.out.trans (hb.mono HBEL.out.size)); clear hb HF))
          exact HEND.out _ B3.out
        | true =>
          rw [hff] at hfit
          have HSF := Lib.hid (HSTEPF.out hff)
          obtain ⟨hrl, hrv⟩ := fitsL_at hff
          have hq16 : rs[k].length ≤ 16 := by rw [hrl]; exact HN16.out.2
          have hrow := row_len hrv
          obtain ⟨d, hd⟩ : ∃ d, DD k = d := ⟨_, rfl⟩
          have hOW := HOWN.out
          rw [hd] at hdk hdl hOW
          have HF := Lib.hid hfit
          have HDK := Lib.hid hdk
          clear hfit hc0 hdk hff HSTEPF hrl
          unfold encRow at HDK
          generalize rs[k] = r at hc1 HF HDK hvr hrv hrow hq16
          have HVR := Lib.hid hvr
          have HRV := Lib.hid hrv
          have HROW := Lib.hid hrow
          have HDLN := Lib.hid hdl
          have HOW := Lib.hid hOW
          obtain ⟨q, hq⟩ : ∃ q, r.length = q := ⟨_, rfl⟩
          rw [hq] at hc1 HF hq16
          have HQ := Lib.hid hq
          clear hvr hrv hrow hdl hOW hq hd HOWN HALL
          go_wp2_with (first | (go_at_call 32; refine HF.out.mono ?_; rintro e w3 ⟨rfl, hb⟩; have HO3 := Lib.hid (HOW.out.below hb); have B3 := Lib.hid (HBEL.out.trans (hb.mono HBEL.out.size)); clear hb HF HOW))
          go_loopw [8, 12, 13, 14, 38] (fun x8 x12 x13 x14 x38 wr2 => ∃ j : Nat, j ≤ q ∧ x38 = .int .i64 j ∧ Own wr2 W.heap.size x8 (d ++ (r.take j).flatMap encVl) ∧ Below W.heap.size W wr2) (fun _ _ _ _ x _ => q - (intOf x).toNat)
          case atStart => exact ⟨0, by omega, rfl, by rw [List.take_zero, List.flatMap_nil, List.append_nil]; exact HO3.out, B3.out⟩
          case round =>
            obtain ⟨j, hj, rfl, hown2, hbel2⟩ := hrel
            have HBEL2 := Lib.hid hbel2
            by_cases hjl : j < q
            · have j1 : j < r.length := by rw [HQ.out]; exact hjl
              obtain ⟨b3, o3, rfl, hv0⟩ := HVR.out j j1
              obtain ⟨v0, v1, v2⟩ := hv0.keep hbel2 hv0.lt
              have hval : ∀ w, Calls Tryd.prog 33 #[.slice none 0 0, .agg #[.int .i64 r[j].kind, .int .i64 r[j].num, .string r[j].text]] w (V4.MadeL w (encVl r[j])) := fun w => by
                have := V4.lay_any none 0 [] r[j].kind r[j].num r[j].text w (Byt.empty _ _) (fun _ => rfl) (by simp) r[j].lo r[j].hi (HRV.out j j1)
                exact this
              have hst := row_take r j j1
              have hrl2 := HROW.out j (by omega)
              have hel := encVl_len (HRV.out j j1)
              have HJ : Hid (j < q) := hjl
              obtain ⟨dj, hdj⟩ : ∃ dj, d ++ (r.take j).flatMap encVl = dj := ⟨_, rfl⟩
              have hdjl : dj.length ≤ b.length + 10 + 17200000 := by rw [← hdj, List.length_append]; have := HDLN.out; omega
              rw [hdj] at hown2
              obtain ⟨Av, cv, rfl, _, _, _, _⟩ := hown2.form
              have hst2 : d ++ (r.take (j + 1)).flatMap encVl = dj ++ encVl r[j] := by rw [hst, ← hdj, List.append_assoc]
              generalize encVl r[j] = ev at hval hel hst2
              generalize r[j].kind = kd at v0 hval
              generalize r[j].num = nm at v1 hval
              generalize r[j].text = tx at v2 hval
              have HVAL := Lib.hid hval
              have HST := Lib.hid hst2
              have HLEN := Lib.hid (And.intro hdjl hel)
              have HOWN2 := Lib.hid hown2
              clear hval hst hst2 hrl2 hel hdjl hown2 hbel2 hdj hv0 j1
              go_wp2_with (first | (go_at_call 33; refine (HVAL.out _).mono ?_; rintro e w4 ⟨v4, rfl, hown4, hbel4⟩; obtain ⟨A4, c4, rfl, hy4, hn4, _, _⟩ := hown4.form; have HO4 := Lib.hid ((HOWN2.out.alloc _).below hbel4); have HB4 := Lib.hid ((HBEL2.out.alloc HBEL2.out.size _).trans (hbel4.mono (HBEL2.out.alloc HBEL2.out.size _).size)); have HY4 := Lib.hid hy4; have HN4 := Lib.hid hn4; clear hown4 hbel4 hy4 hn4 HVAL) | (at_builtin; refine app_byt W rfl _ _ rfl _ dj rfl HO4.out HB4.out A4 ev.length c4 ev rfl rfl HY4.out HN4.out (by have := HLEN.out; omega) ?_; intro v5 w5 hown5 hbel5 _; have HO5 := Lib.hid hown5; have HB5 := Lib.hid hbel5; clear hown5 hbel5 HO4 HB4 HY4))
              go_roundw
              case rel => exact ⟨j + 1, HJ.out, by go_num, by rw [HST.out]; exact HO5.out, HB5.out⟩
              case measure => have := HJ.out; simp [intOf]; omega
            · obtain rfl : j = q := by omega
              have hfull : d ++ (r.take j).flatMap encVl = DD (k + 1) := by rw [HDK.out, ← HQ.out, List.take_length]
              rw [hfull] at hown2
              have HOWN2 := Lib.hid hown2
              clear hown2 hfull
              go_wp2
              go_roundw
              case rel => exact ⟨k + 1, HK.out, by go_num, HSF.out, HOWN2.out, HBEL2.out⟩
              case measure => have := HK.out; simp [intOf]; omega
      · obtain rfl : k = m := by omega
        have hfin := HDE.out (fun r hr => by obtain ⟨i, hi, rfl⟩ := List.getElem_of_mem hr; exact HALL.out i hi (by rw [← HM.out]; exact hi))
        have hO := HOWN.out
        have HOW := Lib.hid hO
        obtain ⟨Av, cv, e8, hyv, _, _, _⟩ := hO.form
        have HY := Lib.hid hyv
        have HFIN := Lib.hid hfin
        subst e8
        clear hO hyv hfin
        have hend : LP (.returned (.tuple #[.slice Av (DD k).length cv, .int .i64 0])) wr := by rw [← HFIN.out]; exact ⟨Av, cv, rfl, fun _ => HOW.out, fun h => absurd rfl h, HBEL.out⟩
        go_wp2
        exact hend
  · have hgt : (1024 : Int) < (rs.length : Int) := by omega
    have hE : rowsE l rs = 51 := by unfold rowsE; rw [if_pos hrr, if_neg (fun h => hm1 h.1)]
    have hD : rowsD b l rs = [] := by unfold rowsD; rw [if_neg (fun h => hm1 h.2.1)]
    rw [hE]
    have HNO := Lib.hid (fun W' (h : Below W.heap.size W W') => layo_no (ec := 51) hD (by decide) h)
    have HR := Lib.hid hri
    clear hri hl hr hy hE hD hrr hm1
    generalize rowsD b l rs = D at *
    generalize l.length = n at *
    generalize rs.length = m at *
    go_enter Tryd.func14, Tryd.ntmps14
    go_wp2_with (first | (go_at_call 12; refine HR.out.mono ?_; rintro e w1 ⟨rfl, hb⟩; have B1 := Lib.hid hb; clear hb HR))
    go_ret2
    exact HNO.out _ B1.out
end Go.Proofs.YtabnjiepmhblaaaDoor
