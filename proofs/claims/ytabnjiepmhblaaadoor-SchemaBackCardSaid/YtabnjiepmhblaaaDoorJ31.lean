/- Joined: Rows of values in memory, and their bytes: the plain model; the program's LayRows. The program's LayRows. The document's LayRows. SameRow, SameRows: are two rows, two lists of rows, the same. Rows off bytes: the plain model. Laws for rows that are made and filled. The program's TakeRows. Rows that are appended: laws. The document's TakeRows. The walk of SchemaRows. Rows that came in. -/
import Derived.Test.YtabnjiepmhblaaaDoorJ28
import Derived.Test.YtabnjiepmhblaaaDoorJ10
import Derived.Test.YtabnjiepmhblaaaDoorJ12
import Derived.Test.YtabnjiepmhblaaaDoorJ12
import Derived.Test.YtabnjiepmhblaaaDoorJ10
import Derived.Test.YtabnjiepmhblaaaDoorJ9
import Derived.Test.YtabnjiepmhblaaaDoorJ10
import Derived.Test.YtabnjiepmhblaaaDoorJ13
/-! Rows of values in memory, and their bytes: the plain model; the program's LayRows. -/
namespace Go.Proofs.YtabnjiepmhblaaaDoor
open Go.RowKit Go.Shelf Go.Maps
set_option linter.unusedVariables false

/-- The slice at A holds the rows rs: each a slice of values. -/
def Rws (w : World) (A : Option Addr) (rs : List (List Vl)) : Prop := ∀ k (h : k < rs.length), ∃ b o Ar cr, A = some ⟨b, o, none⟩ ∧ w.cell? ⟨b, o + k, none⟩ = some (.slice Ar rs[k].length cr) ∧ Vls w Ar rs[k] ∧ rs[k].length ≤ 140737488351232
theorem Rws.keep {w w' : World} {A : Option Addr} {rs : List (List Vl)} (h : Rws w A rs) (hb : Below w.heap.size w w') : Rws w' A rs := by
  intro k hk
  obtain ⟨b, o, Ar, cr, e, hc, hv, hn⟩ := h k hk
  exact ⟨b, o, Ar, cr, e, cell_below hb hc, hv.keep hb, hn⟩
def encVl (v : Vl) : List UInt8 := V4.encV v.kind v.num v.text.data.toList
def encRow (r : List Vl) : List UInt8 := r.flatMap encVl
theorem encVl_len {v : Vl} (h : vlR v = true) : (encVl v).length ≤ 1040 := by
  unfold vlR at h
  have h3 : v.kind = 3 → v.text.data.toList.length ≤ 1024 := fun e => by
    unfold rightB at h
    rw [e] at h
    simp only [show ¬ (3 : Int) = 0 by decide, show ¬ (3 : Int) = 1 by decide, show ¬ (3 : Int) = 2 by decide, if_false, if_true, Bool.and_eq_true, decide_eq_true_iff] at h
    rw [ByteArray.toList_eq] at h
    exact h.2
  unfold encVl V4.encV
  rw [List.length_cons]
  by_cases h1 : v.kind = 1
  · rw [if_pos h1]; have := num_len (zig v.num); omega
  · rw [if_neg h1]
    by_cases h2 : v.kind = 2
    · rw [if_pos h2]; simp
    · rw [if_neg h2]
      by_cases h4 : v.kind = 3
      · rw [if_pos h4, List.length_append]; have := num_len v.text.data.toList.length; have := h3 h4; omega
      · rw [if_neg h4]; simp
theorem fitsL_at {l : List Col} {r : List Vl} (h : fitsL l r = true) : r.length = l.length ∧ ∀ j (hj : j < r.length), vlR r[j] = true := by
  unfold fitsL at h
  rw [Bool.and_eq_true, decide_eq_true_iff, List.all_eq_true] at h
  refine ⟨h.1, fun j hj => ?_⟩
  have := h.2 (l[j]'(by omega), r[j]) (by rw [← List.getElem_zip (i := j) (h := by simp; omega)]; exact List.getElem_mem _)
  unfold vfit at this
  rw [Bool.and_eq_true] at this
  exact this.1
theorem row_take (r : List Vl) (k : Nat) (h : k < r.length) : (r.take (k + 1)).flatMap encVl = (r.take k).flatMap encVl ++ encVl r[k] := by
  rw [List.take_add_one, List.flatMap_append, List.getElem?_eq_getElem h]
  simp
theorem rows_take (rs : List (List Vl)) (k : Nat) (h : k < rs.length) : (rs.take (k + 1)).flatMap encRow = (rs.take k).flatMap encRow ++ encRow rs[k] := by
  rw [List.take_add_one, List.flatMap_append, List.getElem?_eq_getElem h]
  simp
theorem row_len {r : List Vl} (h : ∀ j (hj : j < r.length), vlR r[j] = true) : ∀ k, k ≤ r.length → ((r.take k).flatMap encVl).length ≤ k * 1040
  | 0, _ => by simp
  | k + 1, hk => by
    have h1 := row_len h k (by omega)
    rw [row_take r k (by omega), List.length_append]
    have := encVl_len (h k (by omega))
    omega
theorem rows_len {l : List Col} {rs : List (List Vl)} (hl : l.length ≤ 16) : ∀ k, k ≤ rs.length → (∀ j (hj : j < rs.length), j < k → fitsL l rs[j] = true) → ((rs.take k).flatMap encRow).length ≤ k * 16640
  | 0, _, _ => by simp
  | k + 1, hk, h => by
    have h1 := rows_len hl k (by omega) (fun j hj hjk => h j hj (by omega))
    rw [rows_take rs k (by omega), List.length_append]
    have hf := fitsL_at (h k (by omega) (by omega))
    have h2 := row_len hf.2 rs[k].length (Nat.le_refl _)
    rw [List.take_of_length_le (Nat.le_refl _)] at h2
    unfold encRow at *
    omega
def rowsD (b : List UInt8) (l : List Col) (rs : List (List Vl)) : List UInt8 := if rightC l = true ∧ rs.length ≤ 1024 ∧ ∀ r ∈ rs, fitsL l r = true then b ++ (num rs.length ++ rs.flatMap encRow) else []
def rowsE (l : List Col) (rs : List (List Vl)) : Int := if rightC l = true then (if rs.length ≤ 1024 ∧ ∀ r ∈ rs, fitsL l r = true then 0 else 51) else 50
theorem layu_no {W0 W W' : World} {D : List UInt8} {ec : Int} (hD : D = []) (h0 : Below W0.heap.size W0 W) (hb : Below W.heap.size W W') : LayU W0 W D ec (.returned (.tuple #[.slice none 0 0, .int .i64 ec])) W' := by
  subst hD
  exact ⟨none, 0, rfl, Byt.empty _ _, h0.trans (hb.mono h0.size), hb⟩
end Go.Proofs.YtabnjiepmhblaaaDoor

/-! The program's LayRows. -/
namespace Go.Proofs.YtabnjiepmhblaaaDoor
open Go.RowKit Go.Shelf Go.Maps
set_option linter.unusedVariables false

set_option maxRecDepth 100000 in
set_option maxHeartbeats 8000000 in
theorem layrows_any (B A C : Option Addr) (bcap cap ccap : Nat) (b : List UInt8) (l : List Col) (rs : List (List Vl)) (W : World) (hy : Byt W B b) (hB : B = none → bcap = 0) (hbl : b.length ≤ 140737488351232) (hl : Cols W A l) (hn : l.length ≤ 4000000000000000000) (hr : Rws W C rs) (hm : rs.length ≤ 4000000000000000000) :
    Calls Tryd.prog 14 #[.slice B b.length bcap, .slice A l.length cap, .slice C rs.length ccap] W (LayU W W (rowsD b l rs) (rowsE l rs)) := by
  have hri := right_any A cap l W hl hn
  cases hrr : rightC l with
  | false =>
    rw [hrr] at hri
    have hE : rowsE l rs = 50 := by unfold rowsE; rw [hrr]; rfl
    have hD : rowsD b l rs = [] := by unfold rowsD; rw [hrr]; rw [if_neg (by simp)]
    rw [hE]
    have HNO := Lib.hid (fun W' (h : Below W.heap.size W W') => layu_no (ec := 50) hD (Below.refl _ W) h)
    have HR := Lib.hid hri
    clear hri hl hr hy hE hD hrr
    generalize rowsD b l rs = D at *
    generalize l.length = n at *
    generalize rs.length = m at *
    go_enter Tryd.func14, Tryd.ntmps14
    go_wp2_with (first | (go_at_call 12; refine HR.out.mono ?_; rintro e w1 ⟨rfl, hb⟩; have B1 := Lib.hid hb; clear hb HR))
    go_ret2
    exact HNO.out _ B1.out
  | true =>
  rw [hrr] at hri
  have hlen : 1 ≤ l.length ∧ l.length ≤ 16 := by
    apply Classical.byContradiction
    intro h
    rw [rightC_len h] at hrr
    cases hrr
  by_cases hm1 : rs.length ≤ 1024
  · have hcv : IntKind.u64.wrap (rs.length : Int) = (rs.length : Int) := by rw [IntKind.wrap_u64]; omega
    have hgt : ¬ (1024 : Int) < (rs.length : Int) := by omega
    have HR := Lib.hid hri
    have HNUM := Lib.hid (fun w1 (h : Below W.heap.size W w1) => number_any B bcap rs.length b w1 (hy.keep h) hB (by omega) (by omega))
    have HL := Lib.hid hl
    have HV := Lib.hid hr
    have HRR := Lib.hid hrr
    have HNL := Lib.hid (num_len rs.length)
    obtain ⟨DD, hDD⟩ : ∃ DD : Nat → List UInt8, DD = fun k => b ++ (num rs.length ++ (rs.take k).flatMap encRow) := ⟨_, rfl⟩
    have hD0 : b ++ num rs.length = DD 0 := by rw [hDD]; simp
    have hDS : ∀ k (h : k < rs.length), DD (k + 1) = DD k ++ encRow rs[k] := fun k h => by rw [hDD]; simp only; rw [rows_take rs k h]; simp
    have hDL : ∀ k, k ≤ rs.length → (∀ j (hj : j < rs.length), j < k → fitsL l rs[j] = true) → (DD k).length ≤ b.length + 10 + 17100000 := fun k hk h => by
      rw [hDD]; simp only
      have := rows_len hlen.2 k hk h
      rw [List.length_append, List.length_append]
      have := HNL.out
      omega
    have hDE : (∀ r ∈ rs, fitsL l r = true) → LayU W W (DD rs.length) 0 = LayU W W (rowsD b l rs) (rowsE l rs) := fun h => by
      have e1 : rowsD b l rs = DD rs.length := by unfold rowsD; rw [if_pos ⟨hrr, hm1, h⟩, hDD]; simp only [List.take_length]
      have e2 : rowsE l rs = 0 := by unfold rowsE; rw [if_pos hrr, if_pos ⟨hm1, h⟩]
      rw [e1, e2]
    have hBE : ∀ k (h : k < rs.length), fitsL l rs[k] = false → ∀ W', Below W.heap.size W W' → LayU W W (rowsD b l rs) (rowsE l rs) (.returned (.tuple #[.slice none 0 0, .int .i64 51])) W' := fun k h hf W' hb => by
      have hno : ¬ ∀ r ∈ rs, fitsL l r = true := fun hall => by have := hall rs[k] (List.getElem_mem h); rw [hf] at this; cases this
      have e1 : rowsD b l rs = [] := by unfold rowsD; rw [if_neg (fun h => hno h.2.2)]
      have e2 : rowsE l rs = 51 := by unfold rowsE; rw [if_pos hrr, if_neg (fun h => hno h.2)]
      rw [e2]; exact layu_no e1 (Below.refl _ W) hb
    have HD0 := Lib.hid hD0
    have HDS := Lib.hid hDS
    have HDL := Lib.hid hDL
    have HDE := Lib.hid hDE
    have HBE := Lib.hid hBE
    generalize hLP : LayU W W (rowsD b l rs) (rowsE l rs) = LP at *
    clear hD0 hDS hDL hDE hBE hDD hri hl hr hy hrr hLP
    obtain ⟨m, hmm⟩ : ∃ m, rs.length = m := ⟨_, rfl⟩
    have HM := Lib.hid hmm
    have HN16 := Lib.hid hlen
    rw [hmm] at hm hm1 hcv hgt HNUM ⊢
    rw [HM.out] at HD0 HDE
    clear hmm
    go_enter Tryd.func14, Tryd.ntmps14
    go_wp2_with (first | (go_at_call 12; refine HR.out.mono ?_; rintro e w1 ⟨rfl, hb⟩; have B1 := Lib.hid hb; clear hb HR) | (go_at_call 25; refine (HNUM.out _ B1.out).mono ?_; rintro e w2 ⟨v, rfl, hown, hbel⟩; have HO2 := Lib.hid (hown.base B1.out.size); have HB2 := Lib.hid (B1.out.trans (hbel.mono B1.out.size)); clear hown hbel HNUM))
    go_loopw [8, 10, 12, 13, 14, 28] (fun x8 x10 x12 x13 x14 x28 wr => ∃ k : Nat, k ≤ m ∧ x28 = .int .i64 k ∧ (∀ j (hj : j < rs.length), j < k → fitsL l rs[j] = true) ∧ Own wr W.heap.size x8 (DD k) ∧ Below W.heap.size W wr) (fun _ _ _ _ _ x _ => m - (intOf x).toNat)
    case atStart => exact ⟨0, by omega, rfl, fun j _ h => by omega, by rw [← HD0.out]; exact HO2.out, HB2.out⟩
    case round =>
      obtain ⟨k, hk, rfl, hall, hown, hbel⟩ := hrel
      have HALL := Lib.hid hall
      have HBEL := Lib.hid hbel
      have HOWN := Lib.hid hown
      clear hall hbel hown HO2 HB2 B1
      by_cases hlt : k < m
      · have h1 : k < rs.length := by rw [HM.out]; exact hlt
        obtain ⟨b1, o1, Ar, cr, rfl, hc0, hvr, hrn⟩ := HV.out k h1
        have hc1 := cell_below HBEL.out hc0
        have HK : Hid (k < m) := hlt
        have hfit := fits1_any A Ar cap cr l rs[k] wr (HL.out.keep HBEL.out) (hvr.keep HBEL.out) (by have := HN16.out; omega) (by omega)
        clear hrn
        have hdk := HDS.out k h1
        have hdl := HDL.out k (by omega) HALL.out
        have HSTEPF : Hid (fitsL l rs[k] = true → ∀ j (hj : j < rs.length), j < k + 1 → fitsL l rs[j] = true) := fun h j hj hjk => by
          by_cases e : j = k
          · subst e; exact h
          · exact HALL.out j hj (by omega)
        cases hff : fitsL l rs[k] with
        | false =>
          rw [hff] at hfit
          have HF := Lib.hid hfit
          have HEND := Lib.hid (HBE.out k h1 hff)
          clear hfit hvr hc0 hdk hdl hff HSTEPF
          generalize rs[k] = r at hc1 HF
          go_wp2_with (first | (go_at_call 32; refine HF.out.mono ?_; rintro e w3 ⟨rfl, hb⟩; have B3 := Lib.hid (HBEL.out.trans (hb.mono HBEL.out.size)); clear hb HF))
          exact HEND.out _ B3.out
        | true =>
          rw [hff] at hfit
          have HSF := Lib.hid (HSTEPF.out hff)
          obtain ⟨hrl, hrv⟩ := fitsL_at hff
          have hq16 : rs[k].length ≤ 16 := by rw [hrl]; exact HN16.out.2
          have hrow := row_len hrv
          obtain ⟨d, hd⟩ : ∃ d, DD k = d := ⟨_, rfl⟩
          have hOW := HOWN.out
          rw [hd] at hdk hdl hOW
          have HF := Lib.hid hfit
          have HDK := Lib.hid hdk
          clear hfit hc0 hdk hff HSTEPF hrl
          unfold encRow at HDK
          generalize rs[k] = r at hc1 HF HDK hvr hrv hrow hq16
          have HVR := Lib.hid hvr
          have HRV := Lib.hid hrv
          have HROW := Lib.hid hrow
          have HDLN := Lib.hid hdl
          have HOW := Lib.hid hOW
          obtain ⟨q, hq⟩ : ∃ q, r.length = q := ⟨_, rfl⟩
          rw [hq] at hc1 HF hq16
          have HQ := Lib.hid hq
          clear hvr hrv hrow hdl hOW hq hd HOWN HALL
          go_wp2_with (first | (go_at_call 32; refine HF.out.mono ?_; rintro e w3 ⟨rfl, hb⟩; have HO3 := Lib.hid (HOW.out.below hb); have B3 := Lib.hid (HBEL.out.trans (hb.mono HBEL.out.size)); clear hb HF HOW))
          go_loopw [8, 12, 13, 14, 38] (fun x8 x12 x13 x14 x38 wr2 => ∃ j : Nat, j ≤ q ∧ x38 = .int .i64 j ∧ Own wr2 W.heap.size x8 (d ++ (r.take j).flatMap encVl) ∧ Below W.heap.size W wr2) (fun _ _ _ _ x _ => q - (intOf x).toNat)
          case atStart => exact ⟨0, by omega, rfl, by rw [List.take_zero, List.flatMap_nil, List.append_nil]; exact HO3.out, B3.out⟩
          case round =>
            obtain ⟨j, hj, rfl, hown2, hbel2⟩ := hrel
            have HBEL2 := Lib.hid hbel2
            by_cases hjl : j < q
            · have j1 : j < r.length := by rw [HQ.out]; exact hjl
              obtain ⟨b3, o3, rfl, hv0⟩ := HVR.out j j1
              obtain ⟨v0, v1, v2⟩ := hv0.keep hbel2 hv0.lt
              have hval : ∀ w, Calls Tryd.prog 33 #[.slice none 0 0, .agg #[.int .i64 r[j].kind, .int .i64 r[j].num, .string r[j].text]] w (V4.MadeL w (encVl r[j])) := fun w => by
                have := V4.lay_any none 0 [] r[j].kind r[j].num r[j].text w (Byt.empty _ _) (fun _ => rfl) (by simp) r[j].lo r[j].hi (HRV.out j j1)
                exact this
              have hst := row_take r j j1
              have hrl2 := HROW.out j (by omega)
              have hel := encVl_len (HRV.out j j1)
              have HJ : Hid (j < q) := hjl
              obtain ⟨dj, hdj⟩ : ∃ dj, d ++ (r.take j).flatMap encVl = dj := ⟨_, rfl⟩
              have hdjl : dj.length ≤ b.length + 10 + 17200000 := by rw [← hdj, List.length_append]; have := HDLN.out; omega
              rw [hdj] at hown2
              obtain ⟨Av, cv, rfl, _, _, _, _⟩ := hown2.form
              have hst2 : d ++ (r.take (j + 1)).flatMap encVl = dj ++ encVl r[j] := by rw [hst, ← hdj, List.append_assoc]
              generalize encVl r[j] = ev at hval hel hst2
              generalize r[j].kind = kd at v0 hval
              generalize r[j].num = nm at v1 hval
              generalize r[j].text = tx at v2 hval
              have HVAL := Lib.hid hval
              have HST := Lib.hid hst2
              have HLEN := Lib.hid (And.intro hdjl hel)
              have HOWN2 := Lib.hid hown2
              clear hval hst hst2 hrl2 hel hdjl hown2 hbel2 hdj hv0 j1
              go_wp2_with (first | (go_at_call 33; refine (HVAL.out _).mono ?_; rintro e w4 ⟨v4, rfl, hown4, hbel4⟩; obtain ⟨A4, c4, rfl, hy4, hn4, _, _⟩ := hown4.form; have HO4 := Lib.hid ((HOWN2.out.alloc _).below hbel4); have HB4 := Lib.hid ((HBEL2.out.alloc HBEL2.out.size _).trans (hbel4.mono (HBEL2.out.alloc HBEL2.out.size _).size)); have HY4 := Lib.hid hy4; have HN4 := Lib.hid hn4; clear hown4 hbel4 hy4 hn4 HVAL) | (at_builtin; refine app_byt W rfl _ _ rfl _ dj rfl HO4.out HB4.out A4 ev.length c4 ev rfl rfl HY4.out HN4.out (by have := HLEN.out; omega) ?_; intro v5 w5 hown5 hbel5 _; have HO5 := Lib.hid hown5; have HB5 := Lib.hid hbel5; clear hown5 hbel5 HO4 HB4 HY4))
              go_roundw
              case rel => exact ⟨j + 1, HJ.out, by go_num, by rw [HST.out]; exact HO5.out, HB5.out⟩
              case measure => have := HJ.out; simp [intOf]; omega
            · obtain rfl : j = q := by omega
              have hfull : d ++ (r.take j).flatMap encVl = DD (k + 1) := by rw [HDK.out, ← HQ.out, List.take_length]
              rw [hfull] at hown2
              have HOWN2 := Lib.hid hown2
              clear hown2 hfull
              go_wp2
              go_roundw
              case rel => exact ⟨k + 1, HK.out, by go_num, HSF.out, HOWN2.out, HBEL2.out⟩
              case measure => have := HK.out; simp [intOf]; omega
      · obtain rfl : k = m := by omega
        have hfin := HDE.out (fun r hr => by obtain ⟨i, hi, rfl⟩ := List.getElem_of_mem hr; exact HALL.out i hi (by rw [← HM.out]; exact hi))
        have hO := HOWN.out
        obtain ⟨Av, cv, e8, hyv, _, _, _⟩ := hO.form
        have HY := Lib.hid hyv
        have HFIN := Lib.hid hfin
        subst e8
        clear hO hyv hfin
        have hend : LP (.returned (.tuple #[.slice Av (DD k).length cv, .int .i64 0])) wr := by rw [← HFIN.out]; exact ⟨Av, cv, rfl, HY.out, HBEL.out, HBEL.out⟩
        go_wp2
        exact hend
  · have hgt : (1024 : Int) < (rs.length : Int) := by omega
    have hE : rowsE l rs = 51 := by unfold rowsE; rw [if_pos hrr, if_neg (fun h => hm1 h.1)]
    have hD : rowsD b l rs = [] := by unfold rowsD; rw [if_neg (fun h => hm1 h.2.1)]
    rw [hE]
    have HNO := Lib.hid (fun W' (h : Below W.heap.size W W') => layu_no (ec := 51) hD (Below.refl _ W) h)
    have HR := Lib.hid hri
    clear hri hl hr hy hE hD hrr hm1
    generalize rowsD b l rs = D at *
    generalize l.length = n at *
    generalize rs.length = m at *
    go_enter Tryd.func14, Tryd.ntmps14
    go_wp2_with (first | (go_at_call 12; refine HR.out.mono ?_; rintro e w1 ⟨rfl, hb⟩; have B1 := Lib.hid hb; clear hb HR))
    go_ret2
    exact HNO.out _ B1.out
end Go.Proofs.YtabnjiepmhblaaaDoor

/-! The document's LayRows. -/
namespace Go.Proofs.YtabnjiepmhblaaaDoor
open Go.RowKit Go.Shelf Go.Maps
set_option linter.unusedVariables false

end Go.Proofs.YtabnjiepmhblaaaDoor

/-! SameRow, SameRows: are two rows, two lists of rows, the same. -/
namespace Go.Proofs.YtabnjiepmhblaaaDoor
open Go.RowKit Go.Shelf Go.Maps
set_option linter.unusedVariables false

deriving instance DecidableEq for Vl
theorem Vl.same {c d : Vl} (h1 : c.kind = d.kind) (h2 : c.num = d.num) (h3 : c.text = d.text) : c = d := by
  cases c; cases d; simp_all
set_option maxRecDepth 100000 in
set_option maxHeartbeats 4000000 in
theorem samerow_any (A B : Option Addr) (cap cap2 : Nat) (l m : List Vl) (W : World) (hl : Vls W A l) (hm : Vls W B m) (hn : l.length ≤ 4000000000000000000) (hn2 : m.length ≤ 4000000000000000000) :
    Calls Tryd.prog 35 #[.slice A l.length cap, .slice B m.length cap2] W fun e W' => e = .returned (.bool (decide (l = m))) ∧ Below W.heap.size W W' := by
  by_cases hlen : l.length = m.length
  · obtain ⟨z, hz⟩ : ∃ z, decide (l = m) = z := ⟨_, rfl⟩
    rw [hz]
    have HZ := Lib.hid hz
    have HL := Lib.hid hl
    have HM := Lib.hid hm
    have HLEN := Lib.hid hlen
    rw [← hlen]
    clear hl hm hz hn2
    obtain ⟨n, hn3⟩ : ∃ n, l.length = n := ⟨_, rfl⟩
    rw [hn3] at hn ⊢
    have HN := Lib.hid hn3
    clear hn3 hlen
    go_enter Tryd.func35, Tryd.ntmps35
    go_wp2
    go_loopw [5] (fun i wr => ∃ k : Nat, k ≤ n ∧ i = .int .i64 k ∧ (∀ j (a : j < l.length) (b : j < m.length), j < k → l[j] = m[j]) ∧ Below W.heap.size W wr) (fun i _ => n - (intOf i).toNat)
    case atStart => exact ⟨0, by omega, rfl, fun j _ _ h => by omega, Below.refl _ _⟩
    case round =>
      obtain ⟨k, hk, rfl, hall, hbel⟩ := hrel
      have HALL := Lib.hid hall
      have HBEL := Lib.hid hbel
      clear hall hbel
      by_cases hlt : k < n
      · have h1 : k < l.length := by rw [HN.out]; exact hlt
        have h2 : k < m.length := by rw [← HLEN.out, HN.out]; exact hlt
        obtain ⟨b, o, rfl, hcb⟩ := HL.out k h1
        obtain ⟨b2, o2, rfl, hvb⟩ := HM.out k h2
        obtain ⟨c0, c1, c2⟩ := hcb.keep HBEL.out hcb.lt
        obtain ⟨v0, v1, v2⟩ := hvb.keep HBEL.out hvb.lt
        have HK : Hid (k < n) := hlt
        have HBAD : Hid (l[k] ≠ m[k] → z = false) := fun h => by rw [← HZ.out]; exact decide_eq_false (fun e => h (by simp only [e]))
        have HGD : Hid (l[k] = m[k] → ∀ j (a : j < l.length) (b : j < m.length), j < k + 1 → l[j] = m[j]) := fun h j a b hj => by
          by_cases e : j = k
          · subst e; exact h
          · exact HALL.out j a b (by omega)
        clear hcb hvb
        generalize l[k] = c at c0 c1 c2 HBAD HGD
        generalize m[k] = d at v0 v1 v2 HBAD HGD
        clear h1 h2
        have HEQ : Hid (c.kind = d.kind → c.num = d.num → c.text = d.text → c = d) := fun h1 h2 h3 => Vl.same h1 h2 h3
        have HNE : Hid ((c.kind ≠ d.kind ∨ c.num ≠ d.num ∨ c.text ≠ d.text) → c ≠ d) := fun h e => by
          subst e
          rcases h with h | h | h <;> exact h rfl
        generalize c.kind = k1 at c0 HEQ HNE
        generalize d.kind = k2 at v0 HEQ HNE
        generalize c.num = m1 at c1 HEQ HNE
        generalize d.num = m2 at v1 HEQ HNE
        generalize c.text = n1 at c2 HEQ HNE
        generalize d.text = n2 at v2 HEQ HNE
        go_upto_region 6 with (fail)
        by_cases e1 : k1 = k2
        · by_cases e2 : m1 = m2
          · by_cases e3 : n1.toList = n2.toList
            · have q3 : (n1.toList == n2.toList) = true := by rw [beq_iff_eq]; exact e3
              have HX := Lib.hid (HGD.out (HEQ.out e1 e2 (tol_eq e3)))
              subst e1 e2
              clear e3
              clear HBAD HGD HEQ HNE
              go_quiet (fail)
              go_wp2
              go_roundw
              case rel => exact ⟨k + 1, HK.out, by go_num, HX.out, Below.drewN' HBEL.out _⟩
              case measure => have := HK.out; simp [intOf]; omega
            · have q3 : (n1.toList == n2.toList) = false := by rw [beq_eq_false_iff_ne]; exact e3
              have HX : Hid (z = false) := HBAD.out (HNE.out (.inr (.inr (fun e => e3 (by rw [e])))))
              subst e1 e2
              clear HBAD HGD HEQ HNE
              go_quiet (fail)
              go_wp2
              go_ret
              exact ⟨congrArg (fun r => Ending.returned (Value.bool r)) HX.out.symm, Below.drewN' HBEL.out _⟩
          · have q2 : (m1 == m2) = false := by rw [beq_eq_false_iff_ne]; exact e2
            have HX : Hid (z = false) := HBAD.out (HNE.out (.inr (.inl e2)))
            subst e1
            clear HBAD HGD HEQ HNE
            go_quiet (fail)
            go_wp2
            go_ret
            exact ⟨congrArg (fun r => Ending.returned (Value.bool r)) HX.out.symm, Below.drewN' HBEL.out _⟩
        · have q1 : (k1 == k2) = false := by rw [beq_eq_false_iff_ne]; exact e1
          have HX : Hid (z = false) := HBAD.out (HNE.out (.inl e1))
          clear HBAD HGD HEQ HNE
          go_quiet (fail)
          go_wp2
          go_ret
          exact ⟨congrArg (fun r => Ending.returned (Value.bool r)) HX.out.symm, Below.drewN' HBEL.out _⟩
      · obtain rfl : k = n := by omega
        have HX : Hid (z = true) := by show z = true; rw [← HZ.out]; exact decide_eq_true (List.ext_getElem HLEN.out fun i h1 h2 => HALL.out i h1 h2 (by rw [← HN.out]; exact h1))
        go_wp2
        go_ret
        exact ⟨congrArg (fun r => Ending.returned (Value.bool r)) HX.out.symm, HBEL.out⟩
  · rw [decide_eq_false (fun e => hlen (by rw [e]))]
    have hne : ((l.length : Int) == (m.length : Int)) = false := by rw [beq_eq_false_iff_ne]; omega
    have hne2 : ¬ (l.length : Int) = m.length := by omega
    clear hl hm
    generalize l.length = n at *
    generalize m.length = m at *
    go_enter Tryd.func35, Tryd.ntmps35
    go_wp2
    go_ret
    exact ⟨rfl, Below.refl _ _⟩

set_option maxRecDepth 100000 in
set_option maxHeartbeats 4000000 in
theorem samerows_any (A B : Option Addr) (cap cap2 : Nat) (l m : List (List Vl)) (W : World) (hl : Rws W A l) (hm : Rws W B m) (hn : l.length ≤ 4000000000000000000) (hn2 : m.length ≤ 4000000000000000000) :
    Calls Tryd.prog 16 #[.slice A l.length cap, .slice B m.length cap2] W fun e W' => e = .returned (.bool (decide (l = m))) ∧ Below W.heap.size W W' := by
  by_cases hlen : l.length = m.length
  · obtain ⟨z, hz⟩ : ∃ z, decide (l = m) = z := ⟨_, rfl⟩
    rw [hz]
    have HZ := Lib.hid hz
    have HL := Lib.hid hl
    have HM := Lib.hid hm
    have HLEN := Lib.hid hlen
    rw [← hlen]
    clear hl hm hz hn2
    obtain ⟨n, hn3⟩ : ∃ n, l.length = n := ⟨_, rfl⟩
    rw [hn3] at hn ⊢
    have HN := Lib.hid hn3
    clear hn3 hlen
    go_enter Tryd.func16, Tryd.ntmps16
    go_wp2
    go_loopw [5, 6] (fun i u wr => ∃ k : Nat, k ≤ n ∧ i = .int .i64 k ∧ (∀ j (a : j < l.length) (b : j < m.length), j < k → l[j] = m[j]) ∧ Below W.heap.size W wr) (fun i _ _ => n - (intOf i).toNat)
    case atStart => exact ⟨0, by omega, rfl, fun j _ _ h => by omega, Below.refl _ _⟩
    case round =>
      obtain ⟨k, hk, rfl, hall, hbel⟩ := hrel
      have HALL := Lib.hid hall
      have HBEL := Lib.hid hbel
      clear hall hbel
      by_cases hlt : k < n
      · have h1 : k < l.length := by rw [HN.out]; exact hlt
        have h2 : k < m.length := by rw [← HLEN.out, HN.out]; exact hlt
        obtain ⟨b, o, Ar, cr, rfl, hc, hv, hvn⟩ := HL.out k h1
        obtain ⟨b2, o2, Br, dr, rfl, hc2, hv2, hvn2⟩ := HM.out k h2
        have c0 := cell_below HBEL.out hc
        have c1 := cell_below HBEL.out hc2
        have HK : Hid (k < n) := hlt
        have HBAD : Hid (l[k] ≠ m[k] → z = false) := fun h => by rw [← HZ.out]; exact decide_eq_false (fun e => h (by simp only [e]))
        have HGD : Hid (l[k] = m[k] → ∀ j (a : j < l.length) (b : j < m.length), j < k + 1 → l[j] = m[j]) := fun h j a b hj => by
          by_cases e : j = k
          · subst e; exact h
          · exact HALL.out j a b (by omega)
        have hsm := samerow_any Ar Br cr dr l[k] m[k] wr.drew (hv.keep HBEL.out.drew) (hv2.keep HBEL.out.drew) (by omega) (by omega)
        have hB0 : Below W.heap.size W wr.drew := HBEL.out.drew
        have HB0 := Lib.hid hB0
        have d0 : World.cell? wr.drew ⟨b, o + k, none⟩ = _ := c0
        have d1 : World.cell? wr.drew ⟨b2, o2 + k, none⟩ = _ := c1
        clear hv hv2 hc hc2 hvn hvn2 hB0 c0 c1
        generalize l[k] = r at d0 HBAD HGD hsm
        generalize m[k] = s at d1 HBAD HGD hsm
        clear h1 h2
        obtain ⟨bq, hbq⟩ : ∃ bq, decide (r = s) = bq := ⟨_, rfl⟩
        rw [hbq] at hsm
        have HBQ := Lib.hid hbq
        have HSM := Lib.hid hsm
        clear hbq hsm
        go_upto_region 6 with (fail)
        refine wpB_start 10 (by kernel_rfl) rfl (fun R HR => ?_)
        refine wpB_take HR (i := 0) rfl (by decide +kernel) (by decide +kernel) (by decide +kernel) (fun _ _ _ h => h) (by rfl) (fun W hW => by rfl) ?_
        go_simp
        refine wpB_take HR (i := 1) rfl (by decide +kernel) (by decide +kernel) (by decide +kernel) (fun _ _ _ h => h) (by rfl) (fun W hW => by rfl) ?_
        go_simp
        refine wpB_take HR (i := 2) (v := .pointer (some ⟨b, o + k, none⟩)) rfl (by decide +kernel) (by decide +kernel) (by decide +kernel) (fun _ _ _ h => h) (by rfl) (fun W hW => by first | (go_simp; done) | (go_simp; intro hx; exact absurd hx (by omega)) | (go_simp; rw [if_pos ⟨by omega, by omega⟩]; done)) ?_
        go_simp
        refine wpB_take HR (i := 3) (v := .slice Ar r.length cr) rfl (by decide +kernel) (by decide +kernel) (by decide +kernel) (fun _ _ _ h => h) (by rfl) (fun W hW => by have q := cell_below hW d0; go_simp) ?_
        go_simp
        refine wpB_take HR (i := 4) rfl (by decide +kernel) (by decide +kernel) (by decide +kernel) (fun _ _ _ h => h) (by rfl) (fun W hW => by rfl) ?_
        go_simp
        refine wpB_take HR (i := 5) rfl (by decide +kernel) (by decide +kernel) (by decide +kernel) (fun _ _ _ h => h) (by rfl) (fun W hW => by rfl) ?_
        go_simp
        refine wpB_take HR (i := 6) (v := .pointer (some ⟨b2, o2 + k, none⟩)) rfl (by decide +kernel) (by decide +kernel) (by decide +kernel) (fun _ _ _ h => h) (by rfl) (fun W hW => by first | (go_simp; done) | (go_simp; intro hx; exact absurd hx (by omega)) | (go_simp; rw [if_pos ⟨by omega, by omega⟩]; done)) ?_
        go_simp
        refine wpB_take HR (i := 7) (v := .slice Br s.length dr) rfl (by decide +kernel) (by decide +kernel) (by decide +kernel) (fun _ _ _ h => h) (by rfl) (fun W hW => by have q := cell_below hW d1; go_simp) ?_
        go_simp
        refine wpB_call HR (i := 8) rfl (by decide +kernel) (by rfl) (by go_simp; exact ⟨rfl, rfl⟩) ?_
        refine HSM.out.mono ?_
        rintro e w2 ⟨rfl, hb2⟩
        refine ⟨_, rfl, hb2, ?_⟩
        have HB2 := Lib.hid (HB0.out.trans (hb2.mono HB0.out.size))
        clear hb2
        go_simp
        refine wpB_take HR (i := 9) rfl (by decide +kernel) (by decide +kernel) (by decide +kernel) (fun _ _ _ h => h) (by rfl) (fun W hW => by rfl) ?_
        go_simp
        refine wpB_done HR (by decide +kernel) ?_
        cases bq with
        | true =>
          have HX := Lib.hid (HGD.out (of_decide_eq_true HBQ.out))
          clear HBAD HGD
          go_wp2
          go_roundw
          case rel => exact ⟨k + 1, HK.out, by go_num, HX.out, HB2.out⟩
          case measure => have := HK.out; simp [intOf]; omega
        | false =>
          have HX : Hid (z = false) := HBAD.out (of_decide_eq_false HBQ.out)
          clear HBAD HGD
          go_wp2
          go_ret
          exact ⟨congrArg (fun r => Ending.returned (Value.bool r)) HX.out.symm, HB2.out⟩
      · obtain rfl : k = n := by omega
        have HX : Hid (z = true) := by show z = true; rw [← HZ.out]; exact decide_eq_true (List.ext_getElem HLEN.out fun i h1 h2 => HALL.out i h1 h2 (by rw [← HN.out]; exact h1))
        go_wp2
        go_ret
        exact ⟨congrArg (fun r => Ending.returned (Value.bool r)) HX.out.symm, HBEL.out⟩
  · rw [decide_eq_false (fun e => hlen (by rw [e]))]
    have hne : ((l.length : Int) == (m.length : Int)) = false := by rw [beq_eq_false_iff_ne]; omega
    have hne2 : ¬ (l.length : Int) = m.length := by omega
    clear hl hm
    generalize l.length = n at *
    generalize m.length = m at *
    go_enter Tryd.func16, Tryd.ntmps16
    go_wp2
    go_ret
    exact ⟨rfl, Below.refl _ _⟩
end Go.Proofs.YtabnjiepmhblaaaDoor

/-! Rows off bytes: the plain model. -/
namespace Go.Proofs.YtabnjiepmhblaaaDoor
open Go.RowKit Go.Shelf Go.Maps
set_option linter.unusedVariables false

theorem strT_len (t : List UInt8) : (str t).size = t.length := by simp [str, ByteArray.size]
theorem textO_gen {l : List UInt8} {at_ p most : Int} {t : List UInt8} (h : textO l at_ most = some (t, p)) (hm : 0 ≤ most) : (t.length : Int) ≤ most ∧ 0 ≤ at_ ∧ at_ ≤ p ∧ p ≤ l.length := by
  unfold textO at h
  cases ht : takeO l at_ with
  | none => rw [ht] at h; cases h
  | some x =>
    obtain ⟨n, c⟩ := x
    rw [ht] at h
    simp only at h
    have h0 := takeO_in ht
    by_cases hc : 1048576 < n ∨ most < (n : Int) ∨ (l.length : Int) - (at_ + c) < n
    · rw [if_pos hc] at h; cases h
    · rw [if_neg hc] at h
      simp only [Option.some.injEq, Prod.mk.injEq] at h
      obtain ⟨rfl, rfl⟩ := h
      refine ⟨?_, h0.1, by omega, by omega⟩
      rw [List.length_take]
      omega
/-- What a value off bytes keeps to. -/
theorem valO_form {l : List UInt8} {at_ k n p : Int} {s : ByteArray} (h : V4.valO l at_ = some (k, n, s, p)) : s.size ≤ 1024 ∧ -9223372036854775808 ≤ n ∧ n ≤ 9223372036854775807 ∧ 0 ≤ at_ ∧ at_ + 1 ≤ p ∧ p ≤ l.length := by
  by_cases hin : 0 ≤ at_ ∧ at_ < l.length
  · obtain ⟨i, rfl⟩ := Int.eq_ofNat_of_zero_le hin.1
    have hi : i < l.length := by omega
    rw [V4.valO_in hi] at h
    split at h
    · simp only [Option.some.injEq, Prod.mk.injEq] at h
      obtain ⟨rfl, rfl, rfl, rfl⟩ := h
      refine ⟨by decide, by omega, by omega, by omega, by omega, by omega⟩
    · split at h
      · rename_i m c ht
        simp only [Option.some.injEq, Prod.mk.injEq] at h
        obtain ⟨rfl, rfl, rfl, rfl⟩ := h
        have h1 := takeO_in ht
        have h2 := take_lt ht
        have hz : -9223372036854775808 ≤ zag m ∧ zag m ≤ 9223372036854775807 := by unfold zag; split <;> omega
        refine ⟨by decide, hz.1, hz.2, by omega, by omega, by omega⟩
      · cases h
    · split at h
      · rename_i c hc
        split at h
        · rename_i h1
          simp only [Option.some.injEq, Prod.mk.injEq] at h
          obtain ⟨rfl, rfl, rfl, rfl⟩ := h
          have h2 := (List.getElem?_eq_some_iff.1 hc).1
          refine ⟨by decide, by omega, by omega, by omega, by omega, by omega⟩
        · cases h
      · cases h
    · split at h
      · rename_i t q ht
        simp only [Option.some.injEq, Prod.mk.injEq] at h
        obtain ⟨rfl, rfl, rfl, rfl⟩ := h
        obtain ⟨h1, h2, h3, h4⟩ := textO_gen ht (by omega)
        rw [strT_len]
        refine ⟨by omega, by omega, by omega, by omega, by omega, by omega⟩
      · cases h
    · cases h
  · rw [V4.valO_out (by omega)] at h; cases h
/-- A value off bytes. -/
def takeV (l : List UInt8) (at_ : Int) : Option (Vl × Int) :=
  match h : V4.valO l at_ with
  | none => none
  | some (k, n, s, p) => some (⟨k, n, s, by have := (valO_form h).1; unfold maxLen; omega, (valO_form h).2.1, (valO_form h).2.2.1⟩, p)
theorem valR_takeV (l : List UInt8) (at_ : Int) : V4.valR l at_ = match takeV l at_ with | some (v, p) => .tuple #[vlV v, .int .i64 p, .int .i64 0] | none => .tuple #[.agg #[.int .i64 0, .int .i64 0, .string ⟨#[]⟩], .int .i64 0, .int .i64 20] := by
  unfold takeV
  split
  · rename_i v p h
    split at h
    · cases h
    · rename_i k n s q hv
      simp only [Option.some.injEq, Prod.mk.injEq] at h
      obtain ⟨rfl, rfl⟩ := h
      rw [V4.valR_some hv]
      rfl
  · rename_i h
    split at h
    · rename_i hv
      exact V4.valR_none hv
    · cases h
theorem takeV_form {l : List UInt8} {at_ p : Int} {v : Vl} (h : takeV l at_ = some (v, p)) : 0 ≤ at_ ∧ at_ + 1 ≤ p ∧ p ≤ l.length := by
  unfold takeV at h
  split at h
  · cases h
  · rename_i k n s q hv
    simp only [Option.some.injEq, Prod.mk.injEq] at h
    obtain ⟨rfl, rfl⟩ := h
    exact (valO_form hv).2.2.2
/-- So many values from a place on. -/
def takeVs (l : List UInt8) (at_ : Int) : Nat → Option (List Vl × Int)
  | 0 => some ([], at_)
  | k + 1 => match takeVs l at_ k with
    | none => none
    | some (r, p) => match takeV l p with
      | none => none
      | some (c, q) => some (r ++ [c], q)
theorem takeVs_none {l : List UInt8} {at_ : Int} {k : Nat} (h : takeVs l at_ k = none) : ∀ n, k ≤ n → takeVs l at_ n = none := by
  intro n hn
  induction n with
  | zero => obtain rfl : k = 0 := by omega
            exact h
  | succ n ih =>
    by_cases e : k = n + 1
    · rw [← e]; exact h
    · simp only [takeVs]
      rw [ih (by omega)]
theorem takeVs_form {l : List UInt8} {at_ : Int} (h0 : at_ ≤ l.length) : ∀ {k : Nat} {r : List Vl} {p : Int}, takeVs l at_ k = some (r, p) → r.length = k ∧ at_ ≤ p ∧ p ≤ l.length
  | 0, r, p, h => by
    simp only [takeVs, Option.some.injEq, Prod.mk.injEq] at h
    obtain ⟨rfl, rfl⟩ := h
    exact ⟨rfl, Int.le_refl _, h0⟩
  | k + 1, r, p, h => by
    simp only [takeVs] at h
    cases h1 : takeVs l at_ k with
    | none => rw [h1] at h; cases h
    | some x =>
      obtain ⟨r1, p1⟩ := x
      rw [h1] at h
      simp only at h
      cases h2 : takeV l p1 with
      | none => rw [h2] at h; cases h
      | some y =>
        obtain ⟨c, q⟩ := y
        rw [h2] at h
        simp only [Option.some.injEq, Prod.mk.injEq] at h
        obtain ⟨rfl, rfl⟩ := h
        obtain ⟨a1, a2, a3⟩ := takeVs_form h0 h1
        have b := takeV_form h2
        exact ⟨by simp [a1], by omega, by omega⟩
/-- So many rows of a schema from a place on. -/
def takeRs (cols : List Col) (l : List UInt8) (at_ : Int) : Nat → Option (List (List Vl) × Int)
  | 0 => some ([], at_)
  | k + 1 => match takeRs cols l at_ k with
    | none => none
    | some (rs, p) => match takeVs l p cols.length with
      | none => none
      | some (r, q) => if fitsL cols r then some (rs ++ [r], q) else none
theorem takeRs_none {cols : List Col} {l : List UInt8} {at_ : Int} {k : Nat} (h : takeRs cols l at_ k = none) : ∀ n, k ≤ n → takeRs cols l at_ n = none := by
  intro n hn
  induction n with
  | zero => obtain rfl : k = 0 := by omega
            exact h
  | succ n ih =>
    by_cases e : k = n + 1
    · rw [← e]; exact h
    · simp only [takeRs]
      rw [ih (by omega)]
theorem takeRs_form {cols : List Col} {l : List UInt8} {at_ : Int} (h0 : at_ ≤ l.length) : ∀ {k : Nat} {rs : List (List Vl)} {p : Int}, takeRs cols l at_ k = some (rs, p) → rs.length = k ∧ at_ ≤ p ∧ p ≤ l.length
  | 0, r, p, h => by
    simp only [takeRs, Option.some.injEq, Prod.mk.injEq] at h
    obtain ⟨rfl, rfl⟩ := h
    exact ⟨rfl, Int.le_refl _, h0⟩
  | k + 1, r, p, h => by
    simp only [takeRs] at h
    cases h1 : takeRs cols l at_ k with
    | none => rw [h1] at h; cases h
    | some x =>
      obtain ⟨r1, p1⟩ := x
      rw [h1] at h
      simp only at h
      obtain ⟨a1, a2, a3⟩ := takeRs_form h0 h1
      cases h2 : takeVs l p1 cols.length with
      | none => rw [h2] at h; cases h
      | some y =>
        obtain ⟨c, q⟩ := y
        rw [h2] at h
        simp only at h
        by_cases hf : fitsL cols c = true
        · rw [if_pos hf] at h
          simp only [Option.some.injEq, Prod.mk.injEq] at h
          obtain ⟨rfl, rfl⟩ := h
          have b := takeVs_form a3 h2
          exact ⟨by simp [a1], by omega, by omega⟩
        · rw [if_neg hf] at h; cases h
/-- Which rows of a schema bytes are at a place, and where they end. -/
def takeRw (cols : List Col) (l : List UInt8) (at_ : Int) : Option (List (List Vl) × Int) :=
  if rightC cols = false then none else match takeO l at_ with
    | none => none
    | some (n, c) => if 1024 < n then none else takeRs cols l (at_ + c) n
def rwE (cols : List Col) : Int := if rightC cols then 52 else 50
def TookRw (W : World) (cols : List Col) (l : List UInt8) (at_ : Int) (e : Ending) (W' : World) : Prop :=
  match takeRw cols l at_ with
  | none => e = .returned (.tuple #[.slice none 0 0, .int .i64 0, .int .i64 (rwE cols)]) ∧ Below W.heap.size W W'
  | some (rs, p) => ∃ A cap, e = .returned (.tuple #[.slice A rs.length cap, .int .i64 p, .int .i64 0]) ∧ Rws W' A rs ∧ (A = none → cap = 0) ∧ rs.length ≤ cap ∧ Below W.heap.size W W'
theorem tookrw_no {W W' : World} {cols : List Col} {l : List UInt8} {at_ ec : Int} (h : takeRw cols l at_ = none) (he : rwE cols = ec) (hb : Below W.heap.size W W') : TookRw W cols l at_ (.returned (.tuple #[.slice none 0 0, .int .i64 0, .int .i64 ec])) W' := by
  subst he
  unfold TookRw; rw [h]; exact ⟨rfl, hb⟩
theorem tookrw_yes {W W' : World} {cols : List Col} {l : List UInt8} {at_ p : Int} {rs : List (List Vl)} {A : Option Addr} {cap n : Nat} (h : takeRw cols l at_ = some (rs, p)) (hn : rs.length = n) (hc : Rws W' A rs) (hA : A = none → cap = 0) (hcap : n ≤ cap) (hb : Below W.heap.size W W') :
    TookRw W cols l at_ (.returned (.tuple #[.slice A n cap, .int .i64 p, .int .i64 0])) W' := by
  subst hn
  unfold TookRw; rw [h]; exact ⟨A, cap, rfl, hc, hA, hcap, hb⟩
end Go.Proofs.YtabnjiepmhblaaaDoor

/-! Laws for rows that are made and filled. -/
namespace Go.Proofs.YtabnjiepmhblaaaDoor
open Go.RowKit Go.Shelf Go.Maps
set_option linter.unusedVariables false

def zv : Vl := ⟨0, 0, ⟨#[]⟩, by decide, by decide, by decide⟩
theorem flatV_len : ∀ l : List Vl, (l.flatMap vlC).length = l.length * 3
  | [] => rfl
  | c :: t => by rw [List.flatMap_cons, List.length_append, flatV_len t, List.length_cons]; simp [vlC]; omega
theorem flatV_at : ∀ (l : List Vl) (k j : Nat) (h : k < l.length), j < 3 → (l.flatMap vlC)[k * 3 + j]? = (vlC l[k])[j]?
  | c :: t, 0, j, h, hj => by
    rw [List.flatMap_cons, List.getElem?_append_left (by simp [vlC]; omega)]
    simp
  | c :: t, k + 1, j, h, hj => by
    rw [List.flatMap_cons, List.getElem?_append_right (by simp [vlC]; omega)]
    have := flatV_at t k j (by simpa using h) hj
    rw [show (k + 1) * 3 + j - (vlC c).length = k * 3 + j by simp [vlC]; omega, this]
    rfl
theorem vls_blk {w : World} {g : Nat} {l : List Vl} (h : Blk w g 71 (l.flatMap vlC)) : Vls w (some ⟨g, 0, none⟩) l := by
  intro k hk
  refine ⟨g, 0, rfl, ?_, ?_, ?_⟩
  · rw [Nat.zero_add, h.at_]; exact flatV_at l k 0 hk (by omega)
  · rw [Nat.zero_add, h.at_]; exact flatV_at l k 1 hk (by omega)
  · rw [Nat.zero_add, h.at_]; exact flatV_at l k 2 hk (by omega)
theorem flatV_set {r : List Vl} {c : Vl} {z : Nat} {k : Nat} (hr : r.length = k) : setL ((r ++ List.replicate (z + 1) zv).flatMap vlC) (k * 3) (vlC c) = ((r ++ [c]) ++ List.replicate z zv).flatMap vlC := by
  have := setL_mid (vlC c) (vlC zv) (r.flatMap vlC) ((List.replicate z zv).flatMap vlC) rfl
  rw [flatV_len, hr] at this
  rw [List.flatMap_append, List.replicate_succ, List.flatMap_cons, this]
  simp
theorem made_vals (n : Nat) : madeCells (.agg #[.int .i64 0, .int .i64 0, .string ⟨#[]⟩] : Value).cells (n * 3) = ((List.replicate n zv).flatMap vlC).toArray := by
  apply Array.ext'
  apply List.ext_getElem?
  intro i
  have hz : (.agg #[.int .i64 0, .int .i64 0, .string ⟨#[]⟩] : Value).cells = #[.int .i64 0, .int .i64 0, .string ⟨#[]⟩] := by rfl
  by_cases hi : i < n * 3
  · have hk : i / 3 < (List.replicate n zv).length := by rw [List.length_replicate]; omega
    have h1 := flatV_at (List.replicate n zv) (i / 3) (i % 3) hk (Nat.mod_lt _ (by decide))
    rw [show i / 3 * 3 + i % 3 = i by omega] at h1
    rw [List.toList_toArray, h1, List.getElem_replicate]
    simp only [madeCells, hz]
    have h3 : i % 3 < 3 := Nat.mod_lt _ (by decide)
    rw [List.getElem?_eq_getElem (by simp; exact hi)]
    simp only [Array.getElem_toList, Array.getElem_map, Array.getElem_range]
    have hm : i % 3 = 0 ∨ i % 3 = 1 ∨ i % 3 = 2 := by omega
    rcases hm with e | e | e <;> simp [e, vlC, zv]
  · rw [List.getElem?_eq_none (by simp [madeCells]; omega), List.getElem?_eq_none (by rw [List.toList_toArray, flatV_len, List.length_replicate]; omega)]
theorem info_val : (Tryd.prog.info? 71).map (fun i => (i.zero, i.size, i.bytes)) = some (some (.agg #[.int .i64 0, .int .i64 0, .string ⟨#[]⟩]), 3, 32) := by kernel_rfl
theorem info_row : (Tryd.prog.info? 68).map (fun i => (i.zero, i.size, i.bytes)) = some (some (.slice none 0 0), 1, 24) := by kernel_rfl
theorem szVa : (Tryd.prog.info? 71).map (·.size) = some 3 := by kernel_rfl
theorem one_v (k n : Int) (s : ByteArray) : ∀ v ∈ [Value.int .i64 k, Value.int .i64 n, Value.string s], v.oneCell' = true := by
  intro v hv
  simp at hv
  rcases hv with rfl | rfl | rfl <;> rfl
theorem mk_vals {ops : Array Oper} {rest : List Oper} {o : Oper} {a : Act} {Q : Exit → Act → World → Prop} {w : World} (hgd : o.guard = none) (l c : Operand)
    (hop : o.op = Op.makeSlice 68 l c) (n : Nat) (hl : a.eval l = .int .i64 (n : Int)) (hc : a.eval c = .int .i64 (n : Int)) (hsz : n ≤ 100)
    (h : wpList Tryd.prog ops Q rest (a.put o.dst (.slice (some ⟨w.heap.size, 0, none⟩) n n)) (w.alloc (.cells ((List.replicate n zv).flatMap vlC).toArray 71))) : wpList Tryd.prog ops Q (o :: rest) a w := by
  obtain ⟨i0, hti, hz0, hz1, hz2⟩ := info_parts info_val
  have hr := run_make (P := Tryd.prog) w 68 71 i0 _ Tryd.underlying68 hti hz0 .i64 .i64 n n (by omega) (by omega) (by rw [hz2]; omega) (by omega)
  simp only [Int.toNat_natCast] at hr
  rw [hz1, made_vals] at hr
  refine wpList_plain hgd fun K hK' => ?_
  unfold Oper.wp
  simp [execOp, hop, hl, hc, hr, Result.andThen]
  exact hK' _ _ h
theorem mk_rows {ops : Array Oper} {rest : List Oper} {o : Oper} {a : Act} {Q : Exit → Act → World → Prop} {w : World} (hgd : o.guard = none) (l c : Operand)
    (hop : o.op = Op.makeSlice 31 l c) (n : Nat) (hl : a.eval l = .int .u64 (n : Int)) (hc : a.eval c = .int .u64 (n : Int)) (hsz : n ≤ 2000)
    (h : wpList Tryd.prog ops Q rest (a.put o.dst (.slice (some ⟨w.heap.size, 0, none⟩) n n)) (w.alloc (.cells (List.replicate n (Value.slice none 0 0)).toArray 68))) : wpList Tryd.prog ops Q (o :: rest) a w := by
  obtain ⟨i0, hti, hz0, hz1, hz2⟩ := info_parts info_row
  have hr := run_make (P := Tryd.prog) w 31 68 i0 _ Tryd.underlying31 hti hz0 .u64 .u64 n n (by omega) (by omega) (by rw [hz2]; omega) (by omega)
  simp only [Int.toNat_natCast] at hr
  have hm : madeCells (Value.slice none 0 0).cells (n * 1) = (List.replicate n (Value.slice none 0 0)).toArray := by
    apply Array.ext'
    apply List.ext_getElem
    · simp [madeCells]
    · intro i h1 h2
      have e1 : i % 1 = 0 := Nat.mod_one i
      simp [madeCells, Value.cells, e1]
  rw [hz1, hm] at hr
  refine wpList_plain hgd fun K hK' => ?_
  unfold Oper.wp
  simp [execOp, hop, hl, hc, hr, Result.andThen]
  exact hK' _ _ h
end Go.Proofs.YtabnjiepmhblaaaDoor

/-! The program's TakeRows. -/
namespace Go.Proofs.YtabnjiepmhblaaaDoor
open Go.RowKit Go.Shelf Go.Maps
set_option linter.unusedVariables false

theorem takeRs_fits {cols : List Col} {l : List UInt8} {at_ : Int} : ∀ {k : Nat} {rs : List (List Vl)} {p : Int}, takeRs cols l at_ k = some (rs, p) → ∀ r ∈ rs, fitsL cols r = true
  | 0, r, p, h => by
    simp only [takeRs, Option.some.injEq, Prod.mk.injEq] at h
    obtain ⟨rfl, rfl⟩ := h
    intro r hr; simp at hr
  | k + 1, r, p, h => by
    simp only [takeRs] at h
    cases h1 : takeRs cols l at_ k with
    | none => rw [h1] at h; cases h
    | some x =>
      obtain ⟨r1, p1⟩ := x
      rw [h1] at h
      simp only at h
      cases h2 : takeVs l p1 cols.length with
      | none => rw [h2] at h; cases h
      | some y =>
        obtain ⟨c, q⟩ := y
        rw [h2] at h
        simp only at h
        by_cases hf : fitsL cols c = true
        · rw [if_pos hf] at h
          simp only [Option.some.injEq, Prod.mk.injEq] at h
          obtain ⟨rfl, rfl⟩ := h
          intro d hd
          rcases List.mem_append.1 hd with hd | hd
          · exact takeRs_fits h1 d hd
          · rw [List.mem_singleton.1 hd]; exact hf
        · rw [if_neg hf] at h; cases h

set_option maxRecDepth 100000 in
set_option maxHeartbeats 8000000 in
theorem takerows_any (B A : Option Addr) (bcap cap : Nat) (b : List UInt8) (at_ : Int) (l : List Col) (W : World) (hy : Byt W B b) (hB : B = none → bcap = 0) (hbc : b.length ≤ bcap) (hbm : bcap ≤ 140737488351232) (hl : Cols W A l) (hn : l.length ≤ 4000000000000000000) :
    Calls Tryd.prog 15 #[.slice B b.length bcap, .int .i64 at_, .slice A l.length cap] W (TookRw W l b at_) := by
  have hri := right_any A cap l W hl hn
  cases hrr : rightC l with
  | false =>
    rw [hrr] at hri
    have hts : takeRw l b at_ = none := by unfold takeRw; rw [if_pos hrr]
    have HNO := Lib.hid (fun W' (h : Below W.heap.size W W') => tookrw_no (ec := 50) hts (by unfold rwE; rw [hrr]; rfl) h)
    have HR := Lib.hid hri
    clear hri hl hy hrr hts
    generalize l.length = n at *
    generalize b.length = bn at *
    go_enter Tryd.func15, Tryd.ntmps15
    go_wp2_with (first | (go_at_call 12; refine HR.out.mono ?_; rintro e w1 ⟨rfl, hb⟩; have B1 := Lib.hid hb; clear hb HR))
    refine bodyPost_ret (v := .tuple #[.slice none 0 0, .int .i64 0, .int .i64 50]) ?_ rfl (HNO.out _ B1.out)
    rw [results_tmp3 rfl]
    rfl
  | true =>
  rw [hrr] at hri
  have hlen : 1 ≤ l.length ∧ l.length ≤ 16 := by
    apply Classical.byContradiction
    intro h
    rw [rightC_len h] at hrr
    cases hrr
  have hE : rwE l = 52 := by unfold rwE; rw [hrr]; rfl
  have HR := Lib.hid hri
  have hT : ∀ w1, Below W.heap.size W w1 → _ := fun w1 h => take_any B bcap at_ b w1 (hy.keep h) hbc hbm
  unfold Took at hT
  have hts : takeRw l b at_ = match takeO b at_ with
    | none => none
    | some (n, c) => if 1024 < n then none else takeRs l b (at_ + c) n := by unfold takeRw; rw [if_neg (by rw [hrr]; simp)] <;> rfl
  cases ht : takeO b at_ with
  | none =>
    rw [ht] at hts
    simp only [tV, tP, tE, ht] at hT
    have HT := Lib.hid hT
    have HNO := Lib.hid (fun W' (h : Below W.heap.size W W') => tookrw_no hts hE h)
    clear hT hts ht hy hri hl hE hrr
    generalize l.length = n at *
    generalize b.length = bn at *
    go_enter Tryd.func15, Tryd.ntmps15
    go_wp2_with (first | (go_at_call 12; refine HR.out.mono ?_; rintro e w1 ⟨rfl, hb⟩; have B1 := Lib.hid hb; clear hb HR) | (go_at_call 30; refine (HT.out _ B1.out).mono ?_; rintro e w2 ⟨rfl, rfl⟩; clear HT))
    refine bodyPost_ret (v := .tuple #[.slice none 0 0, .int .i64 0, .int .i64 52]) ?_ rfl (HNO.out _ B1.out)
    rw [results_tmp3 rfl]
    rfl
  | some x =>
    obtain ⟨n, c⟩ := x
    rw [ht] at hts
    simp only at hts
    simp only [tV, tP, tE, ht] at hT
    have HT := Lib.hid hT
    have h0 := takeO_in ht
    by_cases hn16 : 1024 < n
    · rw [if_pos hn16] at hts
      have HNO := Lib.hid (fun W' (h : Below W.heap.size W W') => tookrw_no hts hE h)
      have hgt : (1024 : Int) < (n : Int) := by omega
      clear hT hts ht hy hri hl hE hrr h0
      generalize l.length = m at *
      generalize b.length = bn at *
      go_enter Tryd.func15, Tryd.ntmps15
      go_wp2_with (first | (go_at_call 12; refine HR.out.mono ?_; rintro e w1 ⟨rfl, hb⟩; have B1 := Lib.hid hb; clear hb HR) | (go_at_call 30; refine (HT.out _ B1.out).mono ?_; rintro e w2 ⟨rfl, rfl⟩; clear HT))
      refine bodyPost_ret (v := .tuple #[.slice none 0 0, .int .i64 0, .int .i64 52]) ?_ rfl (HNO.out _ B1.out)
      rw [results_tmp3 rfl]
      rfl
    · rw [if_neg hn16] at hts
      obtain ⟨at2, hat2⟩ : ∃ a2, at_ + (c : Int) = a2 := ⟨_, rfl⟩
      rw [hat2] at hts
      have hgt : ¬ (1024 : Int) < (n : Int) := by omega
      have HTS := Lib.hid hts
      have HBY := Lib.hid hy
      have HL := Lib.hid hl
      have HE := Lib.hid hE
      have HIN : Hid (at2 ≤ b.length ∧ 0 ≤ at2) := ⟨by omega, by omega⟩
      have HNL := Lib.hid hlen
      clear hT hts ht hy h0 hri hl hE hrr
      rw [hat2] at HT
      clear hat2
      go_enter Tryd.func15, Tryd.ntmps15
      go_wp2_with (first | (go_at_call 12; refine HR.out.mono ?_; rintro e w1 ⟨rfl, hb⟩; have B1 := Lib.hid hb; clear hb HR) | (go_at_call 30; refine (HT.out _ B1.out).mono ?_; rintro e w2 ⟨rfl, rfl⟩; clear HT) | (refine mk_rows rfl (.tmp 31) (.tmp 31) rfl n rfl rfl (by omega) ?_; have HG0 := Lib.hid (Blk.born w1 68 (List.replicate n (Value.slice none 0 0))); have HB0 := Lib.hid (B1.out.alloc B1.out.size (.cells (List.replicate n (Value.slice none 0 0)).toArray 68))))
      obtain ⟨G, hG⟩ : ∃ G, w1.heap.size = G := ⟨_, rfl⟩
      rw [hG] at HG0 ⊢
      have hNG : W.heap.size ≤ G := by rw [← hG]; exact B1.out.size
      clear hG
      go_loopw [10, 11, 13, 14, 35] (fun x10 x11 x13 x14 x35 wr => ∃ k : Nat, k ≤ n ∧ x35 = .int .i64 k ∧ ∃ rs p sl, takeRs l b at2 k = some (rs, p) ∧ x10 = .int .i64 p ∧ sl.length = k ∧ Blk wr G 68 (sl ++ List.replicate (n - k) (Value.slice none 0 0)) ∧ (∀ i (hi : i < rs.length), ∃ g, sl[i]? = some (.slice (some ⟨g, 0, none⟩) l.length l.length) ∧ G < g ∧ Blk wr g 71 (rs[i].flatMap vlC)) ∧ Below W.heap.size W wr) (fun _ _ _ _ x _ => n - (intOf x).toNat)
      case atStart => exact ⟨0, by omega, rfl, [], at2, [], rfl, rfl, rfl, HG0.out, fun i hi => by simp at hi, HB0.out⟩
      case round =>
        obtain ⟨k, hk, rfl, rs, p, sl, htk, rfl, hsl, hblk, hrows, hbel⟩ := hrel
        have hfr := takeRs_form HIN.out.1 htk
        have HBEL := Lib.hid hbel
        have HBLK := Lib.hid hblk
        have HTK := Lib.hid htk
        have HROWS := Lib.hid hrows
        have HFR := Lib.hid hfr
        have HSL := Lib.hid hsl
        have hGl : G < wr.heap.size := lt_of_block hblk
        clear hbel hblk htk hrows HG0 HB0 B1 hfr
        by_cases hlt : k < n
        · have HK : Hid (k < n) := hlt
          have hq16 : l.length ≤ 16 := HNL.out.2
          obtain ⟨g, hg⟩ : ∃ g, wr.heap.size = g := ⟨_, rfl⟩
          have hcut : (sl ++ List.replicate (n - k) (Value.slice none 0 0)).set k (.slice (some ⟨g, 0, none⟩) l.length l.length) = (sl ++ [.slice (some ⟨g, 0, none⟩) l.length l.length]) ++ List.replicate (n - (k + 1)) (Value.slice none 0 0) := by
            rw [show n - k = (n - (k + 1)) + 1 by omega, List.replicate_succ, List.set_append_right _ _ (by omega), show k - sl.length = 0 by omega]
            simp
          have HCUT := Lib.hid hcut
          obtain ⟨W2, hW2⟩ : ∃ x, x = (wr.setCell ⟨G, k, none⟩ (.slice (some ⟨g, 0, none⟩) l.length l.length)).alloc (.cells ((List.replicate l.length zv).flatMap vlC).toArray 71) := ⟨_, rfl⟩
          have hs0 : Sole G wr (wr.setCell ⟨G, k, none⟩ (.slice (some ⟨g, 0, none⟩) l.length l.length)) := (Sole.refl G wr).setCell k _
          have hblk2 : Blk W2 G 68 ((sl ++ [.slice (some ⟨g, 0, none⟩) l.length l.length]) ++ List.replicate (n - (k + 1)) (Value.slice none 0 0)) := by rw [hW2, ← hcut]; exact (HBLK.out.store k _).later _
          have hbn2 : Blk W2 g 71 ((List.replicate l.length zv).flatMap vlC) := by
            have := Blk.born (wr.setCell ⟨G, k, none⟩ (.slice (some ⟨g, 0, none⟩) l.length l.length)) 71 ((List.replicate l.length zv).flatMap vlC)
            rw [hs0.size, hg] at this
            rw [hW2]; exact this
          have hbel2 : Below W.heap.size W W2 := by
            have h1 := hs0.below HBEL.out hNG
            rw [hW2]; exact h1.alloc h1.size _
          have hrows2 : ∀ i (hi : i < rs.length), ∃ g', sl[i]? = some (.slice (some ⟨g', 0, none⟩) l.length l.length) ∧ G < g' ∧ g' < g ∧ Blk W2 g' 71 (rs[i].flatMap vlC) := fun i hi => by
            obtain ⟨g', e1, e2, e3⟩ := HROWS.out i hi
            exact ⟨g', e1, e2, by rw [← hg]; exact lt_of_block e3, by rw [hW2]; exact (e3.sole hs0 (by omega)).later _⟩
          have hGg : G < g := by omega
          have hc0 : ∃ u, wr.cell? ⟨G, k, none⟩ = some u := ⟨_, (HBLK.out.at_ k).trans (List.getElem?_eq_getElem (by rw [List.length_append, List.length_replicate]; omega))⟩
          obtain ⟨u0, hc0⟩ := hc0
          have hf0 := HBLK.out.free k
          have hWg : W.heap.size ≤ g := by omega
          have HW2 := Lib.hid hW2
          have HB2 := Lib.hid hblk2
          have HN2 := Lib.hid hbn2
          have HE2 := Lib.hid hbel2
          have HR2 := Lib.hid hrows2
          have hpl := HFR.out.2.2
          clear hcut hW2 hs0 hblk2 hbn2 hbel2 hrows2 HBLK HROWS HBEL
          go_wp2_with (first | (refine mk_vals rfl (.tmp 41) (.tmp 41) rfl l.length rfl rfl (by omega) ?_; rw [hg]))
          rw [← HW2.out]
          clear HW2 hc0 hf0 hg
          go_loopw [10, 11, 14, 46] (fun x10 x11 x14 x46 w3 => ∃ j : Nat, j ≤ l.length ∧ x46 = .int .i64 j ∧ ∃ r q, takeVs b p j = some (r, q) ∧ x10 = .int .i64 q ∧ Blk w3 g 71 ((r ++ List.replicate (l.length - j) zv).flatMap vlC) ∧ Below g W2 w3) (fun _ _ _ x _ => l.length - (intOf x).toNat)
          case atStart => exact ⟨0, by omega, rfl, [], p, rfl, rfl, HN2.out, Below.refl _ _⟩
          case round =>
            obtain ⟨j, hj, rfl, r, q, htv, rfl, hblk3, hbel3⟩ := hrel
            have hfv := takeVs_form hpl htv
            have HFV := Lib.hid hfv
            have HTV := Lib.hid htv
            have HBK3 := Lib.hid hblk3
            have HBE3 := Lib.hid hbel3
            clear hfv htv hblk3 hbel3
            by_cases hjl : j < l.length
            · have HJ : Hid (j < l.length) := hjl
              have hrj := HFV.out.1
              have hsl := HSL.out
              have hG3 := HB2.out.below HBE3.out hGg
              have hcell : wr.cell? ⟨G, k, none⟩ = some (.slice (some ⟨g, 0, none⟩) l.length l.length) := (hG3.at_ k).trans (by rw [List.getElem?_append_left (by simp; omega), List.getElem?_append_right (by omega), hsl, Nat.sub_self]; rfl)
              have hWw : Below W.heap.size W wr := HE2.out.trans (HBE3.out.mono hWg)
              have htk := V4.takev_any B bcap q b wr.drew (HBY.out.keep hWw.drew) hB hbc hbm
              unfold V4.TookV at htk
              rw [valR_takeV] at htk
              have hgl3 : g < wr.heap.size := lt_of_block HBK3.out
              have hBd : Blk wr.drew g 71 ((r ++ List.replicate (l.length - j) zv).flatMap vlC) := HBK3.out
              have H3 : Hid (j * 3 + 3 ≤ ((r ++ List.replicate (l.length - j) zv).flatMap vlC).length) := by show _ ≤ _; rw [flatV_len, List.length_append, List.length_replicate]; omega
              have HBD := Lib.hid hBd
              cases htv2 : takeV b q with
              | none =>
                have hno : takeRw l b at_ = none := by
                  rw [HTS.out, takeRs_none (k := k + 1) (by simp only [takeRs]; rw [HTK.out]; simp only [takeVs_none (k := j + 1) (by simp only [takeVs]; rw [HTV.out]; simp only [htv2]) l.length hjl]) n hlt]
                have HNO := Lib.hid (fun W' (h : Below W.heap.size W W') => tookrw_no hno HE.out h)
                rw [htv2] at htk
                simp only at htk
                have HTKV := Lib.hid htk
                clear htk htv2 hno hrj hsl hG3 hWw hBd
                go_upto_region 14 with (fail)
                have hS : World.cell? wr.drew ⟨G, k, none⟩ = some (.slice (some ⟨g, 0, none⟩) l.length l.length) := hcell
                clear hcell
                refine wpS_start (fun w => World.cell? w ⟨G, k, none⟩ = some (.slice (some ⟨g, 0, none⟩) l.length l.length)) 16 (by kernel_rfl) rfl (fun RG HR => ?_)
                refine wpS_take HR (i := 0) (v := .slice (some ⟨G, 0, none⟩) n n) rfl (by decide +kernel) (by decide +kernel) (by decide +kernel) (fun _ _ _ h => h) (by rfl) hS (fun W hW => by go_simp) ?_
                go_simp
                refine wpS_take HR (i := 1) (v := .int .i64 (k : Int)) rfl (by decide +kernel) (by decide +kernel) (by decide +kernel) (fun _ _ _ h => h) (by rfl) hS (fun W hW => by go_simp) ?_
                go_simp
                refine wpS_take HR (i := 2) (v := .pointer (some ⟨G, k, none⟩)) rfl (by decide +kernel) (by decide +kernel) (by decide +kernel) (fun _ _ _ h => h) (by rfl) hS (fun W hW => by first | (go_simp; done) | (go_simp; intro hx; exact absurd hx (by omega)) | (go_simp; rw [if_pos ⟨by omega, by omega⟩]; done)) ?_
                go_simp
                refine wpS_take HR (i := 3) (v := .slice (some ⟨g, 0, none⟩) l.length l.length) rfl (by decide +kernel) (by decide +kernel) (by decide +kernel) (fun _ _ _ h => h) (by rfl) hS (fun W hW => by go_simp) ?_
                go_simp
                refine wpS_take HR (i := 4) (v := .int .i64 (j : Int)) rfl (by decide +kernel) (by decide +kernel) (by decide +kernel) (fun _ _ _ h => h) (by rfl) hS (fun W hW => by go_simp) ?_
                go_simp
                refine wpS_take HR (i := 5) (v := .slice B b.length bcap) rfl (by decide +kernel) (by decide +kernel) (by decide +kernel) (fun _ _ _ h => h) (by rfl) hS (fun W hW => by go_simp) ?_
                go_simp
                refine wpS_take HR (i := 6) (v := .int .i64 q) rfl (by decide +kernel) (by decide +kernel) (by decide +kernel) (fun _ _ _ h => h) (by rfl) hS (fun W hW => by go_simp) ?_
                go_simp
                refine wpS_step1 HR (i := 7) (by decide +kernel) ?_
                refine stepS_call HR rfl (by rfl) (by go_simp; exact ⟨rfl, rfl⟩) ?_
                refine HTKV.out.mono ?_
                rintro e w4 ⟨rfl, hb4⟩
                have hS4 : World.cell? w4 ⟨G, k, none⟩ = some (.slice (some ⟨g, 0, none⟩) l.length l.length) := cell_below hb4 hS
                refine ⟨_, rfl, hS4, ?_⟩
                clear hS
                have hS := hS4
                have HG4 := Lib.hid (HBD.out.below hb4 hgl3)
                have HE4 := Lib.hid (HBE3.out.drew.trans (hb4.mono (Nat.le_of_lt hgl3)))
                clear hb4 HTKV hS4
                go_simp
                refine wpS_take HR (i := 8) (v := .tuple #[.agg #[.int .i64 0, .int .i64 0, .string ⟨#[]⟩], .int .i64 0, .int .i64 20]) rfl (by decide +kernel) (by decide +kernel) (by decide +kernel) (fun _ _ _ h => h) (by rfl) hS (fun W hW => by go_simp) ?_
                go_simp
                refine wpS_take HR (i := 9) (v := .agg #[.int .i64 0, .int .i64 0, .string ⟨#[]⟩]) rfl (by decide +kernel) (by decide +kernel) (by decide +kernel) (fun _ _ _ h => h) (by rfl) hS (fun W hW => by go_simp) ?_
                go_simp
                refine wpS_take HR (i := 10) (v := .int .i64 0) rfl (by decide +kernel) (by decide +kernel) (by decide +kernel) (fun _ _ _ h => h) (by rfl) hS (fun W hW => by go_simp) ?_
                go_simp
                refine wpS_take HR (i := 11) (v := .int .i64 20) rfl (by decide +kernel) (by decide +kernel) (by decide +kernel) (fun _ _ _ h => h) (by rfl) hS (fun W hW => by go_simp) ?_
                go_simp
                refine wpS_take HR (i := 12) (v := .pointer (some ⟨g, j * 3, none⟩)) rfl (by decide +kernel) (by decide +kernel) (by decide +kernel) (fun _ _ _ h => h) (by rfl) hS (fun W hW => by first | (go_simp; done) | (go_simp; intro hx; exact absurd hx (by omega)) | (go_simp; rw [if_pos ⟨by omega, by omega⟩]; done)) ?_
                go_simp
                refine wpS_step1 HR (i := 13) (by decide +kernel) ?_
                refine stepS_list HR rfl rfl ?_
                intro K hK
                refine st_mid rfl 71 (.tmp 61) (.tmp 58) rfl 3 szVa g (j * 3) 71 _ [Value.int .i64 0, Value.int .i64 0, Value.string ⟨#[]⟩] rfl rfl HG4.out rfl H3.out (one_v _ _ _) ?_
                intro w5 hb5 hs5
                have hS5 : World.cell? w5 ⟨G, k, none⟩ = some (.slice (some ⟨g, 0, none⟩) l.length l.length) := by unfold World.cell? at hS ⊢; rw [hs5.block G (by omega)]; exact hS
                refine wpList_nil (hK _ _ hS5 ?_)
                clear hK K hS
                have hS := hS5
                have HB5 := Lib.hid hb5
                have HE5 := Lib.hid (hs5.below HE4.out (Nat.le_refl _))
                clear hb5 hs5 hS5
                go_simp
                refine wpS_take HR (i := 14) (v := .int .i64 0) rfl (by decide +kernel) (by decide +kernel) (by decide +kernel) (fun _ _ _ h => h) (by rfl) hS (fun W hW => by go_simp) ?_
                go_simp
                refine wpS_take HR (i := 15) (v := .int .i64 20) rfl (by decide +kernel) (by decide +kernel) (by decide +kernel) (fun _ _ _ h => h) (by rfl) hS (fun W hW => by go_simp) ?_
                go_simp
                refine wpS_done HR (by decide +kernel) ?_
                go_wp2
                refine bodyPost_ret (v := .tuple #[.slice none 0 0, .int .i64 0, .int .i64 52]) ?_ rfl (HNO.out _ (HE2.out.trans (HE5.out.mono hWg)))
                rw [results_tmp3 rfl]
                rfl
              | some y =>
                obtain ⟨v, q2⟩ := y
                have hstep : takeVs b p (j + 1) = some (r ++ [v], q2) := by simp only [takeVs]; rw [HTV.out]; simp only [htv2]
                have hset : setL ((r ++ List.replicate (l.length - j) zv).flatMap vlC) (j * 3) [Value.int .i64 v.kind, Value.int .i64 v.num, Value.string v.text] = (((r ++ [v]) ++ List.replicate (l.length - (j + 1)) zv).flatMap vlC) := by
                  have := flatV_set (c := v) (z := l.length - (j + 1)) hrj
                  rw [show l.length - (j + 1) + 1 = l.length - j by omega] at this
                  exact this
                rw [htv2] at htk
                simp only at htk
                unfold vlV at htk
                have HTKV := Lib.hid htk
                have HSTEP := Lib.hid hstep
                have HSET := Lib.hid hset
                clear htk htv2 hstep hset hrj hsl hG3 hWw hBd
                go_upto_region 14 with (fail)
                have hS : World.cell? wr.drew ⟨G, k, none⟩ = some (.slice (some ⟨g, 0, none⟩) l.length l.length) := hcell
                clear hcell
                refine wpS_start (fun w => World.cell? w ⟨G, k, none⟩ = some (.slice (some ⟨g, 0, none⟩) l.length l.length)) 16 (by kernel_rfl) rfl (fun RG HR => ?_)
                refine wpS_take HR (i := 0) (v := .slice (some ⟨G, 0, none⟩) n n) rfl (by decide +kernel) (by decide +kernel) (by decide +kernel) (fun _ _ _ h => h) (by rfl) hS (fun W hW => by go_simp) ?_
                go_simp
                refine wpS_take HR (i := 1) (v := .int .i64 (k : Int)) rfl (by decide +kernel) (by decide +kernel) (by decide +kernel) (fun _ _ _ h => h) (by rfl) hS (fun W hW => by go_simp) ?_
                go_simp
                refine wpS_take HR (i := 2) (v := .pointer (some ⟨G, k, none⟩)) rfl (by decide +kernel) (by decide +kernel) (by decide +kernel) (fun _ _ _ h => h) (by rfl) hS (fun W hW => by first | (go_simp; done) | (go_simp; intro hx; exact absurd hx (by omega)) | (go_simp; rw [if_pos ⟨by omega, by omega⟩]; done)) ?_
                go_simp
                refine wpS_take HR (i := 3) (v := .slice (some ⟨g, 0, none⟩) l.length l.length) rfl (by decide +kernel) (by decide +kernel) (by decide +kernel) (fun _ _ _ h => h) (by rfl) hS (fun W hW => by go_simp) ?_
                go_simp
                refine wpS_take HR (i := 4) (v := .int .i64 (j : Int)) rfl (by decide +kernel) (by decide +kernel) (by decide +kernel) (fun _ _ _ h => h) (by rfl) hS (fun W hW => by go_simp) ?_
                go_simp
                refine wpS_take HR (i := 5) (v := .slice B b.length bcap) rfl (by decide +kernel) (by decide +kernel) (by decide +kernel) (fun _ _ _ h => h) (by rfl) hS (fun W hW => by go_simp) ?_
                go_simp
                refine wpS_take HR (i := 6) (v := .int .i64 q) rfl (by decide +kernel) (by decide +kernel) (by decide +kernel) (fun _ _ _ h => h) (by rfl) hS (fun W hW => by go_simp) ?_
                go_simp
                refine wpS_step1 HR (i := 7) (by decide +kernel) ?_
                refine stepS_call HR rfl (by rfl) (by go_simp; exact ⟨rfl, rfl⟩) ?_
                refine HTKV.out.mono ?_
                rintro e w4 ⟨rfl, hb4⟩
                have hS4 : World.cell? w4 ⟨G, k, none⟩ = some (.slice (some ⟨g, 0, none⟩) l.length l.length) := cell_below hb4 hS
                refine ⟨_, rfl, hS4, ?_⟩
                clear hS
                have hS := hS4
                have HG4 := Lib.hid (HBD.out.below hb4 hgl3)
                have HE4 := Lib.hid (HBE3.out.drew.trans (hb4.mono (Nat.le_of_lt hgl3)))
                clear hb4 HTKV hS4
                go_simp
                refine wpS_take HR (i := 8) (v := .tuple #[.agg #[.int .i64 v.kind, .int .i64 v.num, .string v.text], .int .i64 q2, .int .i64 0]) rfl (by decide +kernel) (by decide +kernel) (by decide +kernel) (fun _ _ _ h => h) (by rfl) hS (fun W hW => by go_simp) ?_
                go_simp
                refine wpS_take HR (i := 9) (v := .agg #[.int .i64 v.kind, .int .i64 v.num, .string v.text]) rfl (by decide +kernel) (by decide +kernel) (by decide +kernel) (fun _ _ _ h => h) (by rfl) hS (fun W hW => by go_simp) ?_
                go_simp
                refine wpS_take HR (i := 10) (v := .int .i64 q2) rfl (by decide +kernel) (by decide +kernel) (by decide +kernel) (fun _ _ _ h => h) (by rfl) hS (fun W hW => by go_simp) ?_
                go_simp
                refine wpS_take HR (i := 11) (v := .int .i64 0) rfl (by decide +kernel) (by decide +kernel) (by decide +kernel) (fun _ _ _ h => h) (by rfl) hS (fun W hW => by go_simp) ?_
                go_simp
                refine wpS_take HR (i := 12) (v := .pointer (some ⟨g, j * 3, none⟩)) rfl (by decide +kernel) (by decide +kernel) (by decide +kernel) (fun _ _ _ h => h) (by rfl) hS (fun W hW => by first | (go_simp; done) | (go_simp; intro hx; exact absurd hx (by omega)) | (go_simp; rw [if_pos ⟨by omega, by omega⟩]; done)) ?_
                go_simp
                refine wpS_step1 HR (i := 13) (by decide +kernel) ?_
                refine stepS_list HR rfl rfl ?_
                intro K hK
                refine st_mid rfl 71 (.tmp 61) (.tmp 58) rfl 3 szVa g (j * 3) 71 _ [Value.int .i64 v.kind, Value.int .i64 v.num, Value.string v.text] rfl rfl HG4.out rfl H3.out (one_v _ _ _) ?_
                intro w5 hb5 hs5
                have hS5 : World.cell? w5 ⟨G, k, none⟩ = some (.slice (some ⟨g, 0, none⟩) l.length l.length) := by unfold World.cell? at hS ⊢; rw [hs5.block G (by omega)]; exact hS
                refine wpList_nil (hK _ _ hS5 ?_)
                clear hK K hS
                have hS := hS5
                have HB5 := Lib.hid hb5
                have HE5 := Lib.hid (hs5.below HE4.out (Nat.le_refl _))
                clear hb5 hs5 hS5
                go_simp
                refine wpS_take HR (i := 14) (v := .int .i64 q2) rfl (by decide +kernel) (by decide +kernel) (by decide +kernel) (fun _ _ _ h => h) (by rfl) hS (fun W hW => by go_simp) ?_
                go_simp
                refine wpS_take HR (i := 15) (v := .int .i64 0) rfl (by decide +kernel) (by decide +kernel) (by decide +kernel) (fun _ _ _ h => h) (by rfl) hS (fun W hW => by go_simp) ?_
                go_simp
                refine wpS_done HR (by decide +kernel) ?_
                go_wp2
                go_roundw
                case rel => exact ⟨j + 1, HJ.out, by go_num, r ++ [v], q2, HSTEP.out, rfl, by rw [← HSET.out]; exact HB5.out, HE5.out⟩
                case measure => have := HJ.out; simp [intOf]; omega
            · have hjq : j = l.length := by omega
              have hfit := fits1_any A (some ⟨g, 0, none⟩) cap l.length l r wr (HL.out.keep (HE2.out.trans (HBE3.out.mono hWg))) (vls_blk (by have := HBK3.out; rw [hjq, Nat.sub_self, List.replicate_zero, List.append_nil] at this; exact this)) hn (by have := HFV.out.1; omega)
              have hrl := HFV.out.1
              have htvq := HTV.out
              have hbkq := HBK3.out
              rw [hjq] at hrl htvq
              rw [hjq, Nat.sub_self, List.replicate_zero, List.append_nil] at hbkq
              rw [hrl] at hfit
              have hG3 := HB2.out.below HBE3.out hGg
              have hsl := HSL.out
              have hcell : wr.cell? ⟨G, k, none⟩ = some (.slice (some ⟨g, 0, none⟩) l.length l.length) := (hG3.at_ k).trans (by rw [List.getElem?_append_left (by simp; omega), List.getElem?_append_right (by omega), hsl, Nat.sub_self]; rfl)
              have hgl3 : g < wr.heap.size := lt_of_block HBK3.out
              have HG3 := Lib.hid hG3
              have HBKQ := Lib.hid hbkq
              cases hff : fitsL l r with
              | false =>
                have hno : takeRw l b at_ = none := by
                  rw [HTS.out, takeRs_none (k := k + 1) (by simp only [takeRs]; rw [HTK.out]; simp only [htvq, hff]; simp) n hlt]
                have HNO := Lib.hid (fun W' (h : Below W.heap.size W W') => tookrw_no hno HE.out h)
                rw [hff] at hfit
                have HF := Lib.hid hfit
                clear hfit hff hno hrl htvq hbkq hG3 hsl
                subst hjq
                go_wp2_with (first | (go_at_call 32; refine HF.out.mono ?_; rintro e w4 ⟨rfl, hb⟩; have HE4 := Lib.hid (HBE3.out.trans (hb.mono (by omega))); clear hb HF))
                refine bodyPost_ret (v := .tuple #[.slice none 0 0, .int .i64 0, .int .i64 52]) ?_ rfl (HNO.out _ (HE2.out.trans (HE4.out.mono hWg)))
                rw [results_tmp3 rfl]
                rfl
              | true =>
                have hstepr : takeRs l b at2 (k + 1) = some (rs ++ [r], q) := by simp only [takeRs]; rw [HTK.out]; simp only [htvq, hff]; simp
                rw [hff] at hfit
                have HF := Lib.hid hfit
                have HSTEPR := Lib.hid hstepr
                clear hfit hff hstepr hrl htvq hbkq hG3 hsl
                subst hjq
                go_wp2_with (first | (go_at_call 32; refine HF.out.mono ?_; rintro e w4 ⟨rfl, hb⟩; have HE4 := Lib.hid (HBE3.out.trans (hb.mono (by omega))); have HG4 := Lib.hid (HG3.out.below hb (by omega)); have HQ4 := Lib.hid (HBKQ.out.below hb hgl3); clear hb HF))
                go_roundw
                case rel =>
                  refine ⟨k + 1, HK.out, by go_num, rs ++ [r], q, sl ++ [.slice (some ⟨g, 0, none⟩) l.length l.length], HSTEPR.out, rfl, by have := HSL.out; simp; omega, HG4.out, fun i hi => ?_, HE2.out.trans (HE4.out.mono hWg)⟩
                  have hsl := HSL.out
                  have hrl := HFR.out.1
                  by_cases hi2 : i < rs.length
                  · obtain ⟨g', e1, e2, e3, e4⟩ := HR2.out i hi2
                    refine ⟨g', by rw [List.getElem?_append_left (by omega)]; exact e1, e2, ?_⟩
                    rw [List.getElem_append_left hi2]
                    exact e4.below HE4.out e3
                  · obtain rfl : i = rs.length := by simp at hi; omega
                    refine ⟨g, by rw [List.getElem?_append_right (by omega), show rs.length - sl.length = 0 by omega]; rfl, hGg, ?_⟩
                    rw [List.getElem_concat_length rfl]
                    exact HQ4.out
                case measure => have := HK.out; simp [intOf]; omega
        · obtain rfl : k = n := by omega
          have hfin : takeRw l b at_ = some (rs, p) := by rw [HTS.out, HTK.out]
          have hrw : Rws wr (some ⟨G, 0, none⟩) rs := fun i hi => by
            obtain ⟨g, e, hgG, hbg⟩ := HROWS.out i hi
            have hfit : rs[i].length = l.length ∧ rs[i].length ≤ 16 := by
              have hff := (fitsL_at (takeRs_fits HTK.out rs[i] (List.getElem_mem hi))).1
              exact ⟨hff, by rw [hff]; exact HNL.out.2⟩
            refine ⟨G, 0, some ⟨g, 0, none⟩, l.length, rfl, ?_, vls_blk hbg, by omega⟩
            rw [Nat.zero_add, HBLK.out.at_, List.getElem?_append_left (by have := HSL.out; have := HFR.out.1; omega), e, hfit.1]
          have HYES : Hid (TookRw W l b at_ (.returned (.tuple #[.slice (some ⟨G, 0, none⟩) k k, .int .i64 p, .int .i64 0])) wr) := tookrw_yes hfin HFR.out.1 hrw (by simp) (Nat.le_refl _) HBEL.out
          clear hfin hrw hsl
          go_wp2
          refine bodyPost_ret (v := .tuple #[.slice (some ⟨G, 0, none⟩) k k, .int .i64 p, .int .i64 0]) ?_ rfl HYES.out
          rw [results_tmp3 rfl]
          rfl
end Go.Proofs.YtabnjiepmhblaaaDoor

/-! Rows that are appended: laws. -/
namespace Go.Proofs.YtabnjiepmhblaaaDoor
open Go.RowKit Go.Shelf Go.Maps
set_option linter.unusedVariables false

def OwnV (w : World) (B : Nat) (v : Value) (l : List Vl) : Prop := w.ownsRow B 71 3 v l.length (l.flatMap vlC)
def OwnR (w : World) (B : Nat) (v : Value) (l : List Value) : Prop := w.ownsRow B 68 1 v l.length l
/-- Values in memory, in a block of values. -/
def VlsT (w : World) (A : Option Addr) (l : List Vl) : Prop := Vls w A l ∧ ∀ b o s, A = some ⟨b, o, s⟩ → ∃ cur : Array Value, w.heap[b]? = some (.cells cur 71 (0, 0))
theorem OwnV.form {w : World} {B : Nat} {v : Value} {l : List Vl} (h : OwnV w B v l) : ∃ A c, v = .slice A l.length c ∧ VlsT w A l ∧ (A = none → c = 0) ∧ l.length ≤ c := by
  obtain ⟨A, c, e, hA, hc, _, hcl⟩ := row_form h
  refine ⟨A, c, e, ⟨?_, ?_⟩, fun h => (hA h).1, hc⟩
  · intro k hk
    have a0 := flatV_at l k 0 hk (by omega)
    have a1 := flatV_at l k 1 hk (by omega)
    have a2 := flatV_at l k 2 hk (by omega)
    obtain ⟨g, e0, b0⟩ := hcl _ _ a0
    obtain ⟨g1, e1, b1⟩ := hcl _ _ a1
    obtain ⟨g2, e2, b2⟩ := hcl _ _ a2
    subst e0
    injection e1 with e1
    injection e1 with e1
    injection e2 with e2
    injection e2 with e2
    subst e1 e2
    exact ⟨g, 0, rfl, by rw [Nat.zero_add]; exact b0, by rw [Nat.zero_add]; exact b1, by rw [Nat.zero_add]; exact b2⟩
  · intro b o s eA
    subst e eA
    rcases h.2 with ⟨h0, _⟩ | ⟨g', cap, cur, h0, hb, hg3, _⟩
    · cases h0
    · injection h0 with h0
      injection h0 with h0
      injection h0 with h0
      subst h0
      exact ⟨cur, hg3⟩
theorem VlsT.keep {w w' : World} {A : Option Addr} {l : List Vl} (h : VlsT w A l) (hb : Below w.heap.size w w') : VlsT w' A l := by
  refine ⟨h.1.keep hb, fun b o s e => ?_⟩
  obtain ⟨cur, hc⟩ := h.2 b o s e
  exact ⟨cur, (hb.block b (Array.getElem?_eq_some_iff.1 hc).1).trans hc⟩
theorem VlsT.grown {w w' : World} {A : Option Addr} {l : List Vl} {B : Nat} {v : Value} {sl : List Value} (h : VlsT w A l) (ho : OwnR w B v sl) (hg : w.grownBy w' v.ownBlock) : VlsT w' A l := by
  have hk : ∀ b o s, A = some ⟨b, o, s⟩ → w'.heap[b]? = w.heap[b]? := fun b o s e => by
    obtain ⟨cur, hc⟩ := h.2 b o s e
    refine hg.block b (Array.getElem?_eq_some_iff.1 hc).1 fun ej => ?_
    obtain ⟨cur2, hc2, _⟩ := row_at ho ej.symm
    rw [hc] at hc2
    simp only [Option.some.injEq, Obj.cells.injEq] at hc2
    exact absurd hc2.2.1 (by decide)
  refine ⟨fun k hk2 => ?_, fun b o s e => ?_⟩
  · obtain ⟨b, o, e, c0, c1, c2⟩ := h.1 k hk2
    have hh := hk b o none e
    refine ⟨b, o, e, ?_, ?_, ?_⟩
    · unfold World.cell? at c0 ⊢; rw [hh]; exact c0
    · unfold World.cell? at c1 ⊢; rw [hh]; exact c1
    · unfold World.cell? at c2 ⊢; rw [hh]; exact c2
  · obtain ⟨cur, hc⟩ := h.2 b o s e
    exact ⟨cur, (hk b o s e).trans hc⟩
theorem app_val {ops : Array Oper} {rest : List Oper} {o : Oper} {a : Act} {Q : Exit → Act → World → Prop} {w : World} (w0 : World) (hgd : o.guard = none) (s x : Operand)
    (ho : o.op = .call { callee := .builtin .append, args := #[s, x], argTypes := #[68, 68] }) (v : Value) (d : List Vl) (hs : a.eval s = v) (hown : OwnV w w0.heap.size v d) (hbel : Below w0.heap.size w0 w)
    (g c : Nat) (q : Vl) (hx : a.eval x = .slice (some ⟨g, 0, none⟩) 1 c) (hq : Blk w g 71 (vlC q)) (hsz : d.length ≤ 4000)
    (h : ∀ v' w', OwnV w' w0.heap.size v' (d ++ [q]) → Below w0.heap.size w0 w' → wpList Tryd.prog ops Q rest (a.put o.dst v') w') : wpList Tryd.prog ops Q (o :: rest) a w := by
  obtain ⟨i0, hti, hz0, hz1, hz2⟩ := info_parts info_val
  refine wpList_append_own w hgd s x 68 ho w0.heap.size 71 i0 _ 3 32 Tryd.underlying68 hti hz0 hz1 hz2 rfl (by decide) v d.length (d.flatMap vlC) hs hown ⟨g, 0, none⟩ 1 c (vlC q) hx rfl
    (fun j u hj => by rw [Addr.add_lit, Nat.zero_add, hq.at_]; exact hj) (one_v _ _ _) (by unfold maxLen; omega) (by omega) hbel.size ?_
  intro v' w' h1 h2 h5
  refine h v' w' ?_ (hbel.grown h2 hbel.size (fun k hk => (World.ownsRow.lt hown k hk).1))
  show w'.ownsRow w0.heap.size 71 3 v' (d ++ [q]).length ((d ++ [q]).flatMap vlC)
  rw [List.length_append, List.flatMap_append, List.flatMap_cons, List.flatMap_nil, List.append_nil]
  exact h1
theorem app_row {ops : Array Oper} {rest : List Oper} {o : Oper} {a : Act} {Q : Exit → Act → World → Prop} {w : World} (w0 : World) (hgd : o.guard = none) (s x : Operand)
    (ho : o.op = .call { callee := .builtin .append, args := #[s, x], argTypes := #[31, 31] }) (v : Value) (d : List Value) (hs : a.eval s = v) (hown : OwnR w w0.heap.size v d) (hbel : Below w0.heap.size w0 w)
    (g c : Nat) (Aq : Option Addr) (nq cq : Nat) (hx : a.eval x = .slice (some ⟨g, 0, none⟩) 1 c) (hq : Blk w g 68 [.slice Aq nq cq]) (hsz : d.length ≤ 4000)
    (h : ∀ v' w', OwnR w' w0.heap.size v' (d ++ [.slice Aq nq cq]) → Below w0.heap.size w0 w' → w.grownBy w' v.ownBlock → wpList Tryd.prog ops Q rest (a.put o.dst v') w') : wpList Tryd.prog ops Q (o :: rest) a w := by
  obtain ⟨i0, hti, hz0, hz1, hz2⟩ := info_parts info_row
  refine wpList_append_own w hgd s x 31 ho w0.heap.size 68 i0 _ 1 24 Tryd.underlying31 hti hz0 hz1 hz2 rfl (by decide) v d.length d hs hown ⟨g, 0, none⟩ 1 c [.slice Aq nq cq] hx rfl
    (fun j u hj => by rw [Addr.add_lit, Nat.zero_add, hq.at_]; exact hj) (fun u hu => by simp at hu; subst hu; rfl) (by unfold maxLen; omega) (by omega) hbel.size ?_
  intro v' w' h1 h2 h5
  refine h v' w' ?_ (hbel.grown h2 hbel.size (fun k hk => (World.ownsRow.lt hown k hk).1)) h2
  show w'.ownsRow w0.heap.size 68 1 v' (d ++ [Value.slice Aq nq cq]).length (d ++ [Value.slice Aq nq cq])
  rw [List.length_append]
  exact h1
end Go.Proofs.YtabnjiepmhblaaaDoor

/-! The document's TakeRows. -/
namespace Go.Proofs.YtabnjiepmhblaaaDoor
open Go.RowKit Go.Shelf Go.Maps
set_option linter.unusedVariables false

end Go.Proofs.YtabnjiepmhblaaaDoor

/-! The walk of SchemaRows. -/
namespace Go.Proofs.YtabnjiepmhblaaaDoor
open Go.RowKit Go.Shelf Go.Maps
set_option linter.unusedVariables false

def TakeRU (W0 W : World) (R : List (List Vl)) (p ec : Int) (e : Ending) (W' : World) : Prop := ∃ A c, e = .returned (.tuple #[.slice A R.length c, .int .i64 p, .int .i64 ec]) ∧ Rws W' A R ∧ Below W0.heap.size W0 W' ∧ Below W.heap.size W W'
def trR (cols : List Col) (l : List UInt8) (at_ : Int) : List (List Vl) := match takeRw cols l at_ with | some (r, _) => r | none => []
def trP (cols : List Col) (l : List UInt8) (at_ : Int) : Int := match takeRw cols l at_ with | some (_, p) => p | none => 0
def trE (cols : List Col) (l : List UInt8) (at_ : Int) : Int := match takeRw cols l at_ with | some _ => 0 | none => rwE cols
theorem TookRw.u {W0 W : World} {cols : List Col} {l : List UInt8} {at_ : Int} {e : Ending} {W' : World} (h0 : Below W0.heap.size W0 W) (h : TookRw W cols l at_ e W') : TakeRU W0 W (trR cols l at_) (trP cols l at_) (trE cols l at_) e W' := by
  unfold TookRw at h
  unfold trR trP trE
  cases ht : takeRw cols l at_ with
  | none =>
    rw [ht] at h
    exact ⟨none, 0, h.1, fun k hk => by simp at hk, h0.trans (h.2.mono h0.size), h.2⟩
  | some x =>
    obtain ⟨r, p⟩ := x
    rw [ht] at h
    obtain ⟨A, c, he, hc, _, _, hb⟩ := h
    exact ⟨A, c, he, hc, h0.trans (hb.mono h0.size), hb⟩
theorem trR_len (cols : List Col) (l : List UInt8) (at_ : Int) : (trR cols l at_).length ≤ 1024 := by
  unfold trR takeRw
  by_cases hr : rightC cols = false
  · rw [if_pos hr]; simp
  · rw [if_neg hr]
    cases ht : takeO l at_ with
    | none => simp
    | some x =>
      obtain ⟨n, c⟩ := x
      simp only
      by_cases h16 : 1024 < n
      · rw [if_pos h16]; simp
      · rw [if_neg h16]
        have h0 := takeO_in ht
        cases h2 : takeRs cols l (at_ + c) n with
        | none => simp
        | some y =>
          obtain ⟨r, p⟩ := y
          have := (takeRs_form h0.2 h2).1
          simp only
          omega
theorem LayU.more {W0 W : World} {D : List UInt8} {ec : Int} {e : Ending} {W' : World} (h0 : Below W0.heap.size W0 W) (h : LayU W W D ec e W') : LayU W0 W D ec e W' := by
  obtain ⟨A, c, he, hy, hb, _⟩ := h
  exact ⟨A, c, he, hy, h0.trans (hb.mono h0.size), hb⟩

end Go.Proofs.YtabnjiepmhblaaaDoor

/-! Rows that came in. -/
namespace Go.Proofs.YtabnjiepmhblaaaDoor
open Go.RowKit Go.ChangeShapes Go.WideShapes Go.Deep
set_option maxRecDepth 100000
set_option linter.unusedVariables false

theorem bytesRo : 1 ≤ Tryd.prog.bytesOf 68 := of_decide_eq_true (by kernel_rfl)
theorem cellsRo : Tryd.prog.cellsOf 68 = 1 := by kernel_rfl
section
variable {H : Type} {enc : TypeId × Value → H} {W : World} {v : Value} {d : DataW H} {p : List MemPlace} {base : Nat}
theorem vals_of {fuel : Nat} {cs : List Value} {x : DataW H × List MemPlace} (hf : DataW.trod enc Tryd.prog W 0 (fun _ => true) true fuel 68 cs = some x) (hz : ∀ n ∈ x.1.weights Tryd.prog 68, n ≤ reachBytes) :
    ∃ (A : Option Addr) (cap : Nat) (l : List Vl), cs = [.slice A l.length cap] ∧ Vls W A l ∧ l.length ≤ 140737488351232 := by
  rcases open_slice Tryd.underlying68 hf with ⟨hcs, _⟩ | ⟨a, len, cap, m, n, D, Pl, hcs, hb, hl, hm, hmm, hx, hi⟩
  · exact ⟨none, 0, [], hcs, fun k hk => by simp at hk, by simp⟩
  · simp only [if_true] at hmm
    subst hmm
    subst hx
    have hw0 := hz ((((List.range len).map D).length + ((List.range (m - len)).map fun j => D (len + j)).length) * Tryd.prog.bytesOf 71) (by simp [DataW.weights, Tryd.underlying68])
    have hcap : m ≤ 140737488351232 := by
      simp only [List.length_map, List.length_range] at hw0
      rw [show len + (m - len) = m by omega] at hw0
      have hb1 := bytesVa
      generalize Tryd.prog.bytesOf 71 = bz at hw0 hb1
      have hr : reachBytes = 140737488351232 := by decide
      rw [hr] at hw0
      exact Nat.le_trans (Nat.le_mul_of_pos_right _ hb1) hw0
    have hsp : 0 < len → a.spot = none := fun h0 => by
      obtain ⟨i0, hi0⟩ : ∃ i0 : Nat, i0 = 0 := ⟨0, rfl⟩
      obtain ⟨cs', hc, _⟩ := hi i0 (by omega)
      rw [cellsVa] at hc
      obtain ⟨_, hcl, hat⟩ := World.cells?_some hc
      have c0 := hat 0 (by omega)
      rw [List.getElem?_eq_getElem (by omega)] at c0
      subst hi0
      simpa [Addr.add] using World.cell?_spot c0
    have hel : ∀ i, i < len → ∃ c : Vl, ∃ o, a = ⟨a.block, o, none⟩ ∧ VlAt W a.block (o + i * 3) c := by
      intro i hi0
      obtain ⟨cs', hc, ht'⟩ := hi i (by omega)
      rw [cellsVa] at hc
      obtain ⟨_, hcl, hat⟩ := World.cells?_some hc
      obtain ⟨y0, y1, y2, n', hy, _, g0, g1, g2⟩ := trod_struct3 Tryd.underlying71 ht'
      match cs', hcl with
      | [x0, x1, x2], _ =>
        obtain ⟨k, e0, _, _⟩ := DataW.trod_int Tryd.underlying3 g0
        obtain ⟨j, e1, _, wj⟩ := DataW.trod_int Tryd.underlying2 g1
        obtain ⟨s, e2, _, hs⟩ := DataW.trod_string Tryd.underlying9 g2
        simp [cellsS, cellsI, cellsJ] at e0 e1 e2
        subst e0 e1 e2
        have c0 := hat 0 (by omega)
        have c1 := hat 1 (by omega)
        have c2 := hat 2 (by omega)
        obtain ⟨ab, ao, sp⟩ := a
        obtain rfl : sp = none := hsp (by omega)
        rw [Addr.add_lit, Addr.add_lit] at c0 c1 c2
        exact ⟨⟨k, j, s, hs, (lit_i64 wj).1, (lit_i64 wj).2⟩, ao, rfl, c0, c1, c2⟩
    obtain ⟨l, hl2, hp⟩ := list_of (fun i c => ∃ o, a = ⟨a.block, o, none⟩ ∧ VlAt W a.block (o + i * 3) c) len hel
    refine ⟨some a, m, l, by rw [hl2]; exact hcs, fun k hk => ?_, by omega⟩
    obtain ⟨o, e, hc⟩ := hp k hk
    exact ⟨a.block, o, by rw [← e], hc⟩
theorem rows_open (hv : Value.okWide Tryd.prog W .any base 31 v) (h : DataW.Trod enc Tryd.prog W 0 (fun _ => true) true 31 v d p) (hz : ∀ n ∈ d.weights Tryd.prog 31, n ≤ reachBytes) :
    ∃ (A : Option Addr) (cap : Nat) (l : List (List Vl)), v = .slice A l.length cap ∧ Rws W A l ∧ (A = none → cap = 0) ∧ l.length ≤ cap ∧ cap ≤ 140737488351232 := by
  obtain ⟨a0, len0, cap0, rfl⟩ := okWide_slice Tryd.underlying31 hv
  obtain ⟨fuel, hf⟩ := h
  rcases open_slice Tryd.underlying31 hf with ⟨hcs, _⟩ | ⟨a, len, cap, m, n, D, Pl, hcs, hb, hl, hm, hmm, hx, hi⟩
  · simp [Value.cells] at hcs
    obtain ⟨rfl, rfl, rfl⟩ := hcs
    exact ⟨none, 0, [], rfl, fun k hk => by simp at hk, fun _ => rfl, Nat.le_refl _, by omega⟩
  · simp [Value.cells] at hcs
    obtain ⟨rfl, rfl, rfl⟩ := hcs
    simp only [if_true] at hmm
    subst hmm
    obtain ⟨hd, _⟩ := Prod.mk.inj hx
    subst hd
    have hw0 := hz ((((List.range len0).map D).length + ((List.range (m - len0)).map fun j => D (len0 + j)).length) * Tryd.prog.bytesOf 68) (by simp [DataW.weights, Tryd.underlying31])
    have hcap : m ≤ 140737488351232 := by
      simp only [List.length_map, List.length_range] at hw0
      rw [show len0 + (m - len0) = m by omega] at hw0
      have hb1 := bytesRo
      generalize Tryd.prog.bytesOf 68 = bz at hw0 hb1
      have hr : reachBytes = 140737488351232 := by decide
      rw [hr] at hw0
      exact Nat.le_trans (Nat.le_mul_of_pos_right _ hb1) hw0
    have hsp : 0 < len0 → a.spot = none := fun h0 => by
      obtain ⟨i0, hi0⟩ : ∃ i0 : Nat, i0 = 0 := ⟨0, rfl⟩
      obtain ⟨cs', hc, _⟩ := hi i0 (by omega)
      rw [cellsRo] at hc
      obtain ⟨_, hcl, hat⟩ := World.cells?_some hc
      have c0 := hat 0 (by omega)
      rw [List.getElem?_eq_getElem (by omega)] at c0
      subst hi0
      simpa [Addr.add] using World.cell?_spot c0
    have hel : ∀ i, i < len0 → ∃ r : List Vl, ∃ o Ar cr, a = ⟨a.block, o, none⟩ ∧ W.cell? ⟨a.block, o + i, none⟩ = some (.slice Ar r.length cr) ∧ Vls W Ar r ∧ r.length ≤ 140737488351232 := by
      intro i hi0
      obtain ⟨cs', hc, ht'⟩ := hi i (by omega)
      rw [cellsRo] at hc
      obtain ⟨_, hcl, hat⟩ := World.cells?_some hc
      obtain ⟨Ar, cr, r, e, hvr, hrn⟩ := vals_of ht' (fun w hw => hz w (by
        simp only [DataW.weights, Tryd.underlying31, List.mem_cons, List.mem_append]
        exact .inr (.inl (weights_of (d := D i) (List.mem_map.2 ⟨i, List.mem_range.2 hi0, rfl⟩) _ hw))))
      have c0 := hat 0 (by omega)
      rw [e] at c0
      obtain ⟨ab, ao, sp⟩ := a
      obtain rfl : sp = none := hsp (by omega)
      rw [Addr.add_lit, Addr.add_lit, Nat.mul_one, Nat.add_zero] at c0
      exact ⟨r, ao, Ar, cr, rfl, c0, hvr, hrn⟩
    obtain ⟨l, hl2, hp⟩ := list_of (fun i r => ∃ o Ar cr, a = ⟨a.block, o, none⟩ ∧ W.cell? ⟨a.block, o + i, none⟩ = some (.slice Ar r.length cr) ∧ Vls W Ar r ∧ r.length ≤ 140737488351232) len0 hel
    refine ⟨some a, m, l, by rw [hl2], fun k hk => ?_, by simp, by omega, hcap⟩
    obtain ⟨o, Ar, cr, e, hc, hvr, hrn⟩ := hp k hk
    exact ⟨a.block, o, Ar, cr, by rw [← e], hc, hvr, hrn⟩
end
end Go.Proofs.YtabnjiepmhblaaaDoor
