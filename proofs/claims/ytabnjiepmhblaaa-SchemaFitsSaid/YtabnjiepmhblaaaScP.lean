/- The program's Fits; the walks of SchemaFits and SchemaParts. -/
import Derived.Test.YtabnjiepmhblaaaScL
import Derived.Test.YtabnjiepmhblaaaScN
import Derived.Test.YtabnjiepmhblaaaScF
import Derived.Test.YtabnjiepmhblaaaScJ
namespace Go.Proofs.Ytabnjiepmhblaaa
open Go.RowKit Go.Shelf Go.Maps
set_option linter.unusedVariables false

set_option maxHeartbeats 2000000 in
theorem fits_any (A B : Option Addr) (cap rcap : Nat) (l : List Col) (r : List Vl) (W : World) (hl : Cols W A l) (hr : Vls W B r) (hn : l.length ≤ 4000000000000000000) (hm : r.length ≤ 4000000000000000000) :
    Calls Try.prog 11 #[.slice A l.length cap, .slice B r.length rcap] W fun e W' => e = .returned (.bool (rightC l && fitsL l r)) ∧ Below W.heap.size W W' := by
  have HRI := Lib.hid (right_any A cap l W hl hn)
  have HFI := Lib.hid (fun w1 (h : Below W.heap.size W w1) => fits1_any A B cap rcap l r w1 (hl.keep h) (hr.keep h) hn hm)
  generalize rightC l = x at *
  generalize fitsL l r = y at *
  clear hl hr
  generalize l.length = n at *
  generalize r.length = m at *
  cases x with
  | false =>
    go_enter Try.func11, Try.ntmps11
    go_wp2_with (first | (go_at_call 9; refine HRI.out.mono ?_; rintro e w1 ⟨rfl, hb1⟩; have HB1 := Lib.hid hb1; clear hb1 HRI))
    go_ret
    exact ⟨rfl, HB1.out⟩
  | true =>
    go_enter Try.func11, Try.ntmps11
    go_wp2_with (first | (go_at_call 9; refine HRI.out.mono ?_; rintro e w1 ⟨rfl, hb1⟩; have HB1 := Lib.hid hb1; clear hb1 HRI) | (go_at_call 30; refine (HFI.out _ HB1.out).mono ?_; rintro e w2 ⟨rfl, hb2⟩; have HB2 := Lib.hid (HB1.out.trans (hb2.mono HB1.out.size)); clear hb2 HFI))
    go_ret
    exact ⟨by simp, HB2.out⟩

theorem further {W w1 : World} {P : Ending → Prop} {e : Ending} {w' : World} (h : Below W.heap.size W w1) (k : P e ∧ Below w1.heap.size w1 w') : P e ∧ Below W.heap.size W w' := ⟨k.1, h.trans (k.2.mono h.size)⟩

set_option maxHeartbeats 4000000 in
/-- The walk of SchemaFits. -/
theorem lawfits_any (A B : Option Addr) (cap rcap : Nat) (l : List Col) (r : List Vl) (s : ByteArray) (W : World) (hl : Cols W A l) (hr : Vls W B r) (hn : l.length ≤ 140737488351232) (hm : r.length ≤ 140737488351232) (hs : s.size ≤ 140737488351232) :
    Calls Try.prog 3 #[.slice A l.length cap, .slice B r.length rcap, .string s] W fun e W' => e = .returned (.bool true) ∧ Below W.heap.size W W' := by
  have H0 := Lib.hid (shown5_any W)
  have H1 := Lib.hid (fun w1 (h : Below W.heap.size W w1) => (right_any A cap l w1 (hl.keep h) (by omega)).mono fun e w' => further (P := fun e => e = _) h)
  have H2 := Lib.hid (fun w1 (h : Below W.heap.size W w1) => refrightC_any A cap l w1 (hl.keep h) (by omega))
  have H3 := Lib.hid (fun w1 (h : Below W.heap.size W w1) => (fits_any A B cap rcap l r w1 (hl.keep h) (hr.keep h) (by omega) (by omega)).mono fun e w' => further (P := fun e => e = _) h)
  have H4 := Lib.hid (fun w1 (h : Below W.heap.size W w1) => (reffits_any A B cap rcap l r w1 (hl.keep h) (hr.keep h) (by omega) (by omega)).mono fun e w' => further (P := fun e => e = _) h)
  have H5 := Lib.hid (fun w1 (h : Below W.heap.size W w1) => (find_any A cap l s w1 (hl.keep h) (by omega)).mono fun e w' => further (P := fun e => e = _) h)
  have H6 := Lib.hid (fun w1 (h : Below W.heap.size W w1) => reffind_any A cap l s w1 (hl.keep h) (by omega))
  have H7 := Lib.hid (fun w1 => isname_any s w1)
  have H8 := Lib.hid (fun w1 => refisname_any s w1 (by omega))
  generalize (rightC l && fitsL l r) = y at *
  generalize rightC l = x at *
  generalize findC l s.data.toList = f at *
  generalize nameL s.data.toList = nm at *
  clear hl hr
  generalize l.length = n at *
  generalize r.length = m at *
  go_enter Try.func3, Try.ntmps3
  go_wp2_with (first | (go_at_call 8; refine H0.out.mono ?_; rintro e w1 ⟨rfl, hb⟩; have B1 := Lib.hid hb; clear hb H0) | (go_at_call 9; refine (H1.out _ B1.out).mono ?_; rintro e w2 ⟨rfl, hb⟩; have B2 := Lib.hid hb; clear hb H1) | (go_at_call 10; refine (H2.out _ B2.out).mono ?_; rintro e w3 ⟨rfl, rfl⟩; clear H2) | (go_at_call 11; refine (H3.out _ B2.out).mono ?_; rintro e w4 ⟨rfl, hb⟩; have B4 := Lib.hid hb; clear hb H3) | (go_at_call 12; refine (H4.out _ B4.out).mono ?_; rintro e w5 ⟨rfl, hb⟩; have B5 := Lib.hid hb; clear hb H4) | (go_at_call 13; refine (H5.out _ B5.out).mono ?_; rintro e w6 ⟨rfl, hb⟩; have B6 := Lib.hid hb; clear hb H5) | (go_at_call 14; refine (H6.out _ B6.out).mono ?_; rintro e w7 ⟨rfl, rfl⟩; clear H6) | (go_at_call 15; refine (H7.out _).mono ?_; rintro e w8 ⟨rfl, rfl⟩; clear H7) | (go_at_call 16; refine (H8.out _).mono ?_; rintro e w9 ⟨rfl, rfl⟩; clear H8))
  go_ret
  exact ⟨rfl, B6.out⟩

/-- What SchemaParts gathers. -/
def partL (l : List Col) (r : List Vl) (k : Nat) : Bool := decide (r.length = l.length) && ((List.zip l r).take k).all fun p => vfit p.1 p.2
theorem partL_zero (l : List Col) (r : List Vl) : partL l r 0 = decide (r.length = l.length) := by simp [partL]
theorem partL_succ {l : List Col} {r : List Vl} {k : Nat} (h1 : k < l.length) (h2 : k < r.length) : partL l r (k + 1) = (partL l r k && vfit l[k] r[k]) := by
  unfold partL
  rw [List.take_add_one, List.all_append, List.getElem?_eq_getElem (by simp; omega), List.getElem_zip]
  simp [Bool.and_assoc]
theorem partL_end {l : List Col} {r : List Vl} {k : Nat} (h : ¬ (k < r.length ∧ k < l.length)) : partL l r k = fitsL l r := by
  unfold partL fitsL
  rw [List.take_of_length_le (by simp; omega)]
theorem right_one {c : Col} (h : colOk c = true) : rightC [c] = true := by
  unfold rightC
  simp [h, namesL]
theorem fits_one (c : Col) (v : Vl) : fitsL [c] [v] = vfit c v := by simp [fitsL]

theorem Cols.one {w : World} {b o : Nat} {l : List Col} {k : Nat} (h : Cols w (some ⟨b, o, none⟩) l) (hk : k < l.length) : Cols w (some ⟨b, o + k * 3, none⟩) [l[k]] := by
  intro j hj
  match j, hj with
  | 0, _ =>
    obtain ⟨b', o', e, hc⟩ := h k hk
    simp only [Option.some.injEq, Addr.mk.injEq, and_true] at e
    obtain ⟨rfl, rfl⟩ := e
    exact ⟨_, _, rfl, by simpa using hc⟩
theorem Vls.one {w : World} {b o : Nat} {l : List Vl} {k : Nat} (h : Vls w (some ⟨b, o, none⟩) l) (hk : k < l.length) : Vls w (some ⟨b, o + k * 3, none⟩) [l[k]] := by
  intro j hj
  match j, hj with
  | 0, _ =>
    obtain ⟨b', o', e, hc⟩ := h k hk
    simp only [Option.some.injEq, Addr.mk.injEq, and_true] at e
    obtain ⟨rfl, rfl⟩ := e
    exact ⟨_, _, rfl, by simpa using hc⟩

set_option maxRecDepth 100000 in
set_option maxHeartbeats 8000000 in
/-- The walk of SchemaParts. -/
theorem lawparts_any (A B : Option Addr) (cap rcap : Nat) (l : List Col) (r : List Vl) (W : World) (hl : Cols W A l) (hr : Vls W B r) (hn : l.length ≤ 140737488351232) (hm : r.length ≤ 140737488351232) (hlc : l.length ≤ cap) (hrc : r.length ≤ rcap) :
    Calls Try.prog 7 #[.slice A l.length cap, .slice B r.length rcap] W fun e W' => e = .returned (.bool true) ∧ Below W.heap.size W W' := by
  have H0 := Lib.hid (shown5_any W)
  have H1 := Lib.hid (fun w1 (h : Below W.heap.size W w1) => (right_any A cap l w1 (hl.keep h) (by omega)).mono fun e w' => further (P := fun e => e = _) h)
  by_cases hgo : rightC l = true ∧ r.length ≤ 100
  · obtain ⟨hri, hm1⟩ := hgo
    have H3 := Lib.hid (fun w1 (h : Below W.heap.size W w1) => (fits_any A B cap rcap l r w1 (hl.keep h) (hr.keep h) (by omega) (by omega)).mono fun e w' => further (P := fun e => e = _) h)
    have hok := cols_ok hri
    rw [hri, Bool.true_and] at H3
    rw [hri] at H1
    have HL := Lib.hid hl
    have HV := Lib.hid hr
    have HOK := Lib.hid hok
    obtain ⟨n, hn2⟩ : ∃ n, l.length = n := ⟨_, rfl⟩
    obtain ⟨m, hm2⟩ : ∃ m, r.length = m := ⟨_, rfl⟩
    have hp0 := partL_zero l r
    have hpe : ∀ k, ¬ (k < m ∧ k < n) → partL l r k = fitsL l r := fun k h => partL_end (by rw [hm2, hn2]; exact h)
    rw [hn2, hm2] at hp0
    rw [hn2] at H1
    rw [hn2, hm2] at H3
    rw [hn2] at hn hlc
    rw [hm2] at hm hm1 hrc
    have hq : (decide (m = n)) = (((m : Nat) : Int) == ((n : Nat) : Int)) := by
      by_cases e : m = n
      · subst e; simp
      · rw [decide_eq_false e]; symm; rw [beq_eq_false_iff_ne]; omega
    rw [hq] at hp0
    rw [hn2, hm2]
    generalize hfl : fitsL l r = fl at H3 hpe
    have HP0 := Lib.hid hp0
    have HPE := Lib.hid hpe
    have HN := Lib.hid hn2
    have HM := Lib.hid hm2
    clear hl hr hok hp0 hpe hn2 hm2 hri hq hfl
    have hm3 : ¬ ((100 : Int) < m) := by omega
    go_enter Try.func7, Try.ntmps7
    go_wp2_with (first | (go_at_call 8; refine H0.out.mono ?_; rintro e w1 ⟨rfl, hb⟩; have B1 := Lib.hid hb; clear hb H0) | (go_at_call 9; refine (H1.out _ B1.out).mono ?_; rintro e w2 ⟨rfl, hb⟩; have B2 := Lib.hid hb; clear hb H1))
    go_loopw [6, 7] (fun v i wr => ∃ k : Nat, k ≤ m ∧ i = .int .i64 k ∧ v = .bool (partL l r k) ∧ Below W.heap.size W wr) (fun _ i _ => m - (intOf i).toNat)
    case atStart => exact ⟨0, by omega, rfl, by rw [HP0.out], B2.out⟩
    case round =>
      obtain ⟨k, hk, rfl, rfl, hbel⟩ := hrel
      have HBEL := Lib.hid hbel
      clear hbel B2
      by_cases h1 : k < m
      · by_cases h2 : k < n
        · have g1 : k < l.length := by rw [HN.out]; exact h2
          have g2 : k < r.length := by rw [HM.out]; exact h1
          obtain ⟨b, o, rfl, hcb⟩ := HL.out k g1
          obtain ⟨b2, o2, rfl, hvb⟩ := HV.out k g2
          have hS := partL_succ g1 g2
          have hF : ∀ w1 c1 c2, Below W.heap.size W w1 → Calls Try.prog 11 #[.slice (some ⟨b, o + k * 3, none⟩) 1 c1, .slice (some ⟨b2, o2 + k * 3, none⟩) 1 c2] w1 fun e w' => e = .returned (.bool (vfit l[k] r[k])) ∧ Below w1.heap.size w1 w' := fun w1 c1 c2 h => by
            have := fits_any (some ⟨b, o + k * 3, none⟩) (some ⟨b2, o2 + k * 3, none⟩) c1 c2 [l[k]] [r[k]] w1 ((HL.out.keep h).one g1) ((HV.out.keep h).one g2) (by simp) (by simp)
            rw [right_one (HOK.out _ (List.getElem_mem g1)), fits_one, Bool.true_and] at this
            exact this
          generalize vfit l[k] r[k] = vf at hS hF
          have HF := Lib.hid hF
          have HS := Lib.hid hS
          have HK1 : Hid (k < m) := h1
          clear hF hS hcb hvb g1 g2
          have k1 : k + 1 ≤ cap := by omega
          have k2 : k + 1 ≤ rcap := by omega
          generalize partL l r k = pk at HS ⊢
          go_upto_region 8 with (fail)
          cases pk with
          | false =>
            have HB0 := Lib.hid HBEL.out.drew
            refine wpB_start 15 (by kernel_rfl) rfl (fun R HR => ?_)
            generalize World.drew _ = w1 at HB0 ⊢
            refine wpB_take HR (i := 0) rfl (by decide +kernel) (by decide +kernel) (by decide +kernel) (fun _ _ _ h => h) (by rfl) (fun W hW => by rfl) ?_
            go_simp
            refine wpB_take HR (i := 1) rfl (by decide +kernel) (by decide +kernel) (by decide +kernel) (fun _ _ _ h => h) (by rfl) (fun W hW => by rfl) ?_
            go_simp
            refine wpB_skip HR (i := 2) rfl (by decide +kernel) (by decide +kernel) (by decide +kernel) (fun _ _ _ h => h) (by rfl) ?_
            go_simp
            refine wpB_skip HR (i := 3) rfl (by decide +kernel) (by decide +kernel) (by decide +kernel) (fun _ _ _ h => h) (by rfl) ?_
            go_simp
            refine wpB_skip HR (i := 4) rfl (by decide +kernel) (by decide +kernel) (by decide +kernel) (fun _ _ _ h => h) (by rfl) ?_
            go_simp
            refine wpB_skip HR (i := 5) rfl (by decide +kernel) (by decide +kernel) (by decide +kernel) (fun _ _ _ h => h) (by rfl) ?_
            go_simp
            refine wpB_skip HR (i := 6) rfl (by decide +kernel) (by decide +kernel) (by decide +kernel) (fun _ _ _ h => h) (by rfl) ?_
            go_simp
            refine wpB_skip HR (i := 7) rfl (by decide +kernel) (by decide +kernel) (by decide +kernel) (fun _ _ _ h => h) (by rfl) ?_
            go_simp
            refine wpB_skip HR (i := 8) rfl (by decide +kernel) (by decide +kernel) (by decide +kernel) (fun _ _ _ h => h) (by rfl) ?_
            go_simp
            refine wpB_skip HR (i := 9) rfl (by decide +kernel) (by decide +kernel) (by decide +kernel) (fun _ _ _ h => h) (by rfl) ?_
            go_simp
            refine wpB_skip HR (i := 10) rfl (by decide +kernel) (by decide +kernel) (by decide +kernel) (fun _ _ _ h => h) (by rfl) ?_
            go_simp
            refine wpB_skip HR (i := 11) rfl (by decide +kernel) (by decide +kernel) (by decide +kernel) (fun _ _ _ h => h) (by rfl) ?_
            go_simp
            refine wpB_skip HR (i := 12) rfl (by decide +kernel) (by decide +kernel) (by decide +kernel) (fun _ _ _ h => h) (by rfl) ?_
            go_simp
            refine wpB_take HR (i := 13) (v := .bool false) rfl (by decide +kernel) (by decide +kernel) (by decide +kernel) (fun _ _ _ h => h) (by rfl) (fun W hW => by go_simp) ?_
            go_simp
            refine wpB_take HR (i := 14) rfl (by decide +kernel) (by decide +kernel) (by decide +kernel) (fun _ _ _ h => h) (by rfl) (fun W hW => by rfl) ?_
            go_simp
            refine wpB_done HR (by decide +kernel) ?_
            go_wp2
            go_roundw
            case rel => exact ⟨k + 1, HK1.out, by go_num, by rw [HS.out]; rfl, HB0.out⟩
            case measure => have := HK1.out; simp [intOf]; omega
          | true =>
            have HB0 := Lib.hid HBEL.out.drew
            refine wpB_start 15 (by kernel_rfl) rfl (fun R HR => ?_)
            generalize World.drew _ = w1 at HB0 ⊢
            refine wpB_take HR (i := 0) rfl (by decide +kernel) (by decide +kernel) (by decide +kernel) (fun _ _ _ h => h) (by rfl) (fun W hW => by rfl) ?_
            go_simp
            refine wpB_take HR (i := 1) rfl (by decide +kernel) (by decide +kernel) (by decide +kernel) (fun _ _ _ h => h) (by rfl) (fun W hW => by rfl) ?_
            go_simp
            refine wpB_take HR (i := 2) rfl (by decide +kernel) (by decide +kernel) (by decide +kernel) (fun _ _ _ h => h) (by rfl) (fun W hW => by rfl) ?_
            go_simp
            refine wpB_take HR (i := 3) rfl (by decide +kernel) (by decide +kernel) (by decide +kernel) (fun _ _ _ h => h) (by rfl) (fun W hW => by rfl) ?_
            go_simp
            refine wpB_take HR (i := 4) rfl (by decide +kernel) (by decide +kernel) (by decide +kernel) (fun _ _ _ h => h) (by rfl) (fun W hW => by rfl) ?_
            go_simp
            refine wpB_take HR (i := 5) (v := .int .i64 ((k : Int) + 1)) rfl (by decide +kernel) (by decide +kernel) (by decide +kernel) (fun _ _ _ h => h) (by rfl) (fun W hW => by go_simp; exact IntWalk.i64_in _ ⟨by omega, by omega⟩) ?_
            go_simp
            refine wpB_take HR (i := 6) (v := .slice (some ⟨b, o + k * 3, none⟩) 1 (cap - k)) rfl (by decide +kernel) (by decide +kernel) (by decide +kernel) (fun _ _ _ h => h) (by rfl) (fun W hW => by go_simp; rw [if_pos ⟨by omega, by omega⟩, if_neg (by omega)]) ?_
            go_simp
            refine wpB_take HR (i := 7) rfl (by decide +kernel) (by decide +kernel) (by decide +kernel) (fun _ _ _ h => h) (by rfl) (fun W hW => by rfl) ?_
            go_simp
            refine wpB_take HR (i := 8) rfl (by decide +kernel) (by decide +kernel) (by decide +kernel) (fun _ _ _ h => h) (by rfl) (fun W hW => by rfl) ?_
            go_simp
            refine wpB_take HR (i := 9) rfl (by decide +kernel) (by decide +kernel) (by decide +kernel) (fun _ _ _ h => h) (by rfl) (fun W hW => by rfl) ?_
            go_simp
            refine wpB_take HR (i := 10) (v := .int .i64 ((k : Int) + 1)) rfl (by decide +kernel) (by decide +kernel) (by decide +kernel) (fun _ _ _ h => h) (by rfl) (fun W hW => by go_simp; exact IntWalk.i64_in _ ⟨by omega, by omega⟩) ?_
            go_simp
            refine wpB_take HR (i := 11) (v := .slice (some ⟨b2, o2 + k * 3, none⟩) 1 (rcap - k)) rfl (by decide +kernel) (by decide +kernel) (by decide +kernel) (fun _ _ _ h => h) (by rfl) (fun W hW => by go_simp; rw [if_pos ⟨by omega, by omega⟩, if_neg (by omega)]) ?_
            go_simp
            refine wpB_call HR (i := 12) rfl (by decide +kernel) (by rfl) (by go_simp; exact ⟨rfl, rfl⟩) ?_
            refine (HF.out _ _ _ HB0.out).mono ?_
            rintro e w2 ⟨rfl, hb2⟩
            refine ⟨_, rfl, hb2, ?_⟩
            have HB2 := Lib.hid (HB0.out.trans (hb2.mono HB0.out.size))
            clear hb2
            go_simp
            refine wpB_take HR (i := 13) (v := .bool vf) rfl (by decide +kernel) (by decide +kernel) (by decide +kernel) (fun _ _ _ h => h) (by rfl) (fun W hW => by go_simp) ?_
            go_simp
            refine wpB_take HR (i := 14) rfl (by decide +kernel) (by decide +kernel) (by decide +kernel) (fun _ _ _ h => h) (by rfl) (fun W hW => by rfl) ?_
            go_simp
            refine wpB_done HR (by decide +kernel) ?_
            go_wp2
            go_roundw
            case rel => exact ⟨k + 1, HK1.out, by go_num, by rw [HS.out]; rfl, HB2.out⟩
            case measure => have := HK1.out; simp [intOf]; omega
        · have HX := Lib.hid (HPE.out k (by omega))
          go_wp2_with (first | (go_at_call 11; refine (H3.out _ HBEL.out).mono ?_; rintro e w3 ⟨rfl, hb⟩; have B3 := Lib.hid hb; clear hb H3))
          go_ret
          exact ⟨by rw [HX.out]; simp, B3.out⟩
      · have HX := Lib.hid (HPE.out k (by omega))
        go_wp2_with (first | (go_at_call 11; refine (H3.out _ HBEL.out).mono ?_; rintro e w3 ⟨rfl, hb⟩; have B3 := Lib.hid hb; clear hb H3))
        go_ret
        exact ⟨by rw [HX.out]; simp, B3.out⟩
  · have hcase : rightC l = false ∨ rightC l = true ∧ (100 : Int) < r.length := by
      cases h : rightC l with
      | false => exact .inl rfl
      | true => right; refine ⟨rfl, ?_⟩; have hx : ¬ r.length ≤ 100 := fun x => hgo ⟨h, x⟩; omega
    generalize rightC l = x at *
    clear hl hr hgo
    generalize l.length = n at *
    generalize r.length = m at *
    rcases hcase with rfl | ⟨rfl, h2⟩
    · go_enter Try.func7, Try.ntmps7
      go_wp2_with (first | (go_at_call 8; refine H0.out.mono ?_; rintro e w1 ⟨rfl, hb⟩; have B1 := Lib.hid hb; clear hb H0) | (go_at_call 9; refine (H1.out _ B1.out).mono ?_; rintro e w2 ⟨rfl, hb⟩; have B2 := Lib.hid hb; clear hb H1))
      go_ret
      exact ⟨rfl, B2.out⟩
    · go_enter Try.func7, Try.ntmps7
      go_wp2_with (first | (go_at_call 8; refine H0.out.mono ?_; rintro e w1 ⟨rfl, hb⟩; have B1 := Lib.hid hb; clear hb H0) | (go_at_call 9; refine (H1.out _ B1.out).mono ?_; rintro e w2 ⟨rfl, hb⟩; have B2 := Lib.hid hb; clear hb H1))
      go_ret
      exact ⟨rfl, B2.out⟩

theorem walkFits (A : Option Addr) (cap : Nat) (l : List Col) {W : World} (hl : Cols W A l) (_ : A = none → cap = 0) (hc : l.length ≤ cap) (hm : cap ≤ 140737488351232) (B : Option Addr) (rcap : Nat) (r : List Vl) (hr : Vls W B r) (_ : B = none → rcap = 0) (hrc : r.length ≤ rcap) (hrm : rcap ≤ 140737488351232) (s : ByteArray) (hs : s.size ≤ 140737488351232) (W' : World) (e : W' = W) :
    Calls Try.prog 3 #[.slice A l.length cap, .slice B r.length rcap, .string s] W' fun e w => e = .returned (.bool true) ∧ Below W'.heap.size W' w := by
  subst e
  exact lawfits_any A B cap rcap l r s _ hl hr (by omega) (by omega) hs
theorem walkParts (A : Option Addr) (cap : Nat) (l : List Col) {W : World} (hl : Cols W A l) (_ : A = none → cap = 0) (hc : l.length ≤ cap) (hm : cap ≤ 140737488351232) (B : Option Addr) (rcap : Nat) (r : List Vl) (hr : Vls W B r) (_ : B = none → rcap = 0) (hrc : r.length ≤ rcap) (hrm : rcap ≤ 140737488351232) (W' : World) (e : W' = W) :
    Calls Try.prog 7 #[.slice A l.length cap, .slice B r.length rcap] W' fun e w => e = .returned (.bool true) ∧ Below W'.heap.size W' w := by
  subst e
  exact lawparts_any A B cap rcap l r _ hl hr (by omega) (by omega) hc hrc
end Go.Proofs.Ytabnjiepmhblaaa
