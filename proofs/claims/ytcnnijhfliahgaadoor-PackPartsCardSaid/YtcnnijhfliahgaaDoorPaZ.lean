/- The walk of stackyardlaw01.PackParts (7). -/
import Derived.Test.YtcnnijhfliahgaaDoorPaY
namespace Go.Proofs.YtcnnijhfliahgaaDoor
open Go.RowKit
set_option linter.unusedVariables false

theorem str_app (a b : List UInt8) : str a ++ str b = str (a ++ b) := by
  simp [str, ByteArray.ext_iff]
set_option maxRecDepth 100000 in
set_option maxHeartbeats 4000000 in
theorem pparts_bad (w : Int) (A0 C0 : Option Addr) (ca cc : Nat) (a c : List W64) (W : World) (hT : TabAt W) (hbad : w < 0 ∨ 64 < w ∨ w % 8 ≠ 0 ∨ 2000 < a.length ∨ 2000 < c.length) :
    Calls Tryd.prog 7 #[.int .i64 w, .slice A0 a.length ca, .slice C0 c.length cc] W fun e W' => e = .returned (.bool true) ∧ Below W.heap.size W W' := by
  have HSH := Lib.hid (shown1_any W hT)
  clear hT
  by_cases h1 : w < 0
  · clear hbad
    go_enter Tryd.func7, Tryd.ntmps7
    go_wp2_with (go_at_call 13; refine HSH.out.mono ?_; rintro e w1 ⟨rfl, hb⟩; have HB1 := Lib.hid hb; clear hb HSH)
    all_goals first | (exfalso; omega) | (go_ret; exact ⟨rfl, HB1.out⟩)
  by_cases h2 : 64 < w
  · clear hbad
    go_enter Tryd.func7, Tryd.ntmps7
    go_wp2_with (go_at_call 13; refine HSH.out.mono ?_; rintro e w1 ⟨rfl, hb⟩; have HB1 := Lib.hid hb; clear hb HSH)
    all_goals first | (exfalso; omega) | (go_ret; exact ⟨rfl, HB1.out⟩)
  have d0 : 0 ≤ w := by omega
  have d3 : w.tmod 8 = w % 8 := Int.tmod_eq_emod_of_nonneg d0
  by_cases h3 : w % 8 = 0
  · have d4 : w.tmod 8 = 0 := by rw [d3]; exact h3
    clear d3
    by_cases h4 : (2000 : Int) < (a.length : Int)
    · clear hbad
      go_enter Tryd.func7, Tryd.ntmps7
      go_wp2_with (go_at_call 13; refine HSH.out.mono ?_; rintro e w1 ⟨rfl, hb⟩; have HB1 := Lib.hid hb; clear hb HSH)
      all_goals first | (exfalso; omega) | (go_ret; exact ⟨rfl, HB1.out⟩)
    · have h5 : (2000 : Int) < (c.length : Int) := by omega
      clear hbad
      go_enter Tryd.func7, Tryd.ntmps7
      go_wp2_with (go_at_call 13; refine HSH.out.mono ?_; rintro e w1 ⟨rfl, hb⟩; have HB1 := Lib.hid hb; clear hb HSH)
      all_goals first | (exfalso; omega) | (go_ret; exact ⟨rfl, HB1.out⟩)
  · have d4 : ¬ w.tmod 8 = 0 := by rw [d3]; exact h3
    clear d3 hbad
    go_enter Tryd.func7, Tryd.ntmps7
    go_wp2_with (go_at_call 13; refine HSH.out.mono ?_; rintro e w1 ⟨rfl, hb⟩; have HB1 := Lib.hid hb; clear hb HSH)
    all_goals first | (exfalso; omega) | (go_ret; exact ⟨rfl, HB1.out⟩)

set_option maxRecDepth 100000 in
set_option maxHeartbeats 4000000 in
theorem pparts_good (t : Nat) (A0 C0 : Option Addr) (ca cc : Nat) (a c : List W64) (W : World) (hT : TabAt W) (ht : t ≤ 8) (ha : a.length ≤ 2000) (hc : c.length ≤ 2000) (hna : A0 = none → ca = 0) (hnc : C0 = none → cc = 0) (hA : Num W A0 a) (hC : Num W C0 c) :
    Calls Tryd.prog 7 #[.int .i64 ((8 * t : Nat) : Int), .slice A0 a.length ca, .slice C0 c.length cc] W fun e W' => e = .returned (.bool true) ∧ Below W.heap.size W W' := by
  have HSH := Lib.hid (shown1_any W hT)
  have hc1 := fun W' (h : Below W.heap.size W W') => pk_any (8 * t) A0 ca a W' (hA.keep h) (by omega) (by omega) (hT.keep h)
  have hc2 := fun W' (h : Below W.heap.size W W') => pk_any (8 * t) C0 cc c W' (hC.keep h) (by omega) (by omega) (hT.keep h)
  have hc3 := fun (A : Option Addr) (cap : Nat) W' (h1 : Num W' A (a ++ c)) (h : Below W.heap.size W W') => pk_any (8 * t) A cap (a ++ c) W' h1 (by omega) (by rw [List.length_append]; omega) (hT.keep h)
  have hwa := widL_app a c
  have HNA := Lib.hid hA
  have HNC := Lib.hid hC
  have hlen3 : (a ++ c).length = a.length + c.length := List.length_append
  have v0 : (0 : Int) ≤ ((8 * t : Nat) : Int) := by omega
  have v1 : ((8 * t : Nat) : Int) ≤ 64 := by omega
  have v2 : ((8 * t : Nat) : Int).tmod 8 = 0 := by rw [Int.tmod_eq_emod_of_nonneg v0]; omega
  by_cases hg : widL a ≤ 8 * t ∧ widL c ≤ 8 * t
  · have e1 : erOf (8 * t) a = 0 := if_pos hg.1
    have e2 : erOf (8 * t) c = 0 := if_pos hg.2
    have e3 : erOf (8 * t) (a ++ c) = 0 := if_pos (by rw [hwa]; omega)
    have hb : bsOf (8 * t) (a ++ c) = bsOf (8 * t) a ++ bsOf (8 * t) c := by
      unfold bsOf
      rw [if_pos hg.1, if_pos hg.2, if_pos (by rw [hwa]; omega)]
      exact packL_app ht hg.1 hg.2
    rw [e1] at hc1
    rw [e2] at hc2
    rw [e3, hb] at hc3
    have hz1 : (bsOf (8 * t) a).length ≤ 32768 := by
      unfold bsOf
      rw [if_pos hg.1, packL_len]
      have := Nat.mul_le_mul ha (show 8 * t ≤ 64 by omega)
      omega
    have hz2 : (bsOf (8 * t) c).length ≤ 32768 := by
      unfold bsOf
      rw [if_pos hg.2, packL_len]
      have := Nat.mul_le_mul hc (show 8 * t ≤ 64 by omega)
      omega
    generalize bsOf (8 * t) a = b1 at hc1 hc3 hz1
    generalize bsOf (8 * t) c = b2 at hc2 hc3 hz2
    have hs1 : (str b1).size = b1.length := rfl
    have hs2 : (str b2).size = b2.length := rfl
    have hs3 := str_app b1 b2
    obtain ⟨l3, hl3⟩ : ∃ l3, a ++ c = l3 := ⟨_, rfl⟩
    obtain ⟨b3, hb3'⟩ : ∃ b3, b1 ++ b2 = b3 := ⟨_, rfl⟩
    rw [hl3] at hc3
    clear hlen3
    rw [hb3'] at hc3 hs3
    obtain ⟨v, hv⟩ : ∃ v : Nat, 8 * t = v := ⟨_, rfl⟩
    rw [hv] at v0 v1 v2 hc1 hc2 hc3 ⊢
    have HAC := Lib.hid hl3
    have HC1 := Lib.hid hc1
    have HC2 := Lib.hid hc2
    have HC3 := Lib.hid hc3
    have hz3 : (str b1).size ≤ 32768 := by rw [hs1]; exact hz1
    have hz4 : (str b2).size ≤ 32768 := by rw [hs2]; exact hz2
    clear hc1 hc2 hc3 hT hA hC hl3 hwa e1 e2 e3 hb hg hs1 hs2 hb3' hz1 hz2 hv
    go_enter Tryd.func7, Tryd.ntmps7
    go_wp2_with (first | (go_at_call 13; refine HSH.out.mono ?_; rintro e w1 ⟨rfl, hb⟩; have HB1 := Lib.hid hb; clear hb HSH) | (go_at_call 18; refine (HC1.out w1 HB1.out).mono ?_; rintro e w2 ⟨A1, c1, rfl, hy1, _, _, _, hb2⟩; have HB2 := Lib.hid (HB1.out.trans (hb2.mono HB1.out.size)); have HY1 := Lib.hid hy1; clear hb2 hy1 HC1) | (go_at_call 18; refine (HC2.out w2 HB2.out).mono ?_; rintro e w3 ⟨A2, c2, rfl, hy2, _, _, _, hb3⟩; have HB3 := Lib.hid (HB2.out.trans (hb3.mono HB2.out.size)); have HX3 := Lib.hid (HY1.out.keep hb3); have HY3 := Lib.hid hy2; clear hb3 hy2 HC2) | (at_make; refine mk_num w3 rfl _ _ rfl _ (a.length + c.length) rfl rfl (by simp) (by omega) (Below.refl _ _) ?_; intro v4 w4 hown4 hb4; have HO4 := Lib.hid hown4; have HB4 := Lib.hid hb4; clear hown4 hb4) | (at_builtin; refine app_num w3 rfl _ _ rfl _ [] rfl HO4.out HB4.out A0 a.length ca a rfl rfl ((HNA.out.keep HB3.out).keep HB4.out) hna (by simp; omega) ?_; intro v5 w5 hown5 hb5; have HO5 := Lib.hid hown5; have HB5 := Lib.hid hb5; clear hown5 hb5 HO4) | (at_builtin; refine app_num w3 rfl _ _ rfl _ ([] ++ a) rfl HO5.out HB5.out C0 c.length cc c rfl rfl ((HNC.out.keep HB3.out).keep HB5.out) hnc (by simp; omega) ?_; intro v6 w6 hown6 hb6; rw [List.nil_append, HAC.out] at hown6; obtain ⟨A6, c6, rfl, hn6, hna6⟩ := hown6.form; have HB6 := Lib.hid hb6; have HN6 := Lib.hid hn6; clear hown6 hb6 hn6 HO5) | (go_at_call 18; refine (HC3.out A6 c6 w6 HN6.out (HB3.out.trans (HB6.out.mono HB3.out.size))).mono ?_; rintro e w7 ⟨A7, c7, rfl, hy7, _, _, _, hb7⟩; have HB7 := Lib.hid ((HB3.out.trans (HB6.out.mono HB3.out.size)).trans (hb7.mono (HB3.out.trans (HB6.out.mono HB3.out.size)).size)); have cv1 := conv ((HX3.out.keep HB6.out).keep hb7) c1; have cv2 := conv ((HY3.out.keep HB6.out).keep hb7) c2; have cv3 := conv hy7 c7; clear hb7 hy7 HC3))
    all_goals first | (go_ret; exact ⟨rfl, HB7.out⟩) | skip
  · by_cases hga : widL a ≤ 8 * t
    · have hgc : ¬ widL c ≤ 8 * t := fun h => hg ⟨hga, h⟩
      rw [show erOf (8 * t) (a ++ c) = 2 from if_neg (by rw [hwa]; omega)] at hc3
      generalize bsOf (8 * t) (a ++ c) = b3 at hc3
      generalize bsOf (8 * t) a = b1 at hc1
      generalize bsOf (8 * t) c = b2 at hc2
      rw [show erOf (8 * t) a = 0 from if_pos hga] at hc1
      rw [show erOf (8 * t) c = 2 from if_neg hgc] at hc2
      obtain ⟨l3, hl3⟩ : ∃ l3, a ++ c = l3 := ⟨_, rfl⟩
      rw [hl3] at hc3
      clear hlen3
      obtain ⟨v, hv⟩ : ∃ v : Nat, 8 * t = v := ⟨_, rfl⟩
      rw [hv] at v0 v1 v2 hc1 hc2 hc3 ⊢
      have HAC := Lib.hid hl3
      have HC1 := Lib.hid hc1
      have HC2 := Lib.hid hc2
      have HC3 := Lib.hid hc3
      clear hc1 hc2 hc3 hT hA hC hl3 hwa hv hg hga hgc
      go_enter Tryd.func7, Tryd.ntmps7
      go_wp2_with (first | (go_at_call 13; refine HSH.out.mono ?_; rintro e w1 ⟨rfl, hb⟩; have HB1 := Lib.hid hb; clear hb HSH) | (go_at_call 18; refine (HC1.out w1 HB1.out).mono ?_; rintro e w2 ⟨A1, c1, rfl, hy1, _, _, _, hb2⟩; have HB2 := Lib.hid (HB1.out.trans (hb2.mono HB1.out.size)); have HY1 := Lib.hid hy1; clear hb2 hy1 HC1) | (go_at_call 18; refine (HC2.out w2 HB2.out).mono ?_; rintro e w3 ⟨A2, c2, rfl, hy2, _, _, _, hb3⟩; have HB3 := Lib.hid (HB2.out.trans (hb3.mono HB2.out.size)); have HX3 := Lib.hid (HY1.out.keep hb3); have HY3 := Lib.hid hy2; clear hb3 hy2 HC2) | (at_make; refine mk_num w3 rfl _ _ rfl _ (a.length + c.length) rfl rfl (by simp) (by omega) (Below.refl _ _) ?_; intro v4 w4 hown4 hb4; have HO4 := Lib.hid hown4; have HB4 := Lib.hid hb4; clear hown4 hb4) | (at_builtin; refine app_num w3 rfl _ _ rfl _ [] rfl HO4.out HB4.out A0 a.length ca a rfl rfl ((HNA.out.keep HB3.out).keep HB4.out) hna (by simp; omega) ?_; intro v5 w5 hown5 hb5; have HO5 := Lib.hid hown5; have HB5 := Lib.hid hb5; clear hown5 hb5 HO4) | (at_builtin; refine app_num w3 rfl _ _ rfl _ ([] ++ a) rfl HO5.out HB5.out C0 c.length cc c rfl rfl ((HNC.out.keep HB3.out).keep HB5.out) hnc (by simp; omega) ?_; intro v6 w6 hown6 hb6; rw [List.nil_append, HAC.out] at hown6; obtain ⟨A6, c6, rfl, hn6, hna6⟩ := hown6.form; have HB6 := Lib.hid hb6; have HN6 := Lib.hid hn6; clear hown6 hb6 hn6 HO5) | (go_at_call 18; refine (HC3.out A6 c6 w6 HN6.out (HB3.out.trans (HB6.out.mono HB3.out.size))).mono ?_; rintro e w7 ⟨A7, c7, rfl, hy7, _, _, _, hb7⟩; have HB7 := Lib.hid ((HB3.out.trans (HB6.out.mono HB3.out.size)).trans (hb7.mono (HB3.out.trans (HB6.out.mono HB3.out.size)).size));  clear hb7 hy7 HC3))
      all_goals first | (go_ret; exact ⟨rfl, HB7.out⟩) | skip
    · rw [show erOf (8 * t) (a ++ c) = 2 from if_neg (by rw [hwa]; omega)] at hc3
      generalize bsOf (8 * t) (a ++ c) = b3 at hc3
      generalize bsOf (8 * t) a = b1 at hc1
      generalize bsOf (8 * t) c = b2 at hc2
      rw [show erOf (8 * t) a = 2 from if_neg hga] at hc1
      generalize erOf (8 * t) c = er2 at hc2
      obtain ⟨l3, hl3⟩ : ∃ l3, a ++ c = l3 := ⟨_, rfl⟩
      rw [hl3] at hc3
      clear hlen3
      obtain ⟨v, hv⟩ : ∃ v : Nat, 8 * t = v := ⟨_, rfl⟩
      rw [hv] at v0 v1 v2 hc1 hc2 hc3 ⊢
      have HAC := Lib.hid hl3
      have HC1 := Lib.hid hc1
      have HC2 := Lib.hid hc2
      have HC3 := Lib.hid hc3
      clear hc1 hc2 hc3 hT hA hC hl3 hwa hv hg hga
      go_enter Tryd.func7, Tryd.ntmps7
      go_wp2_with (first | (go_at_call 13; refine HSH.out.mono ?_; rintro e w1 ⟨rfl, hb⟩; have HB1 := Lib.hid hb; clear hb HSH) | (go_at_call 18; refine (HC1.out w1 HB1.out).mono ?_; rintro e w2 ⟨A1, c1, rfl, hy1, _, _, _, hb2⟩; have HB2 := Lib.hid (HB1.out.trans (hb2.mono HB1.out.size)); have HY1 := Lib.hid hy1; clear hb2 hy1 HC1) | (go_at_call 18; refine (HC2.out w2 HB2.out).mono ?_; rintro e w3 ⟨A2, c2, rfl, hy2, _, _, _, hb3⟩; have HB3 := Lib.hid (HB2.out.trans (hb3.mono HB2.out.size)); have HX3 := Lib.hid (HY1.out.keep hb3); have HY3 := Lib.hid hy2; clear hb3 hy2 HC2) | (at_make; refine mk_num w3 rfl _ _ rfl _ (a.length + c.length) rfl rfl (by simp) (by omega) (Below.refl _ _) ?_; intro v4 w4 hown4 hb4; have HO4 := Lib.hid hown4; have HB4 := Lib.hid hb4; clear hown4 hb4) | (at_builtin; refine app_num w3 rfl _ _ rfl _ [] rfl HO4.out HB4.out A0 a.length ca a rfl rfl ((HNA.out.keep HB3.out).keep HB4.out) hna (by simp; omega) ?_; intro v5 w5 hown5 hb5; have HO5 := Lib.hid hown5; have HB5 := Lib.hid hb5; clear hown5 hb5 HO4) | (at_builtin; refine app_num w3 rfl _ _ rfl _ ([] ++ a) rfl HO5.out HB5.out C0 c.length cc c rfl rfl ((HNC.out.keep HB3.out).keep HB5.out) hnc (by simp; omega) ?_; intro v6 w6 hown6 hb6; rw [List.nil_append, HAC.out] at hown6; obtain ⟨A6, c6, rfl, hn6, hna6⟩ := hown6.form; have HB6 := Lib.hid hb6; have HN6 := Lib.hid hn6; clear hown6 hb6 hn6 HO5) | (go_at_call 18; refine (HC3.out A6 c6 w6 HN6.out (HB3.out.trans (HB6.out.mono HB3.out.size))).mono ?_; rintro e w7 ⟨A7, c7, rfl, hy7, _, _, _, hb7⟩; have HB7 := Lib.hid ((HB3.out.trans (HB6.out.mono HB3.out.size)).trans (hb7.mono (HB3.out.trans (HB6.out.mono HB3.out.size)).size));  clear hb7 hy7 HC3))
      all_goals first | (go_ret; exact ⟨rfl, HB7.out⟩) | skip
theorem pparts_walk (w : Int) (A0 C0 : Option Addr) (ca cc : Nat) (a c : List W64) (W : World) (hT : TabAt W) (hna : A0 = none → ca = 0) (hnc : C0 = none → cc = 0) (hA : Num W A0 a) (hC : Num W C0 c) :
    Calls Tryd.prog 7 #[.int .i64 w, .slice A0 a.length ca, .slice C0 c.length cc] W fun e W' => e = .returned (.bool true) ∧ Below W.heap.size W W' := by
  by_cases hbad : w < 0 ∨ 64 < w ∨ w % 8 ≠ 0 ∨ 2000 < a.length ∨ 2000 < c.length
  · exact pparts_bad w A0 C0 ca cc a c W hT hbad
  · obtain ⟨t, rfl⟩ : ∃ t : Nat, w = ((8 * t : Nat) : Int) := ⟨w.toNat / 8, by omega⟩
    exact pparts_good t A0 C0 ca cc a c W hT (by omega) (by omega) (by omega) hna hnc hA hC
end Go.Proofs.YtcnnijhfliahgaaDoor
