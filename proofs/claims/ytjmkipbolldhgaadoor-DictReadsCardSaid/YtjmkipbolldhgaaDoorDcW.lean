/- The document's Decode. -/
import Derived.Test.YtjmkipbolldhgaaDoorDcV
namespace Go.Proofs.YtjmkipbolldhgaaDoor
open Go.RowKit
set_option linter.unusedVariables false

set_option maxRecDepth 100000 in
set_option maxHeartbeats 2000000 in
theorem rdec_0 (A : Option Addr) (cap : Nat) (b : List UInt8) (n : Nat) (W : World) (hb : Byt W A b) (hA : A = none → cap = 0) (hc : b.length ≤ cap) (hm : cap ≤ 140737488351232) (hn : n ≤ 4096) (h0 : 0 < b.length) (hf : (b[0]).toNat = 0) (hT : TabAt W) :
    Calls Tryd.prog 13 #[.slice A b.length cap, .int .i64 (n : Int)] W (DecTR W b n) := by
  have HH : Hid (¬ ((n : Int) < 0 ∨ 4096 < (n : Int))) := by show ¬ _; omega
  have HDF : Hid (∀ L, decT b n L → EncofT 0 n b L) := fun L h => (dect_f h0 hf h).2.2
  have HMK : Hid (∀ L, EncofT 0 n b L → decT b n L) := fun L h => ⟨0, by omega, by omega, by omega, h⟩
  have HRD := Lib.hid (taken_any A cap n b.length [UInt8.ofNat 0] b 1 W rfl rfl hb hA hc hm hn ⟨by omega, by omega⟩)
  unfold TkU at HRD
  have HLIE : Hid (∀ L, EncofT 0 n b L → LiesT [UInt8.ofNat 0] b L) := fun L h => ⟨[], by rw [← h.2.2, List.append_nil]; rfl⟩
  have HENC : Hid (∀ A c l (w1 : World), Below W.heap.size W w1 → Strs w1 A l → rightT l → Calls Tryd.prog 9 #[.int .i64 0, .slice A l.length c] w1 (LaidT w1 (encT 0 l))) := fun A c l w1 hW hl hr => renc0_any A c l w1 hl hr
  unfold LaidT at HENC
  obtain ⟨bx, ox, rfl, hca⟩ := hb 0 h0
  rw [hf] at hca
  have hca0 : W.cell? ⟨bx, ox, none⟩ = some (.int .u8 0) := hca
  have HCA := Lib.hid hca0
  have HB := Lib.hid hb
  have HREF : Hid (Below W.heap.size W W) := Below.refl _ _
  have hle : ¬ (4096 : Int) < (n : Int) := by omega
  have hn0 : ¬ (n : Int) < 0 := by omega
  obtain ⟨nb, hnb⟩ : ∃ nb, b.length = nb := ⟨_, rfl⟩
  have HNB := Lib.hid hnb
  have hps : (0 : Int) < (b.length : Int) := by omega
  have hzi : ((b.length : Int) == 0) = false := by rw [beq_eq_false_iff_ne]; omega
  rw [hnb] at h0 hc hps hzi HRD ⊢
  clear hb hca hf hT hnb hA
  go_enter Tryd.func13, Tryd.ntmps13
  go_upto_region 9 with (go_at_call 30; refine HRD.out.mono ?_; rintro e w1 ⟨A1, c1, l1, at_, ok1, rfl, hs1, hc1, h641, hb1, hok, hnk, hcomp⟩; have hln : l1.length = n ∨ l1 = [] := (by cases ok1 with | true => exact .inl (hok rfl).1 | false => exact .inr (hnk rfl)); have hcp : ∀ L, EncofT 0 n b L → l1 = L := (fun L h => (hcomp L h.1.2 h.2.1 (HLIE.out L h)).2.1); clear hok hnk hcomp; obtain ⟨m, hm1⟩ : ∃ m, l1.length = m := ⟨_, rfl⟩; have HM1 := Lib.hid hm1; have HS1 := Lib.hid hs1; have HC1 := Lib.hid hc1; have HB1 := Lib.hid hb1; have H641 := Lib.hid h641; have HLN := Lib.hid hln; have HU1 := Lib.hid hcp; rw [hm1]; clear hm1 hs1 hc1 hb1 h641 hln hcp HRD)
  have hcw := cell_lo HB1.out HCA.out
  by_cases hmn : m = n
  · subst hmn
    have hrt : rightT l1 := ⟨by rw [HM1.out]; exact hn, H641.out⟩
    have HENC2 := Lib.hid (HENC.out A1 c1 l1 w1 HB1.out HS1.out hrt)
    rw [HM1.out] at HENC2
    obtain ⟨eb, heb⟩ : ∃ eb, encT 0 l1 = eb := ⟨_, rfl⟩
    rw [heb] at HENC2
    by_cases heq : eb = b
    · have HOK : Hid (EncofT 0 m b l1) := ⟨hrt, HM1.out, by rw [heb]; exact heq⟩
      subst heq
      clear heb hrt hca0
      go_wp2_with (go_at_call 9; refine HENC2.out.mono ?_; rintro e w2 ⟨v2, rfl, ho, hb2⟩; obtain ⟨A2, c2, rfl, hy2, hq1, hq2, hq3⟩ := ho.form; clear hq1 hq2 hq3; have HB2 := Lib.hid (HB1.out.trans (hb2.mono HB1.out.size)); have HS2 := Lib.hid (HS1.out.keep hb2); have hc1 := conv hy2 c2; have hc2 := conv (HB.out.keep HB2.out) cap; rw [HNB.out] at hc1 hc2 ⊢; clear ho hb2 hy2)
      go_ret2
      exact ⟨HB2.out, .inl ⟨A1, c1, l1, HMK.out l1 HOK.out, fun l' h' => HU1.out l' (HDF.out l' h'), by rw [HM1.out]; rfl, HS2.out, HC1.out⟩⟩
    · have HNO : Hid (∀ L, ¬ decT b m L) := fun L h => by
        have h2 := HDF.out L h
        have := HU1.out L h2
        subst this
        exact heq (heb ▸ h2.2.2)
      have hq : ((str eb).toList == (str b).toList) = false := str_ne heq
      have hq2 : ((str eb).toList != (str b).toList) = true := by simp only [bne, hq]; rfl
      obtain ⟨ne, hne⟩ : ∃ ne, eb.length = ne := ⟨_, rfl⟩
      have HNE := Lib.hid hne
      clear hne heb hrt hca0 heq
      go_wp2_with (go_at_call 9; refine HENC2.out.mono ?_; rintro e w2 ⟨v2, rfl, ho, hb2⟩; obtain ⟨A2, c2, rfl, hy2, hq1, hq2, hq3⟩ := ho.form; clear hq1 hq2 hq3; have HB2 := Lib.hid (HB1.out.trans (hb2.mono HB1.out.size)); have hc1 := conv hy2 c2; have hc2 := conv (HB.out.keep HB2.out) cap; rw [HNE.out] at hc1 ⊢; rw [HNB.out] at hc2; clear ho hb2 hy2)
      go_ret2
      exact ⟨HB2.out, .inr ⟨HNO.out, by rw [if_neg HH.out]; rfl⟩⟩
  · have HNO : Hid (∀ L, ¬ decT b n L) := fun L h => by
      have h2 := HDF.out L h
      have := HU1.out L h2
      subst this
      have := HM1.out
      exact hmn (by rw [← this]; exact h2.2.1)
    have hmi : ¬ (m : Int) = (n : Int) := by omega
    have hei : ((m : Int) == (n : Int)) = false := by rw [beq_eq_false_iff_ne]; exact hmi
    have hei2 : ((m : Int) != (n : Int)) = true := by simp only [bne, hei]; rfl
    clear hca0
    go_wp2
    go_ret2
    exact ⟨HB1.out, .inr ⟨HNO.out, by rw [if_neg HH.out]; rfl⟩⟩

set_option maxRecDepth 100000 in
set_option maxHeartbeats 2000000 in
theorem rdec_1 (A : Option Addr) (cap : Nat) (b : List UInt8) (n : Nat) (W : World) (hb : Byt W A b) (hA : A = none → cap = 0) (hc : b.length ≤ cap) (hm : cap ≤ 140737488351232) (hn : n ≤ 4096) (h0 : 0 < b.length) (hf : (b[0]).toNat = 1) (hT : TabAt W) :
    Calls Tryd.prog 13 #[.slice A b.length cap, .int .i64 (n : Int)] W (DecTR W b n) := by
  have HH : Hid (¬ ((n : Int) < 0 ∨ 4096 < (n : Int))) := by show ¬ _; omega
  have HDF : Hid (∀ L, decT b n L → EncofT 1 n b L) := fun L h => (dect_f h0 hf h).2.2
  have HMK : Hid (∀ L, EncofT 1 n b L → decT b n L) := fun L h => ⟨1, by omega, by omega, by omega, h⟩
  have HRD := Lib.hid (placed_any A cap n b W hb hA hc hm hn h0 (by have := hf; apply UInt8.toNat_inj.1; rw [this]; rfl) hT)
  unfold PlQ at HRD
  have HENC : Hid (∀ A c l (w1 : World), Below W.heap.size W w1 → Strs w1 A l → rightT l → Calls Tryd.prog 9 #[.int .i64 1, .slice A l.length c] w1 (LaidT w1 (encT 1 l))) := fun A c l w1 hW hl hr => renc1_any A c l w1 hl hr
  unfold LaidT at HENC
  obtain ⟨bx, ox, rfl, hca⟩ := hb 0 h0
  rw [hf] at hca
  have hca0 : W.cell? ⟨bx, ox, none⟩ = some (.int .u8 1) := hca
  have HCA := Lib.hid hca0
  have HB := Lib.hid hb
  have HREF : Hid (Below W.heap.size W W) := Below.refl _ _
  have hle : ¬ (4096 : Int) < (n : Int) := by omega
  have hn0 : ¬ (n : Int) < 0 := by omega
  obtain ⟨nb, hnb⟩ : ∃ nb, b.length = nb := ⟨_, rfl⟩
  have HNB := Lib.hid hnb
  have hps : (0 : Int) < (b.length : Int) := by omega
  have hzi : ((b.length : Int) == 0) = false := by rw [beq_eq_false_iff_ne]; omega
  rw [hnb] at h0 hc hps hzi HRD ⊢
  clear hb hca hf hT hnb hA
  go_enter Tryd.func13, Tryd.ntmps13
  go_upto_region 9 with (go_at_call 31; refine HRD.out.mono ?_; rintro e w1 ⟨A1, c1, l1, rfl, hs1, hc1, h641, hb1, hln, hcp⟩; obtain ⟨m, hm1⟩ : ∃ m, l1.length = m := ⟨_, rfl⟩; have HM1 := Lib.hid hm1; have HS1 := Lib.hid hs1; have HC1 := Lib.hid hc1; have HB1 := Lib.hid hb1; have H641 := Lib.hid h641; have HLN := Lib.hid hln; have HU1 := Lib.hid hcp; rw [hm1]; clear hm1 hs1 hc1 hb1 h641 hln hcp HRD)
  have hcw := cell_lo HB1.out HCA.out
  by_cases hmn : m = n
  · subst hmn
    have hrt : rightT l1 := ⟨by rw [HM1.out]; exact hn, H641.out⟩
    have HENC2 := Lib.hid (HENC.out A1 c1 l1 w1 HB1.out HS1.out hrt)
    rw [HM1.out] at HENC2
    obtain ⟨eb, heb⟩ : ∃ eb, encT 1 l1 = eb := ⟨_, rfl⟩
    rw [heb] at HENC2
    by_cases heq : eb = b
    · have HOK : Hid (EncofT 1 m b l1) := ⟨hrt, HM1.out, by rw [heb]; exact heq⟩
      subst heq
      clear heb hrt hca0
      go_wp2_with (go_at_call 9; refine HENC2.out.mono ?_; rintro e w2 ⟨v2, rfl, ho, hb2⟩; obtain ⟨A2, c2, rfl, hy2, hq1, hq2, hq3⟩ := ho.form; clear hq1 hq2 hq3; have HB2 := Lib.hid (HB1.out.trans (hb2.mono HB1.out.size)); have HS2 := Lib.hid (HS1.out.keep hb2); have hc1 := conv hy2 c2; have hc2 := conv (HB.out.keep HB2.out) cap; rw [HNB.out] at hc1 hc2 ⊢; clear ho hb2 hy2)
      go_ret2
      exact ⟨HB2.out, .inl ⟨A1, c1, l1, HMK.out l1 HOK.out, fun l' h' => HU1.out l' (HDF.out l' h'), by rw [HM1.out]; rfl, HS2.out, HC1.out⟩⟩
    · have HNO : Hid (∀ L, ¬ decT b m L) := fun L h => by
        have h2 := HDF.out L h
        have := HU1.out L h2
        subst this
        exact heq (heb ▸ h2.2.2)
      have hq : ((str eb).toList == (str b).toList) = false := str_ne heq
      have hq2 : ((str eb).toList != (str b).toList) = true := by simp only [bne, hq]; rfl
      obtain ⟨ne, hne⟩ : ∃ ne, eb.length = ne := ⟨_, rfl⟩
      have HNE := Lib.hid hne
      clear hne heb hrt hca0 heq
      go_wp2_with (go_at_call 9; refine HENC2.out.mono ?_; rintro e w2 ⟨v2, rfl, ho, hb2⟩; obtain ⟨A2, c2, rfl, hy2, hq1, hq2, hq3⟩ := ho.form; clear hq1 hq2 hq3; have HB2 := Lib.hid (HB1.out.trans (hb2.mono HB1.out.size)); have hc1 := conv hy2 c2; have hc2 := conv (HB.out.keep HB2.out) cap; rw [HNE.out] at hc1 ⊢; rw [HNB.out] at hc2; clear ho hb2 hy2)
      go_ret2
      exact ⟨HB2.out, .inr ⟨HNO.out, by rw [if_neg HH.out]; rfl⟩⟩
  · have HNO : Hid (∀ L, ¬ decT b n L) := fun L h => by
      have h2 := HDF.out L h
      have := HU1.out L h2
      subst this
      have := HM1.out
      exact hmn (by rw [← this]; exact h2.2.1)
    have hmi : ¬ (m : Int) = (n : Int) := by omega
    have hei : ((m : Int) == (n : Int)) = false := by rw [beq_eq_false_iff_ne]; exact hmi
    have hei2 : ((m : Int) != (n : Int)) = true := by simp only [bne, hei]; rfl
    clear hca0
    go_wp2
    go_ret2
    exact ⟨HB1.out, .inr ⟨HNO.out, by rw [if_neg HH.out]; rfl⟩⟩
end Go.Proofs.YtjmkipbolldhgaaDoor
