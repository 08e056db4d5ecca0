/- dict.read's other ways; dict.Decode. -/
import Derived.Test.YtjmkipbolldhgaaDoorDcF
namespace Go.Proofs.YtjmkipbolldhgaaDoor
open Go.RowKit
set_option linter.unusedVariables false

set_option maxHeartbeats 2000000 in
theorem tread0_any (A : Option Addr) (cap n : Nat) (b : List UInt8) (W : World) (hb : Byt W A b) (hA : A = none → cap = 0) (hc : b.length ≤ cap) (hm : cap ≤ 9223372036854775807) (hL : b.length ≤ 140737488355328) (hn : n ≤ 4096) (h0 : 0 < b.length) (hf : b[0] = 0) :
    Calls Tryd.prog 28 #[.slice A b.length cap, .int .i64 (n : Int)] W (RdQ W (EncofT 0 n b) n) := by
  have hpl : (b.take 1).length = 1 := by rw [List.length_take]; omega
  have HTK := Lib.hid (taketexts_any A cap n b.length (b.take 1) b 1 W rfl (by rw [hpl]; rfl) hb hA hc hm hL hn (by omega))
  unfold TkT at HTK
  have HEN : Hid (∀ L, EncofT 0 n b L → (∀ x ∈ L, x.length ≤ 1024) ∧ L.length = n ∧ LiesT (b.take 1) b L) := fun L h => by
    refine ⟨h.1.2, h.2.1, [], ?_⟩
    have e : b = [0] ++ L.flatMap txt := h.2.2.symm
    rw [e]
    simp
  obtain ⟨bx, ox, rfl, hca⟩ := hb 0 h0
  rw [hf] at hca
  have hca0 : W.cell? ⟨bx, ox, none⟩ = some (.int .u8 0) := hca
  have hzi : ((b.length : Int) == 0) = false := by rw [beq_eq_false_iff_ne]; omega
  clear hb hca hf hA hpl
  generalize b.length = nb at *
  go_enter Tryd.func28, Tryd.ntmps28
  go_wp2_with (go_at_call 44; refine HTK.out.mono ?_; rintro e w2 ⟨A5, c5, d, at_, er1, rfl, hsd, hdc, hd64, hb2, hok, hcomp⟩)
  go_ret2
  exact ⟨A5, c5, d, er1, rfl, hsd, hdc, hd64, hb2, fun h => (hok h).1, fun L h => by
    obtain ⟨h1, h2, h3⟩ := HEN.out L h
    obtain ⟨h4, h5, _⟩ := hcomp L h1 h2 h3
    exact ⟨h4, h5⟩⟩
set_option maxHeartbeats 2000000 in
theorem tread_bad (A : Option Addr) (cap n : Nat) (b : List UInt8) (W : World) (hb : Byt W A b) (h : ∀ h0 : 0 < b.length, 2 ≤ (b[0]).toNat) :
    Calls Tryd.prog 28 #[.slice A b.length cap, .int .i64 (n : Int)] W fun e w' => e = .returned (.tuple #[.slice none 0 0, .int .i64 70]) ∧ W = w' := by
  by_cases h0 : b.length = 0
  · rw [h0]
    clear h hb
    go_enter Tryd.func28, Tryd.ntmps28
    go_wp2
    go_ret2
    exact ⟨rfl, rfl⟩
  · have h1 : 0 < b.length := by omega
    have h2 := h h1
    obtain ⟨bx, ox, rfl, hca⟩ := hb 0 h1
    generalize b[0] = c at hca h2
    have hca0 : W.cell? ⟨bx, ox, none⟩ = some (.int .u8 (c.toNat : Int)) := hca
    have h3 : (1 : Int) < (c.toNat : Int) := by omega
    have hzi : ((b.length : Int) == 0) = false := by rw [beq_eq_false_iff_ne]; omega
    clear h hb hca
    generalize b.length = nb at *
    go_enter Tryd.func28, Tryd.ntmps28
    go_wp2
    go_ret2
    exact ⟨rfl, rfl⟩
theorem tread_any (f n : Nat) (hf2 : f < 2) (A : Option Addr) (cap : Nat) (b : List UInt8) (W : World) (hb : Byt W A b) (hA : A = none → cap = 0) (hc : b.length ≤ cap) (hm : cap ≤ 9223372036854775807) (hL : b.length ≤ 140737488355328) (hn : n ≤ 4096) (h0 : 0 < b.length) (hf : (b[0]).toNat = f) (hT : TabAt W) :
    Calls Tryd.prog 28 #[.slice A b.length cap, .int .i64 (n : Int)] W (RdQ W (EncofT f n b) n) := by
  match f, hf2 with
  | 0, _ => exact tread0_any A cap n b W hb hA hc hm hL hn h0 (UInt8.toNat_inj.1 hf)
  | 1, _ => exact tread1_any A cap n b W hb hA hc hm hL hn h0 (UInt8.toNat_inj.1 hf) hT
theorem tenc_any (f : Nat) (hf : f < 2) (A : Option Addr) (cap : Nat) (l : List Tx) (W : World) (hl : Strs W A l) (hr : rightT l) (hT : TabAt W) :
    Calls Tryd.prog 8 #[.int .i64 (f : Int), .slice A l.length cap] W (LaidT W (encT f l)) := by
  match f, hf with
  | 0, _ => exact tenc0_any A cap l W hl hr
  | 1, _ => exact tenc1_any A cap l W hl hr hT
theorem equal7 (A B : Option Addr) (c d : Nat) (a b : List UInt8) (W : World) (ha : Byt W A a) (hb : Byt W B b) :
    Calls Tryd.prog 29 #[.slice A a.length c, .slice B b.length d] W fun e w' => e = .returned (.bool (decide (a = b))) ∧ W = w' := by
  have h1 := conv ha c
  have h2 := conv hb d
  clear ha hb
  by_cases h : a = b
  · subst h
    rw [decide_eq_true rfl]
    go_enter Tryd.func29, Tryd.ntmps29
    go_wp2
    go_ret
    exact ⟨rfl, rfl⟩
  · rw [decide_eq_false h]
    have h3 := str_ne h
    go_enter Tryd.func29, Tryd.ntmps29
    go_wp2
    go_ret
    exact ⟨rfl, rfl⟩
/-- A list that bytes say. -/
def decT (b : List UInt8) (n : Int) (L : List Tx) : Prop := ∃ f : Nat, f < 2 ∧ 0 ≤ n ∧ n ≤ 4096 ∧ EncofT f n.toNat b L
/-- What Decode hands back. -/
def DecTR (W0 : World) (b : List UInt8) (n : Int) (e : Ending) (W' : World) : Prop := Below W0.heap.size W0 W' ∧
  ((∃ A c L, decT b n L ∧ (∀ L', decT b n L' → L = L') ∧ e = .returned (.tuple #[.slice A L.length c, .int .i64 0]) ∧ Strs W' A L ∧ L.length ≤ c) ∨
   ((∀ L, ¬ decT b n L) ∧ e = .returned (.tuple #[.slice none 0 0, .int .i64 (if n < 0 ∨ 4096 < n then 2 else 70)])))
theorem dect_f {b : List UInt8} {n : Int} {L : List Tx} {f : Nat} (h0 : 0 < b.length) (hf : (b[0]).toNat = f) (h : decT b n L) : 0 ≤ n ∧ n ≤ 4096 ∧ EncofT f n.toNat b L := by
  obtain ⟨g, hg, h1, h2, h3⟩ := h
  have : f = g := by
    obtain ⟨_, _, e⟩ := h3
    subst e
    rw [← hf]
    show (UInt8.ofNat g).toNat = g
    rw [UInt8.toNat_ofNat']
    omega
  subst this
  exact ⟨h1, h2, h3⟩
theorem tdec_arg (A : Option Addr) (cap : Nat) (b : List UInt8) (n : Int) (W : World) (h : n < 0 ∨ 4096 < n) :
    Calls Tryd.prog 12 #[.slice A b.length cap, .int .i64 n] W (DecTR W b n) := by
  have HNO : Hid (∀ L, ¬ decT b n L) := fun L hl => by obtain ⟨f, _, h1, h2, _⟩ := hl; omega
  have HREF : Hid (Below W.heap.size W W) := Below.refl _ _
  have HH := Lib.hid h
  by_cases h1 : n < 0
  · generalize b.length = nb at *
    clear h
    go_enter Tryd.func12, Tryd.ntmps12
    go_wp2
    go_ret2
    exact ⟨HREF.out, .inr ⟨HNO.out, by rw [if_pos HH.out]; rfl⟩⟩
  · have h2 : 4096 < n := by omega
    generalize b.length = nb at *
    clear h
    go_enter Tryd.func12, Tryd.ntmps12
    go_wp2
    go_ret2
    exact ⟨HREF.out, .inr ⟨HNO.out, by rw [if_pos HH.out]; rfl⟩⟩
set_option maxHeartbeats 2000000 in
theorem tdec_bad (A : Option Addr) (cap : Nat) (b : List UInt8) (n : Nat) (W : World) (hb : Byt W A b) (hn : n ≤ 4096) (h : ∀ h0 : 0 < b.length, 2 ≤ (b[0]).toNat) :
    Calls Tryd.prog 12 #[.slice A b.length cap, .int .i64 (n : Int)] W (DecTR W b n) := by
  have HH : Hid (¬ ((n : Int) < 0 ∨ 4096 < (n : Int))) := by show ¬ _; omega
  have HREF : Hid (Below W.heap.size W W) := Below.refl _ _
  have HNO : Hid (∀ L, ¬ decT b n L) := fun L hl => by
    obtain ⟨g, hg, h1, h2, _, _, e⟩ := hl
    subst e
    have := h (by unfold encT; simp)
    have e2 : ((encT g L)[0]'(by unfold encT; simp)).toNat = g := by show (UInt8.ofNat g).toNat = g; rw [UInt8.toNat_ofNat']; omega
    omega
  have HQ := Lib.hid (tread_bad A cap n b W hb h)
  have hle : ¬ (4096 : Int) < (n : Int) := by omega
  have hn0 : ¬ (n : Int) < 0 := by omega
  clear hb h
  generalize b.length = nb at *
  go_enter Tryd.func12, Tryd.ntmps12
  go_wp2_with (go_at_call 28; refine HQ.out.mono ?_; rintro e w1 ⟨rfl, rfl⟩)
  go_ret2
  exact ⟨HREF.out, .inr ⟨HNO.out, by rw [if_neg HH.out]; rfl⟩⟩

set_option maxRecDepth 100000 in
set_option maxHeartbeats 4000000 in
theorem tdec_in (f : Nat) (A : Option Addr) (cap : Nat) (b : List UInt8) (n : Nat) (W : World) (hb : Byt W A b) (hA : A = none → cap = 0) (hc : b.length ≤ cap) (hm : cap ≤ 9223372036854775807) (hL : b.length ≤ 140737488355328) (hn : n ≤ 4096) (h0 : 0 < b.length) (hf : (b[0]).toNat = f) (hf2 : f < 2) (hT : TabAt W) :
    Calls Tryd.prog 12 #[.slice A b.length cap, .int .i64 (n : Int)] W (DecTR W b n) := by
  have HH : Hid (¬ ((n : Int) < 0 ∨ 4096 < (n : Int))) := by show ¬ _; omega
  have HDF : Hid (∀ L, decT b n L → EncofT f n b L) := fun L h => (dect_f h0 hf h).2.2
  have HMK : Hid (∀ L, EncofT f n b L → decT b n L) := fun L h => ⟨f, hf2, by omega, by omega, h⟩
  have HRD := Lib.hid (tread_any f n hf2 A cap b W hb hA hc hm hL hn h0 hf hT)
  unfold RdQ at HRD
  have HENC : Hid (∀ A c l (w1 : World), Below W.heap.size W w1 → Strs w1 A l → rightT l → Calls Tryd.prog 8 #[.int .i64 (f : Int), .slice A l.length c] w1 (LaidT w1 (encT f l))) := fun A c l w1 hW hl hr => tenc_any f hf2 A c l w1 hl hr (hT.keep hW)
  unfold LaidT at HENC
  obtain ⟨bx, ox, rfl, hca⟩ := hb 0 h0
  rw [hf] at hca
  have hca0 : W.cell? ⟨bx, ox, none⟩ = some (.int .u8 (f : Int)) := hca
  have HCA := Lib.hid hca0
  have HB := Lib.hid hb
  have HREF : Hid (Below W.heap.size W W) := Below.refl _ _
  have hle : ¬ (4096 : Int) < (n : Int) := by omega
  have hn0 : ¬ (n : Int) < 0 := by omega
  have hcv : IntKind.i64.wrap (f : Int) = (f : Int) := by rw [IntKind.wrap_i64]; omega
  obtain ⟨nb, hnb⟩ : ∃ nb, b.length = nb := ⟨_, rfl⟩
  have HNB := Lib.hid hnb
  have hps : (0 : Int) < (b.length : Int) := by omega
  rw [hnb] at h0 hc hps HRD ⊢
  clear hb hca hf hT hnb hca0 hA
  go_enter Tryd.func12, Tryd.ntmps12
  go_upto_region 4 with (go_at_call 28; refine HRD.out.mono ?_; rintro e w1 ⟨A1, c1, l1, er, rfl, hs1, hc1, h641, hb1, hok, hcomp⟩; obtain ⟨m, hm1⟩ : ∃ m, l1.length = m := ⟨_, rfl⟩; have HM1 := Lib.hid hm1; have HS1 := Lib.hid hs1; have HC1 := Lib.hid hc1; have HB1 := Lib.hid hb1; have H641 := Lib.hid h641; have HOK1 := Lib.hid hok; have HU1 := Lib.hid hcomp; rw [hm1]; clear hm1 hs1 hc1 hb1 h641 hok hcomp HRD)
  by_cases her : er = 0
  · subst her
    obtain rfl : m = n := by rw [← HM1.out]; exact HOK1.out rfl
    have hrt : rightT l1 := ⟨by rw [HM1.out]; exact hn, H641.out⟩
    have HENC2 := Lib.hid (HENC.out A1 c1 l1 w1 HB1.out HS1.out hrt)
    rw [HM1.out] at HENC2
    have hel := encT_len (f := f) hrt
    obtain ⟨eb, heb⟩ : ∃ eb, encT f l1 = eb := ⟨_, rfl⟩
    rw [heb] at HENC2 hel
    have hcw := cell_lo HB1.out HCA.out
    by_cases heq : eb = b
    · have HOK : Hid (EncofT f m b l1) := ⟨hrt, HM1.out, by rw [heb]; exact heq⟩
      subst heq
      clear heb hrt hel
      go_wp2_with (first | (go_at_call 8; refine HENC2.out.mono ?_; rintro e w2 ⟨v2, rfl, ho, hb2⟩; obtain ⟨A2, c2, rfl, hy2, _, _, _⟩ := ho.form; have HB2 := Lib.hid (HB1.out.trans (hb2.mono HB1.out.size)); have HS2 := Lib.hid (HS1.out.keep hb2); have heq2 := equal7 A2 (some ⟨bx, ox, none⟩) c2 cap eb eb w2 hy2 (HB.out.keep HB2.out); rw [decide_eq_true rfl, HNB.out] at heq2; have HEQ := Lib.hid heq2; rw [HNB.out]; clear ho hb2 hy2 heq2) | (go_at_call 29; refine HEQ.out.mono ?_; rintro e w3 ⟨rfl, rfl⟩))
      go_ret2
      exact ⟨HB2.out, .inl ⟨A1, c1, l1, HMK.out l1 HOK.out, fun l' h' => (HU1.out l' (HDF.out l' h')).2, by rw [HM1.out]; rfl, HS2.out, HC1.out⟩⟩
    · have HNO : Hid (∀ L, ¬ decT b m L) := fun L h => by
        have h2 := HDF.out L h
        have := (HU1.out L h2).2
        subst this
        exact heq (heb ▸ h2.2.2)
      have HNEQ := Lib.hid heq
      clear heb heq hrt hel
      obtain ⟨ne, hne⟩ : ∃ ne, eb.length = ne := ⟨_, rfl⟩
      have HNE := Lib.hid hne
      clear hne
      go_wp2_with (first | (go_at_call 8; refine HENC2.out.mono ?_; rintro e w2 ⟨v2, rfl, ho, hb2⟩; obtain ⟨A2, c2, rfl, hy2, _, _, _⟩ := ho.form; have HB2 := Lib.hid (HB1.out.trans (hb2.mono HB1.out.size)); have heq2 := equal7 A2 (some ⟨bx, ox, none⟩) c2 cap eb b w2 hy2 (HB.out.keep HB2.out); rw [decide_eq_false HNEQ.out, HNB.out, HNE.out] at heq2; have HEQ := Lib.hid heq2; rw [HNE.out]; clear ho hb2 hy2 heq2) | (go_at_call 29; refine HEQ.out.mono ?_; rintro e w3 ⟨rfl, rfl⟩))
      go_ret2
      exact ⟨HB2.out, .inr ⟨HNO.out, by rw [if_neg HH.out]; rfl⟩⟩
  · have hei : (er == 0) = false := by rw [beq_eq_false_iff_ne]; exact her
    have hei2 : (er != 0) = true := by simp [her]
    have HNO : Hid (∀ L, ¬ decT b n L) := fun L h => her (HU1.out L (HDF.out L h)).1
    go_wp2
    go_ret2
    exact ⟨HB1.out, .inr ⟨HNO.out, by rw [if_neg HH.out]; rfl⟩⟩
theorem tdecode_any (A : Option Addr) (cap : Nat) (b : List UInt8) (n : Int) (W : World) (hb : Byt W A b) (hA : A = none → cap = 0) (hc : b.length ≤ cap) (hm : cap ≤ 9223372036854775807) (hL : b.length ≤ 140737488355328) (hT : TabAt W) :
    Calls Tryd.prog 12 #[.slice A b.length cap, .int .i64 n] W (DecTR W b n) := by
  by_cases h : n < 0 ∨ 4096 < n
  · exact tdec_arg A cap b n W h
  · obtain ⟨k, rfl⟩ : ∃ k : Nat, n = (k : Int) := ⟨n.toNat, by omega⟩
    by_cases h2 : ∀ h0 : 0 < b.length, 2 ≤ (b[0]).toNat
    · exact tdec_bad A cap b k W hb (by omega) h2
    · simp only [Classical.not_forall] at h2
      obtain ⟨h0, h5⟩ := h2
      exact tdec_in _ A cap b k W hb hA hc hm hL (by omega) h0 rfl (by omega) hT
end Go.Proofs.YtjmkipbolldhgaaDoor
