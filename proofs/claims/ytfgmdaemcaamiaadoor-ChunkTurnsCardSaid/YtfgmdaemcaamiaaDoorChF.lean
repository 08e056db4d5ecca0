/- The walk of chunk.Encode. -/
import Derived.Test.YtfgmdaemcaamiaaDoorChE
import Derived.Test.YtfgmdaemcaamiaaDoorChA
import Derived.Test.YtfgmdaemcaamiaaDoorNumber
namespace Go.Proofs.YtfgmdaemcaamiaaDoor
open Go.RowKit
set_option linter.unusedVariables false

set_option maxHeartbeats 2000000 in
theorem enc8_no (kind : Int) (A : Option Addr) (cap : Nat) (l : List Vl) (W : World) (hl : Vls W A l) (hn : l.length ≤ 4000000000000000000) (h : colR kind l = false) :
    Calls Tryd.prog 9 #[.int .i64 kind, .slice A l.length cap] W fun e W' => e = .returned (.tuple #[.slice none 0 0, .int .i64 2]) ∧ Below W.heap.size W W' := by
  have h1 := iscol_any kind A cap l W hl hn
  rw [h] at h1
  have HC := Lib.hid h1
  clear h1 hl h
  generalize l.length = n at *
  go_enter Tryd.func9, Tryd.ntmps9
  go_wp2_with (go_at_call 16; refine HC.out.mono ?_; rintro e w1 ⟨rfl, hb1⟩; have B1 := Lib.hid hb1; clear hb1)
  go_ret2
  exact ⟨rfl, B1.out⟩
theorem below_to {w w1 w2 : World} (h : Below w.heap.size w w1) (k : Below w1.heap.size w1 w2) : Below w.heap.size w w2 := h.trans (k.mono h.size)

set_option maxRecDepth 100000 in
set_option maxHeartbeats 8000000 in
theorem enc8_a (kind : Int) (A : Option Addr) (cap : Nat) (l : List Vl) (W : World) (hl : Vls W A l) (hr : colR kind l = true) (h0 : 0 < nulN l) (h1 : nulN l < l.length) (hT : TabAt W) :
    Calls Tryd.prog 9 #[.int .i64 kind, .slice A l.length cap] W (LaidI W (encC kind l)) := by
  obtain ⟨kn, rfl⟩ : ∃ kn : Nat, kind = (kn : Int) := ⟨kind.toNat, by have := (colR_iff.1 hr).1; omega⟩
  have hkn : 1 ≤ kn ∧ kn ≤ 3 := by have := (colR_iff.1 hr).1; omega
  have hn := (colR_iff.1 hr).2.1
  have hbl := bodyC_len hr
  have hbk : bodyC (kn : Int) l = ((([UInt8.ofNat kn] ++ num l.length) ++ num (nulN l)) ++ maskB l) ++ othB (kn : Int) l := by
    unfold bodyC tailC
    simp only [Int.toNat_natCast, List.cons_append, List.nil_append, List.append_assoc]
  have hc1 := iscol_any (kn : Int) A cap l W hl (by omega)
  rw [hr] at hc1
  have HC := Lib.hid hc1
  have HNU := Lib.hid (fun w (h : Below W.heap.size W w) => nulls_any A cap l w (hl.keep h) (by omega))
  have hkb : ((UInt8.ofNat kn).toNat : Int) = (kn : Int) := by rw [UInt8.toNat_ofNat']; omega
  obtain ⟨kb, hkbe⟩ : ∃ kb, UInt8.ofNat kn = kb := ⟨_, rfl⟩
  rw [hkbe] at hkb hbk
  have HN1 := Lib.hid (fun w => number_any (some ⟨w.heap.size, 0, none⟩) 1 l.length [kb] (w.alloc (.cells #[Value.int .u8 (kn : Int)] 5)) (byt_one w kb _ hkb.symm) (by simp) (by simp) (by omega))
  have hnum1 := num_len l.length
  have hnum2 := num_len (nulN l)
  have hno := nulN_oth l
  have HMK := Lib.hid (fun w (h : Below W.heap.size W w) => maskof_any A cap l w (hl.keep h) (by omega))
  have hmk : maskB l = packL ((l.length + 7) / 8) (bitsP 1 (maskL l)) := by unfold maskB; rw [if_pos ⟨h0, h1⟩]
  have hmkl := maskL_len l
  have hmw := maskL_wid l
  have hmbl := maskB_len l hn
  have HPK := Lib.hid (fun (w w2 : World) (hw : Below W.heap.size W w) (hm : Num w (some ⟨w2.heap.size, 0, none⟩) (maskL l)) => pack_good 1 (some ⟨w2.heap.size, 0, none⟩) l.length (maskL l) w hm (by omega) (by omega) hmw (hT.keep hw))
  have HOT := Lib.hid (fun w (h : Below W.heap.size W w) => encoth_any (kn : Int) A cap l w (hl.keep h) hr h1 (hT.keep h))
  have hobl := othB_len hr
  obtain ⟨bd, hbd⟩ : ∃ bd, bodyC (kn : Int) l = bd := ⟨_, rfl⟩
  have HRES : Hid (encC (kn : Int) l = bd ++ sumB bd) := by show _ = _; rw [← hbd]; rfl
  rw [hbd] at hbk hbl
  have HSU := Lib.hid (fun (A2 : Option Addr) (c2 nb : Nat) (w : World) (hnb : bd.length = nb) (hb : Byt w A2 bd) (hA : A2 = none → c2 = 0) => sumof_any A2 c2 nb bd w hnb hb hA (by omega))
  rw [show (maskL l).length = l.length from hmkl] at HPK
  rw [Nat.mul_one, ← hmk] at HPK
  have HML : Hid ((maskB l).length = (l.length + 7) / 8) := by show _ = _; rw [hmk, packL_len]
  have HBK := Lib.hid hbk
  generalize maskB l = mb at *
  generalize othB (kn : Int) l = ob at *
  obtain ⟨n, hne⟩ : ∃ n, l.length = n := ⟨_, rfl⟩
  obtain ⟨m, hme⟩ : ∃ m, nulN l = m := ⟨_, rfl⟩
  rw [hne] at hn h1 hnum1 hbk hno ⊢
  rw [hme] at h0 h1 hnum2 hbk hno
  clear hl hr hT hc1 hbk hbd hkbe
  have HNE := Lib.hid hne
  have HME := Lib.hid hme
  rw [hne] at HC HNU HN1 HBK
  rw [hme] at HNU HBK
  rw [hne] at HMK HPK HML
  have hml := HML.out
  have hml1 : (num n).length ≤ 10 := hnum1.2
  have hml2 : (num m).length ≤ 10 := hnum2.2
  have HL1 := Lib.hid hml1
  have HL2 := Lib.hid hml2
  have hlt : (m : Int) < (n : Int) := by omega
  rw [hne] at HOT
  have hpos : (0 : Int) < (m : Int) := by omega
  have hkw : (kn : Int) % 256 = (kn : Int) := by omega
  clear hne hme hkb hnum1 hnum2 hml1 hml2 hmk
  unfold LaidI
  go_enter Tryd.func9, Tryd.ntmps9
  go_wp2_with fail
  go_at_call 16
  refine HC.out.mono ?_
  rintro e w1 ⟨rfl, hb1⟩
  have B1 := Lib.hid hb1
  clear hb1
  go_wp2_with fail
  go_at_call 17
  refine (HNU.out w1 B1.out).mono ?_
  rintro e w2 ⟨rfl, hb2⟩
  have B2 := Lib.hid (below_to B1.out hb2)
  clear hb2
  go_wp2_with fail
  refine (HN1.out w2).mono ?_
  rintro e w3 ⟨v3, rfl, ho3, hb3⟩
  have hb3 := below_to B2.out (((Below.refl _ w2).alloc (Nat.le_refl _) _).trans (hb3.mono (by simp)))
  have ho3 := ho3.base (B' := W.heap.size) (by have := B2.out.size; simp; omega)
  have hp1 : ([kb] ++ num n).length ≤ 11 := by have := HL1.out; simp; omega
  obtain ⟨b3, hb3e⟩ : ∃ b3, [kb] ++ num n = b3 := ⟨_, rfl⟩
  rw [hb3e] at ho3 hp1 HBK
  obtain ⟨A3, c3, rfl, hy3, ha3, hc3, hm3⟩ := ho3.form
  have HN2 := Lib.hid (number_any A3 c3 m b3 w3 hy3 ha3 (by omega) (by omega))
  have B3 := Lib.hid hb3
  have hp2 : (b3 ++ num m).length ≤ 21 := by have := HL2.out; rw [List.length_append]; omega
  obtain ⟨p3, hp3⟩ : ∃ p3, b3.length = p3 := ⟨_, rfl⟩
  rw [hp3] at HN2 ⊢
  clear hb3 ho3 hy3 ha3 hp3 hb3e hp1 hc3 hm3 HN1
  go_wp2_with fail
  refine HN2.out.mono ?_
  rintro e w4 ⟨v4, rfl, ho4, hb4⟩
  have hb4 := below_to B3.out hb4
  have ho4 := ho4.base (B' := W.heap.size) B3.out.size
  obtain ⟨b4, hb4e⟩ : ∃ b4, b3 ++ num m = b4 := ⟨_, rfl⟩
  rw [hb4e] at ho4 hp2 HBK
  obtain ⟨A4, c4, rfl, hy4, ha4, hc4, hm4⟩ := ho4.form
  have B4 := Lib.hid hb4
  have O4 := Lib.hid ho4
  obtain ⟨p4, hp4⟩ : ∃ p4, b4.length = p4 := ⟨_, rfl⟩
  have HP4 := Lib.hid hp4
  rw [hp4] at O4 hp2 ⊢
  clear hb4 ho4 hy4 ha4 hp4 hb4e hc4 hm4 HN2
  go_wp2_with fail
  go_at_call 20
  refine (HMK.out w4 B4.out).mono ?_
  rintro e w5 ⟨rfl, hm5, hb5⟩
  have O4 := Lib.hid (O4.out.below hb5)
  have HPK5 := Lib.hid (HPK.out w5 w4 (below_to B4.out hb5) hm5)
  have B5 := Lib.hid (below_to B4.out hb5)
  clear hm5 hb5
  go_wp2_with fail
  refine HPK5.out.mono ?_
  rintro e w6 ⟨rfl, hm6, hb6⟩
  have O4 := Lib.hid (O4.out.below hb6)
  have B6 := Lib.hid (below_to B5.out hb6)
  have hy6 : Byt w6 (some ⟨w5.heap.size, 0, none⟩) mb := by
    intro k hk
    refine ⟨w5.heap.size, 0, rfl, ?_⟩
    rw [Nat.zero_add, hm6.at_]
    simp [u8s, hk]
  have HY6 := Lib.hid hy6
  clear hm6 hb6 hy6
  go_wp2_with (refine app_byt W rfl _ _ rfl _ b4 rfl O4.out B6.out _ _ _ mb rfl HML.out.symm HY6.out (by simp) (by rw [HP4.out]; omega) ?_; intro v7 w7 ho7 hb7 hg7; refine Hid.out ?_)
  refine Lib.hid ?_
  clear hg7
  have hp7 : (b4 ++ mb).length ≤ 300 := by (rw [List.length_append, HP4.out, HML.out]; omega)
  obtain ⟨b7, hb7e⟩ : ∃ b7, b4 ++ mb = b7 := ⟨_, rfl⟩
  rw [hb7e] at ho7 hp7 HBK
  obtain ⟨A7, c7, rfl, hy7, ha7, hc7, hm7⟩ := ho7.form
  obtain ⟨p7, hp7e⟩ : ∃ p7, b7.length = p7 := ⟨_, rfl⟩
  have HP7 := Lib.hid hp7e
  have O7 := Lib.hid ho7
  rw [hp7e] at hp7 O7 ⊢
  have B7 := Lib.hid hb7
  clear ho7 hb7 hy7 ha7 hc7 hm7 hb7e hp7e
  go_wp2_with fail
  go_at_call 21
  refine (HOT.out w7 B7.out).mono ?_
  rintro e w8 ⟨v8, rfl, ho8, hb8⟩
  have O7 := Lib.hid (O7.out.below hb8)
  have B8 := Lib.hid (below_to B7.out hb8)
  obtain ⟨A8, c8, rfl, hy8, ha8, hc8, hm8⟩ := ho8.form
  have HY8 := Lib.hid hy8
  have HA8 := Lib.hid ha8
  obtain ⟨p8, hp8⟩ : ∃ p8, ob.length = p8 := ⟨_, rfl⟩
  have HP8 := Lib.hid hp8
  rw [hp8] at hobl ⊢
  clear ho8 hb8 hy8 ha8 hc8 hm8 hp8
  go_wp2_with (refine app_byt W rfl _ _ rfl _ b7 rfl O7.out B8.out _ _ _ ob rfl HP8.out.symm HY8.out HA8.out (by rw [HP7.out, HP8.out]; omega) ?_; intro v9 w9 ho9 hb9 hg9; refine Hid.out ?_)
  refine Lib.hid ?_
  clear hg9
  rw [← HBK.out] at ho9
  obtain ⟨A9, c9, rfl, hy9, ha9, hc9, hm9⟩ := ho9.form
  obtain ⟨p9, hp9e⟩ : ∃ p9, bd.length = p9 := ⟨_, rfl⟩
  have HP9 := Lib.hid hp9e
  have O9 := Lib.hid ho9
  have HSU9 := Lib.hid (HSU.out A9 c9 p9 w9 hp9e hy9 ha9)
  rw [hp9e] at O9 hbl ⊢
  have B9 := Lib.hid hb9
  clear ho9 hb9 hy9 ha9 hc9 hm9 hp9e
  go_wp2_with fail
  go_at_call 22
  refine HSU9.out.mono ?_
  rintro e w10 ⟨v10, rfl, ho10, hb10⟩
  have O9 := Lib.hid (O9.out.below hb10)
  have B10 := Lib.hid (below_to B9.out hb10)
  obtain ⟨A10, c10, rfl, hy10, ha10, hc10, hm10⟩ := ho10.form
  have HY10 := Lib.hid hy10
  have HA10 := Lib.hid ha10
  have hp10 := sumB_len bd
  have HP10 := Lib.hid hp10
  rw [hp10]
  clear ho10 hb10 hy10 ha10 hc10 hm10 hp10
  go_wp2_with (refine app_byt W rfl _ _ rfl _ bd rfl O9.out B10.out _ _ _ (sumB bd) rfl HP10.out.symm HY10.out HA10.out (by rw [HP9.out, HP10.out]; omega) ?_; intro v11 w11 ho11 hb11 hg11; refine Hid.out ?_)
  refine Lib.hid ?_
  clear hg11
  rw [← HRES.out] at ho11
  obtain ⟨A11, c11, rfl, _, _, _, _⟩ := ho11.form
  have O11 := Lib.hid ho11
  have B11 := Lib.hid hb11
  clear ho11 hb11
  go_wp2_with fail
  go_ret2
  exact ⟨_, rfl, O11.out, B11.out⟩

set_option maxRecDepth 100000 in
set_option maxHeartbeats 8000000 in
theorem enc8_b (kind : Int) (A : Option Addr) (cap : Nat) (l : List Vl) (W : World) (hl : Vls W A l) (hr : colR kind l = true) (h0 : 0 < nulN l) (h1 : ¬ nulN l < l.length) (hT : TabAt W) :
    Calls Tryd.prog 9 #[.int .i64 kind, .slice A l.length cap] W (LaidI W (encC kind l)) := by
  obtain ⟨kn, rfl⟩ : ∃ kn : Nat, kind = (kn : Int) := ⟨kind.toNat, by have := (colR_iff.1 hr).1; omega⟩
  have hkn : 1 ≤ kn ∧ kn ≤ 3 := by have := (colR_iff.1 hr).1; omega
  have hn := (colR_iff.1 hr).2.1
  have hbl := bodyC_len hr
  have hbk : bodyC (kn : Int) l = ((([UInt8.ofNat kn] ++ num l.length) ++ num (nulN l)) ++ maskB l) ++ othB (kn : Int) l := by
    unfold bodyC tailC
    simp only [Int.toNat_natCast, List.cons_append, List.nil_append, List.append_assoc]
  have hc1 := iscol_any (kn : Int) A cap l W hl (by omega)
  rw [hr] at hc1
  have HC := Lib.hid hc1
  have HNU := Lib.hid (fun w (h : Below W.heap.size W w) => nulls_any A cap l w (hl.keep h) (by omega))
  have hkb : ((UInt8.ofNat kn).toNat : Int) = (kn : Int) := by rw [UInt8.toNat_ofNat']; omega
  obtain ⟨kb, hkbe⟩ : ∃ kb, UInt8.ofNat kn = kb := ⟨_, rfl⟩
  rw [hkbe] at hkb hbk
  have HN1 := Lib.hid (fun w => number_any (some ⟨w.heap.size, 0, none⟩) 1 l.length [kb] (w.alloc (.cells #[Value.int .u8 (kn : Int)] 5)) (byt_one w kb _ hkb.symm) (by simp) (by simp) (by omega))
  have hnum1 := num_len l.length
  have hnum2 := num_len (nulN l)
  have hno := nulN_oth l
  have hmk : maskB l = [] := by unfold maskB; rw [if_neg (by omega)]
  have hot : othB (kn : Int) l = [] := by unfold othB; rw [if_neg h1]
  obtain ⟨bd, hbd⟩ : ∃ bd, bodyC (kn : Int) l = bd := ⟨_, rfl⟩
  have HRES : Hid (encC (kn : Int) l = bd ++ sumB bd) := by show _ = _; rw [← hbd]; rfl
  rw [hbd] at hbk hbl
  have HSU := Lib.hid (fun (A2 : Option Addr) (c2 nb : Nat) (w : World) (hnb : bd.length = nb) (hb : Byt w A2 bd) (hA : A2 = none → c2 = 0) => sumof_any A2 c2 nb bd w hnb hb hA (by omega))
  rw [hmk, List.append_nil] at hbk
  rw [hot, List.append_nil] at hbk
  have HBK := Lib.hid hbk
  generalize maskB l = mb at *
  generalize othB (kn : Int) l = ob at *
  obtain ⟨n, hne⟩ : ∃ n, l.length = n := ⟨_, rfl⟩
  obtain ⟨m, hme⟩ : ∃ m, nulN l = m := ⟨_, rfl⟩
  rw [hne] at hn h1 hnum1 hbk hno ⊢
  rw [hme] at h0 h1 hnum2 hbk hno
  clear hl hr hT hc1 hbk hbd hkbe
  have HNE := Lib.hid hne
  have HME := Lib.hid hme
  rw [hne] at HC HNU HN1 HBK
  rw [hme] at HNU HBK
  have hml1 : (num n).length ≤ 10 := hnum1.2
  have hml2 : (num m).length ≤ 10 := hnum2.2
  have HL1 := Lib.hid hml1
  have HL2 := Lib.hid hml2
  have hlt : ¬ (m : Int) < (n : Int) := by omega
  have hpos : (0 : Int) < (m : Int) := by omega
  have hkw : (kn : Int) % 256 = (kn : Int) := by omega
  clear hne hme hkb hnum1 hnum2 hml1 hml2 hmk
  unfold LaidI
  go_enter Tryd.func9, Tryd.ntmps9
  go_wp2_with fail
  go_at_call 16
  refine HC.out.mono ?_
  rintro e w1 ⟨rfl, hb1⟩
  have B1 := Lib.hid hb1
  clear hb1
  go_wp2_with fail
  go_at_call 17
  refine (HNU.out w1 B1.out).mono ?_
  rintro e w2 ⟨rfl, hb2⟩
  have B2 := Lib.hid (below_to B1.out hb2)
  clear hb2
  go_wp2_with fail
  refine (HN1.out w2).mono ?_
  rintro e w3 ⟨v3, rfl, ho3, hb3⟩
  have hb3 := below_to B2.out (((Below.refl _ w2).alloc (Nat.le_refl _) _).trans (hb3.mono (by simp)))
  have ho3 := ho3.base (B' := W.heap.size) (by have := B2.out.size; simp; omega)
  have hp1 : ([kb] ++ num n).length ≤ 11 := by have := HL1.out; simp; omega
  obtain ⟨b3, hb3e⟩ : ∃ b3, [kb] ++ num n = b3 := ⟨_, rfl⟩
  rw [hb3e] at ho3 hp1 HBK
  obtain ⟨A3, c3, rfl, hy3, ha3, hc3, hm3⟩ := ho3.form
  have HN2 := Lib.hid (number_any A3 c3 m b3 w3 hy3 ha3 (by omega) (by omega))
  have B3 := Lib.hid hb3
  have hp2 : (b3 ++ num m).length ≤ 21 := by have := HL2.out; rw [List.length_append]; omega
  obtain ⟨p3, hp3⟩ : ∃ p3, b3.length = p3 := ⟨_, rfl⟩
  rw [hp3] at HN2 ⊢
  clear hb3 ho3 hy3 ha3 hp3 hb3e hp1 hc3 hm3 HN1
  go_wp2_with fail
  refine HN2.out.mono ?_
  rintro e w4 ⟨v4, rfl, ho4, hb4⟩
  have hb4 := below_to B3.out hb4
  have ho4 := ho4.base (B' := W.heap.size) B3.out.size
  obtain ⟨b4, hb4e⟩ : ∃ b4, b3 ++ num m = b4 := ⟨_, rfl⟩
  rw [hb4e] at ho4 hp2 HBK
  obtain ⟨A4, c4, rfl, hy4, ha4, hc4, hm4⟩ := ho4.form
  have B4 := Lib.hid hb4
  have O4 := Lib.hid ho4
  obtain ⟨p4, hp4⟩ : ∃ p4, b4.length = p4 := ⟨_, rfl⟩
  have HP4 := Lib.hid hp4
  rw [hp4] at O4 hp2 ⊢
  clear hb4 ho4 hy4 ha4 hp4 hb4e hc4 hm4 HN2
  obtain ⟨b7, hb7⟩ : ∃ b7, b7 = b4 := ⟨_, rfl⟩
  obtain ⟨w7, hw7⟩ : ∃ w7, w7 = w4 := ⟨_, rfl⟩
  obtain ⟨p7, hp7⟩ : ∃ p7, p7 = p4 := ⟨_, rfl⟩
  obtain ⟨A7, hA7⟩ : ∃ A7, A7 = A4 := ⟨_, rfl⟩
  obtain ⟨c7, hc7⟩ : ∃ c7, c7 = c4 := ⟨_, rfl⟩
  have O7 := O4
  have HP7 := HP4
  have B7 := B4
  rw [← hb7] at O7 HBK HP7
  rw [← hp7] at O7 HP7 hp2 ⊢
  rw [← hw7] at O7 B7 ⊢
  rw [← hA7, ← hc7] at O7 ⊢
  have hp7b : p7 ≤ 300 := by omega
  clear hb7 hw7 hp7 hA7 hc7 O4 HP4 B4
  obtain ⟨A9, hA9⟩ : ∃ A9, A9 = A7 := ⟨_, rfl⟩
  have ho9 := O7.out
  have hp9e := HP7.out
  rw [← HBK.out] at ho9 hp9e
  have O9 := Lib.hid ho9
  have HP9 := Lib.hid hp9e
  have hfo := ho9.form
  rw [hp9e] at hfo
  obtain ⟨A9', c9', he9, hy9, ha9, _, _⟩ := hfo
  injection he9 with he9 _ he9c
  subst he9 he9c
  have HSU9 := Lib.hid (HSU.out A7 c7 p7 w7 hp9e hy9 ha9)
  have B9 := B7
  clear hA9 ho9 hp9e hy9 ha9
  obtain ⟨w9, hw9⟩ : ∃ w9, w9 = w7 := ⟨_, rfl⟩
  rw [← hw9] at HSU9 B9 O9 ⊢
  clear hw9
  go_wp2_with fail
  go_at_call 22
  refine HSU9.out.mono ?_
  rintro e w10 ⟨v10, rfl, ho10, hb10⟩
  have O9 := Lib.hid (O9.out.below hb10)
  have B10 := Lib.hid (below_to B9.out hb10)
  obtain ⟨A10, c10, rfl, hy10, ha10, hc10, hm10⟩ := ho10.form
  have HY10 := Lib.hid hy10
  have HA10 := Lib.hid ha10
  have hp10 := sumB_len bd
  have HP10 := Lib.hid hp10
  rw [hp10]
  clear ho10 hb10 hy10 ha10 hc10 hm10 hp10
  go_wp2_with (refine app_byt W rfl _ _ rfl _ bd rfl O9.out B10.out _ _ _ (sumB bd) rfl HP10.out.symm HY10.out HA10.out (by rw [HP9.out, HP10.out]; omega) ?_; intro v11 w11 ho11 hb11 hg11; refine Hid.out ?_)
  refine Lib.hid ?_
  clear hg11
  rw [← HRES.out] at ho11
  obtain ⟨A11, c11, rfl, _, _, _, _⟩ := ho11.form
  have O11 := Lib.hid ho11
  have B11 := Lib.hid hb11
  clear ho11 hb11
  go_wp2_with fail
  go_ret2
  exact ⟨_, rfl, O11.out, B11.out⟩

set_option maxRecDepth 100000 in
set_option maxHeartbeats 8000000 in
theorem enc8_c (kind : Int) (A : Option Addr) (cap : Nat) (l : List Vl) (W : World) (hl : Vls W A l) (hr : colR kind l = true) (h0 : ¬ 0 < nulN l) (h1 : nulN l < l.length) (hT : TabAt W) :
    Calls Tryd.prog 9 #[.int .i64 kind, .slice A l.length cap] W (LaidI W (encC kind l)) := by
  obtain ⟨kn, rfl⟩ : ∃ kn : Nat, kind = (kn : Int) := ⟨kind.toNat, by have := (colR_iff.1 hr).1; omega⟩
  have hkn : 1 ≤ kn ∧ kn ≤ 3 := by have := (colR_iff.1 hr).1; omega
  have hn := (colR_iff.1 hr).2.1
  have hbl := bodyC_len hr
  have hbk : bodyC (kn : Int) l = ((([UInt8.ofNat kn] ++ num l.length) ++ num (nulN l)) ++ maskB l) ++ othB (kn : Int) l := by
    unfold bodyC tailC
    simp only [Int.toNat_natCast, List.cons_append, List.nil_append, List.append_assoc]
  have hc1 := iscol_any (kn : Int) A cap l W hl (by omega)
  rw [hr] at hc1
  have HC := Lib.hid hc1
  have HNU := Lib.hid (fun w (h : Below W.heap.size W w) => nulls_any A cap l w (hl.keep h) (by omega))
  have hkb : ((UInt8.ofNat kn).toNat : Int) = (kn : Int) := by rw [UInt8.toNat_ofNat']; omega
  obtain ⟨kb, hkbe⟩ : ∃ kb, UInt8.ofNat kn = kb := ⟨_, rfl⟩
  rw [hkbe] at hkb hbk
  have HN1 := Lib.hid (fun w => number_any (some ⟨w.heap.size, 0, none⟩) 1 l.length [kb] (w.alloc (.cells #[Value.int .u8 (kn : Int)] 5)) (byt_one w kb _ hkb.symm) (by simp) (by simp) (by omega))
  have hnum1 := num_len l.length
  have hnum2 := num_len (nulN l)
  have hno := nulN_oth l
  have hmk : maskB l = [] := by unfold maskB; rw [if_neg (by omega)]
  have HOT := Lib.hid (fun w (h : Below W.heap.size W w) => encoth_any (kn : Int) A cap l w (hl.keep h) hr h1 (hT.keep h))
  have hobl := othB_len hr
  obtain ⟨bd, hbd⟩ : ∃ bd, bodyC (kn : Int) l = bd := ⟨_, rfl⟩
  have HRES : Hid (encC (kn : Int) l = bd ++ sumB bd) := by show _ = _; rw [← hbd]; rfl
  rw [hbd] at hbk hbl
  have HSU := Lib.hid (fun (A2 : Option Addr) (c2 nb : Nat) (w : World) (hnb : bd.length = nb) (hb : Byt w A2 bd) (hA : A2 = none → c2 = 0) => sumof_any A2 c2 nb bd w hnb hb hA (by omega))
  rw [hmk, List.append_nil] at hbk
  have HBK := Lib.hid hbk
  generalize maskB l = mb at *
  generalize othB (kn : Int) l = ob at *
  obtain ⟨n, hne⟩ : ∃ n, l.length = n := ⟨_, rfl⟩
  obtain ⟨m, hme⟩ : ∃ m, nulN l = m := ⟨_, rfl⟩
  rw [hne] at hn h1 hnum1 hbk hno ⊢
  rw [hme] at h0 h1 hnum2 hbk hno
  clear hl hr hT hc1 hbk hbd hkbe
  have HNE := Lib.hid hne
  have HME := Lib.hid hme
  rw [hne] at HC HNU HN1 HBK
  rw [hme] at HNU HBK
  have hml1 : (num n).length ≤ 10 := hnum1.2
  have hml2 : (num m).length ≤ 10 := hnum2.2
  have HL1 := Lib.hid hml1
  have HL2 := Lib.hid hml2
  have hlt : (m : Int) < (n : Int) := by omega
  rw [hne] at HOT
  have hpos : ¬ (0 : Int) < (m : Int) := by omega
  have hkw : (kn : Int) % 256 = (kn : Int) := by omega
  clear hne hme hkb hnum1 hnum2 hml1 hml2 hmk
  unfold LaidI
  go_enter Tryd.func9, Tryd.ntmps9
  go_wp2_with fail
  go_at_call 16
  refine HC.out.mono ?_
  rintro e w1 ⟨rfl, hb1⟩
  have B1 := Lib.hid hb1
  clear hb1
  go_wp2_with fail
  go_at_call 17
  refine (HNU.out w1 B1.out).mono ?_
  rintro e w2 ⟨rfl, hb2⟩
  have B2 := Lib.hid (below_to B1.out hb2)
  clear hb2
  go_wp2_with fail
  refine (HN1.out w2).mono ?_
  rintro e w3 ⟨v3, rfl, ho3, hb3⟩
  have hb3 := below_to B2.out (((Below.refl _ w2).alloc (Nat.le_refl _) _).trans (hb3.mono (by simp)))
  have ho3 := ho3.base (B' := W.heap.size) (by have := B2.out.size; simp; omega)
  have hp1 : ([kb] ++ num n).length ≤ 11 := by have := HL1.out; simp; omega
  obtain ⟨b3, hb3e⟩ : ∃ b3, [kb] ++ num n = b3 := ⟨_, rfl⟩
  rw [hb3e] at ho3 hp1 HBK
  obtain ⟨A3, c3, rfl, hy3, ha3, hc3, hm3⟩ := ho3.form
  have HN2 := Lib.hid (number_any A3 c3 m b3 w3 hy3 ha3 (by omega) (by omega))
  have B3 := Lib.hid hb3
  have hp2 : (b3 ++ num m).length ≤ 21 := by have := HL2.out; rw [List.length_append]; omega
  obtain ⟨p3, hp3⟩ : ∃ p3, b3.length = p3 := ⟨_, rfl⟩
  rw [hp3] at HN2 ⊢
  clear hb3 ho3 hy3 ha3 hp3 hb3e hp1 hc3 hm3 HN1
  go_wp2_with fail
  refine HN2.out.mono ?_
  rintro e w4 ⟨v4, rfl, ho4, hb4⟩
  have hb4 := below_to B3.out hb4
  have ho4 := ho4.base (B' := W.heap.size) B3.out.size
  obtain ⟨b4, hb4e⟩ : ∃ b4, b3 ++ num m = b4 := ⟨_, rfl⟩
  rw [hb4e] at ho4 hp2 HBK
  obtain ⟨A4, c4, rfl, hy4, ha4, hc4, hm4⟩ := ho4.form
  have B4 := Lib.hid hb4
  have O4 := Lib.hid ho4
  obtain ⟨p4, hp4⟩ : ∃ p4, b4.length = p4 := ⟨_, rfl⟩
  have HP4 := Lib.hid hp4
  rw [hp4] at O4 hp2 ⊢
  clear hb4 ho4 hy4 ha4 hp4 hb4e hc4 hm4 HN2
  obtain ⟨b7, hb7⟩ : ∃ b7, b7 = b4 := ⟨_, rfl⟩
  obtain ⟨w7, hw7⟩ : ∃ w7, w7 = w4 := ⟨_, rfl⟩
  obtain ⟨p7, hp7⟩ : ∃ p7, p7 = p4 := ⟨_, rfl⟩
  obtain ⟨A7, hA7⟩ : ∃ A7, A7 = A4 := ⟨_, rfl⟩
  obtain ⟨c7, hc7⟩ : ∃ c7, c7 = c4 := ⟨_, rfl⟩
  have O7 := O4
  have HP7 := HP4
  have B7 := B4
  rw [← hb7] at O7 HBK HP7
  rw [← hp7] at O7 HP7 hp2 ⊢
  rw [← hw7] at O7 B7 ⊢
  rw [← hA7, ← hc7] at O7 ⊢
  have hp7b : p7 ≤ 300 := by omega
  clear hb7 hw7 hp7 hA7 hc7 O4 HP4 B4
  go_wp2_with fail
  go_at_call 21
  refine (HOT.out w7 B7.out).mono ?_
  rintro e w8 ⟨v8, rfl, ho8, hb8⟩
  have O7 := Lib.hid (O7.out.below hb8)
  have B8 := Lib.hid (below_to B7.out hb8)
  obtain ⟨A8, c8, rfl, hy8, ha8, hc8, hm8⟩ := ho8.form
  have HY8 := Lib.hid hy8
  have HA8 := Lib.hid ha8
  obtain ⟨p8, hp8⟩ : ∃ p8, ob.length = p8 := ⟨_, rfl⟩
  have HP8 := Lib.hid hp8
  rw [hp8] at hobl ⊢
  clear ho8 hb8 hy8 ha8 hc8 hm8 hp8
  go_wp2_with (refine app_byt W rfl _ _ rfl _ b7 rfl O7.out B8.out _ _ _ ob rfl HP8.out.symm HY8.out HA8.out (by rw [HP7.out, HP8.out]; omega) ?_; intro v9 w9 ho9 hb9 hg9; refine Hid.out ?_)
  refine Lib.hid ?_
  clear hg9
  rw [← HBK.out] at ho9
  obtain ⟨A9, c9, rfl, hy9, ha9, hc9, hm9⟩ := ho9.form
  obtain ⟨p9, hp9e⟩ : ∃ p9, bd.length = p9 := ⟨_, rfl⟩
  have HP9 := Lib.hid hp9e
  have O9 := Lib.hid ho9
  have HSU9 := Lib.hid (HSU.out A9 c9 p9 w9 hp9e hy9 ha9)
  rw [hp9e] at O9 hbl ⊢
  have B9 := Lib.hid hb9
  clear ho9 hb9 hy9 ha9 hc9 hm9 hp9e
  go_wp2_with fail
  go_at_call 22
  refine HSU9.out.mono ?_
  rintro e w10 ⟨v10, rfl, ho10, hb10⟩
  have O9 := Lib.hid (O9.out.below hb10)
  have B10 := Lib.hid (below_to B9.out hb10)
  obtain ⟨A10, c10, rfl, hy10, ha10, hc10, hm10⟩ := ho10.form
  have HY10 := Lib.hid hy10
  have HA10 := Lib.hid ha10
  have hp10 := sumB_len bd
  have HP10 := Lib.hid hp10
  rw [hp10]
  clear ho10 hb10 hy10 ha10 hc10 hm10 hp10
  go_wp2_with (refine app_byt W rfl _ _ rfl _ bd rfl O9.out B10.out _ _ _ (sumB bd) rfl HP10.out.symm HY10.out HA10.out (by rw [HP9.out, HP10.out]; omega) ?_; intro v11 w11 ho11 hb11 hg11; refine Hid.out ?_)
  refine Lib.hid ?_
  clear hg11
  rw [← HRES.out] at ho11
  obtain ⟨A11, c11, rfl, _, _, _, _⟩ := ho11.form
  have O11 := Lib.hid ho11
  have B11 := Lib.hid hb11
  clear ho11 hb11
  go_wp2_with fail
  go_ret2
  exact ⟨_, rfl, O11.out, B11.out⟩

set_option maxRecDepth 100000 in
set_option maxHeartbeats 8000000 in
theorem enc8_d (kind : Int) (A : Option Addr) (cap : Nat) (l : List Vl) (W : World) (hl : Vls W A l) (hr : colR kind l = true) (h0 : ¬ 0 < nulN l) (h1 : ¬ nulN l < l.length) (hT : TabAt W) :
    Calls Tryd.prog 9 #[.int .i64 kind, .slice A l.length cap] W (LaidI W (encC kind l)) := by
  obtain ⟨kn, rfl⟩ : ∃ kn : Nat, kind = (kn : Int) := ⟨kind.toNat, by have := (colR_iff.1 hr).1; omega⟩
  have hkn : 1 ≤ kn ∧ kn ≤ 3 := by have := (colR_iff.1 hr).1; omega
  have hn := (colR_iff.1 hr).2.1
  have hbl := bodyC_len hr
  have hbk : bodyC (kn : Int) l = ((([UInt8.ofNat kn] ++ num l.length) ++ num (nulN l)) ++ maskB l) ++ othB (kn : Int) l := by
    unfold bodyC tailC
    simp only [Int.toNat_natCast, List.cons_append, List.nil_append, List.append_assoc]
  have hc1 := iscol_any (kn : Int) A cap l W hl (by omega)
  rw [hr] at hc1
  have HC := Lib.hid hc1
  have HNU := Lib.hid (fun w (h : Below W.heap.size W w) => nulls_any A cap l w (hl.keep h) (by omega))
  have hkb : ((UInt8.ofNat kn).toNat : Int) = (kn : Int) := by rw [UInt8.toNat_ofNat']; omega
  obtain ⟨kb, hkbe⟩ : ∃ kb, UInt8.ofNat kn = kb := ⟨_, rfl⟩
  rw [hkbe] at hkb hbk
  have HN1 := Lib.hid (fun w => number_any (some ⟨w.heap.size, 0, none⟩) 1 l.length [kb] (w.alloc (.cells #[Value.int .u8 (kn : Int)] 5)) (byt_one w kb _ hkb.symm) (by simp) (by simp) (by omega))
  have hnum1 := num_len l.length
  have hnum2 := num_len (nulN l)
  have hno := nulN_oth l
  have hmk : maskB l = [] := by unfold maskB; rw [if_neg (by omega)]
  have hot : othB (kn : Int) l = [] := by unfold othB; rw [if_neg h1]
  obtain ⟨bd, hbd⟩ : ∃ bd, bodyC (kn : Int) l = bd := ⟨_, rfl⟩
  have HRES : Hid (encC (kn : Int) l = bd ++ sumB bd) := by show _ = _; rw [← hbd]; rfl
  rw [hbd] at hbk hbl
  have HSU := Lib.hid (fun (A2 : Option Addr) (c2 nb : Nat) (w : World) (hnb : bd.length = nb) (hb : Byt w A2 bd) (hA : A2 = none → c2 = 0) => sumof_any A2 c2 nb bd w hnb hb hA (by omega))
  rw [hmk, List.append_nil] at hbk
  rw [hot, List.append_nil] at hbk
  have HBK := Lib.hid hbk
  generalize maskB l = mb at *
  generalize othB (kn : Int) l = ob at *
  obtain ⟨n, hne⟩ : ∃ n, l.length = n := ⟨_, rfl⟩
  obtain ⟨m, hme⟩ : ∃ m, nulN l = m := ⟨_, rfl⟩
  rw [hne] at hn h1 hnum1 hbk hno ⊢
  rw [hme] at h0 h1 hnum2 hbk hno
  clear hl hr hT hc1 hbk hbd hkbe
  have HNE := Lib.hid hne
  have HME := Lib.hid hme
  rw [hne] at HC HNU HN1 HBK
  rw [hme] at HNU HBK
  have hml1 : (num n).length ≤ 10 := hnum1.2
  have hml2 : (num m).length ≤ 10 := hnum2.2
  have HL1 := Lib.hid hml1
  have HL2 := Lib.hid hml2
  have hlt : ¬ (m : Int) < (n : Int) := by omega
  have hpos : ¬ (0 : Int) < (m : Int) := by omega
  have hkw : (kn : Int) % 256 = (kn : Int) := by omega
  clear hne hme hkb hnum1 hnum2 hml1 hml2 hmk
  unfold LaidI
  go_enter Tryd.func9, Tryd.ntmps9
  go_wp2_with fail
  go_at_call 16
  refine HC.out.mono ?_
  rintro e w1 ⟨rfl, hb1⟩
  have B1 := Lib.hid hb1
  clear hb1
  go_wp2_with fail
  go_at_call 17
  refine (HNU.out w1 B1.out).mono ?_
  rintro e w2 ⟨rfl, hb2⟩
  have B2 := Lib.hid (below_to B1.out hb2)
  clear hb2
  go_wp2_with fail
  refine (HN1.out w2).mono ?_
  rintro e w3 ⟨v3, rfl, ho3, hb3⟩
  have hb3 := below_to B2.out (((Below.refl _ w2).alloc (Nat.le_refl _) _).trans (hb3.mono (by simp)))
  have ho3 := ho3.base (B' := W.heap.size) (by have := B2.out.size; simp; omega)
  have hp1 : ([kb] ++ num n).length ≤ 11 := by have := HL1.out; simp; omega
  obtain ⟨b3, hb3e⟩ : ∃ b3, [kb] ++ num n = b3 := ⟨_, rfl⟩
  rw [hb3e] at ho3 hp1 HBK
  obtain ⟨A3, c3, rfl, hy3, ha3, hc3, hm3⟩ := ho3.form
  have HN2 := Lib.hid (number_any A3 c3 m b3 w3 hy3 ha3 (by omega) (by omega))
  have B3 := Lib.hid hb3
  have hp2 : (b3 ++ num m).length ≤ 21 := by have := HL2.out; rw [List.length_append]; omega
  obtain ⟨p3, hp3⟩ : ∃ p3, b3.length = p3 := ⟨_, rfl⟩
  rw [hp3] at HN2 ⊢
  clear hb3 ho3 hy3 ha3 hp3 hb3e hp1 hc3 hm3 HN1
  go_wp2_with fail
  refine HN2.out.mono ?_
  rintro e w4 ⟨v4, rfl, ho4, hb4⟩
  have hb4 := below_to B3.out hb4
  have ho4 := ho4.base (B' := W.heap.size) B3.out.size
  obtain ⟨b4, hb4e⟩ : ∃ b4, b3 ++ num m = b4 := ⟨_, rfl⟩
  rw [hb4e] at ho4 hp2 HBK
  obtain ⟨A4, c4, rfl, hy4, ha4, hc4, hm4⟩ := ho4.form
  have B4 := Lib.hid hb4
  have O4 := Lib.hid ho4
  obtain ⟨p4, hp4⟩ : ∃ p4, b4.length = p4 := ⟨_, rfl⟩
  have HP4 := Lib.hid hp4
  rw [hp4] at O4 hp2 ⊢
  clear hb4 ho4 hy4 ha4 hp4 hb4e hc4 hm4 HN2
  obtain ⟨b7, hb7⟩ : ∃ b7, b7 = b4 := ⟨_, rfl⟩
  obtain ⟨w7, hw7⟩ : ∃ w7, w7 = w4 := ⟨_, rfl⟩
  obtain ⟨p7, hp7⟩ : ∃ p7, p7 = p4 := ⟨_, rfl⟩
  obtain ⟨A7, hA7⟩ : ∃ A7, A7 = A4 := ⟨_, rfl⟩
  obtain ⟨c7, hc7⟩ : ∃ c7, c7 = c4 := ⟨_, rfl⟩
  have O7 := O4
  have HP7 := HP4
  have B7 := B4
  rw [← hb7] at O7 HBK HP7
  rw [← hp7] at O7 HP7 hp2 ⊢
  rw [← hw7] at O7 B7 ⊢
  rw [← hA7, ← hc7] at O7 ⊢
  have hp7b : p7 ≤ 300 := by omega
  clear hb7 hw7 hp7 hA7 hc7 O4 HP4 B4
  obtain ⟨A9, hA9⟩ : ∃ A9, A9 = A7 := ⟨_, rfl⟩
  have ho9 := O7.out
  have hp9e := HP7.out
  rw [← HBK.out] at ho9 hp9e
  have O9 := Lib.hid ho9
  have HP9 := Lib.hid hp9e
  have hfo := ho9.form
  rw [hp9e] at hfo
  obtain ⟨A9', c9', he9, hy9, ha9, _, _⟩ := hfo
  injection he9 with he9 _ he9c
  subst he9 he9c
  have HSU9 := Lib.hid (HSU.out A7 c7 p7 w7 hp9e hy9 ha9)
  have B9 := B7
  clear hA9 ho9 hp9e hy9 ha9
  obtain ⟨w9, hw9⟩ : ∃ w9, w9 = w7 := ⟨_, rfl⟩
  rw [← hw9] at HSU9 B9 O9 ⊢
  clear hw9
  go_wp2_with fail
  go_at_call 22
  refine HSU9.out.mono ?_
  rintro e w10 ⟨v10, rfl, ho10, hb10⟩
  have O9 := Lib.hid (O9.out.below hb10)
  have B10 := Lib.hid (below_to B9.out hb10)
  obtain ⟨A10, c10, rfl, hy10, ha10, hc10, hm10⟩ := ho10.form
  have HY10 := Lib.hid hy10
  have HA10 := Lib.hid ha10
  have hp10 := sumB_len bd
  have HP10 := Lib.hid hp10
  rw [hp10]
  clear ho10 hb10 hy10 ha10 hc10 hm10 hp10
  go_wp2_with (refine app_byt W rfl _ _ rfl _ bd rfl O9.out B10.out _ _ _ (sumB bd) rfl HP10.out.symm HY10.out HA10.out (by rw [HP9.out, HP10.out]; omega) ?_; intro v11 w11 ho11 hb11 hg11; refine Hid.out ?_)
  refine Lib.hid ?_
  clear hg11
  rw [← HRES.out] at ho11
  obtain ⟨A11, c11, rfl, _, _, _, _⟩ := ho11.form
  have O11 := Lib.hid ho11
  have B11 := Lib.hid hb11
  clear ho11 hb11
  go_wp2_with fail
  go_ret2
  exact ⟨_, rfl, O11.out, B11.out⟩

theorem enc8_yes (kind : Int) (A : Option Addr) (cap : Nat) (l : List Vl) (W : World) (hl : Vls W A l) (hr : colR kind l = true) (hT : TabAt W) :
    Calls Tryd.prog 9 #[.int .i64 kind, .slice A l.length cap] W (LaidI W (encC kind l)) := by
  by_cases h0 : 0 < nulN l
  · by_cases h1 : nulN l < l.length
    · exact enc8_a kind A cap l W hl hr h0 h1 hT
    · exact enc8_b kind A cap l W hl hr h0 h1 hT
  · by_cases h1 : nulN l < l.length
    · exact enc8_c kind A cap l W hl hr h0 h1 hT
    · exact enc8_d kind A cap l W hl hr h0 h1 hT
end Go.Proofs.YtfgmdaemcaamiaaDoor
