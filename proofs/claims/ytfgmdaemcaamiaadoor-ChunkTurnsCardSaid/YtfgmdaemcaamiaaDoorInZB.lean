/- Joined: The document's Encode: what is packed. The document's Encode: steps, frame. The document's Encode: frame. The document's Encode: runs. The document's Encode, and its Best. The walk of stackyardlaw06.IntsWords. Encodings read back: the plain model. The document's Decode: forms 0 and 1. The document's Decode: forms 2 and 3. The document's Decode: form 2. The document's Decode, and Same. -/
import Derived.Test.YtfgmdaemcaamiaaDoorInZA
import Derived.Test.YtfgmdaemcaamiaaDoorPkA
import Derived.Test.YtfgmdaemcaamiaaDoorRefNum
import Derived.Test.YtfgmdaemcaamiaaDoorRegR
import Derived.Test.YtfgmdaemcaamiaaDoorOne0
import Derived.Deep.QuietTactic
import Derived.BigQuiet
import Derived.Test.YtfgmdaemcaamiaaDoorSigned
import Derived.Outline
/-! The document's Encode: what is packed. -/
namespace Go.Proofs.YtfgmdaemcaamiaaDoor
open Go.RowKit
set_option linter.unusedVariables false

set_option maxRecDepth 100000 in
set_option maxHeartbeats 4000000 in
theorem refpacked_any (Ab A : Option Addr) (cb cap : Nat) (b : List UInt8) (d : List W64) (W0 W : World) (hown : Own W W0.heap.size (.slice Ab b.length cb) b) (hbel : Below W0.heap.size W0 W) (hbl : b.length ≤ 100000) (hl : Num W A d) (hlen : d.length ≤ 4096) :
    Calls Tryd.prog 103 #[.slice Ab b.length cb, .slice A d.length cap] W (Made W0 (b ++ packD d)) := by
  have hwl := widL_le d
  have hwid := refwidth_any A cap d W hl (by omega)
  have hpk : Calls Tryd.prog 26 #[.int .i64 (widL d : Int), .slice A d.length cap] W fun e W' => e = .returned (.tuple #[.slice (some ⟨W.heap.size, 0, none⟩) (pkB (widL d : Int) d).length (pkB (widL d : Int) d).length, .int .i64 0]) ∧ Blk W' W.heap.size 5 (u8s (pkB (widL d : Int) d)) ∧ Below W.heap.size W W' := by
    have e : pkB (widL d : Int) d = packL ((d.length * widL d + 7) / 8) (bitsP (widL d) d) := if_pos (pkE_zero.1 (packE_self hlen))
    rw [e, packL_len]
    refine (refpack_any (widL d) A cap d W hl hwl hlen).mono ?_
    rintro x W' (⟨_, h1, h2, h3⟩ | ⟨h, _⟩)
    · exact ⟨h1, h2, h3⟩
    · omega
  have hps := pkB_small (w := (widL d : Int)) hlen (by omega)
  have hcv : IntKind.u8.wrap ((widL d : Nat) : Int) = ((UInt8.ofNat (widL d)).toNat : Int) := by rw [IntKind.wrap_u8, UInt8.toNat_ofNat']; omega
  have hfin : b ++ packD d = (b ++ [UInt8.ofNat (widL d)]) ++ pkB (widL d : Int) d := by unfold packD; simp
  rw [hfin]
  obtain ⟨wc, hwc⟩ : ∃ wc, UInt8.ofNat (widL d) = wc := ⟨_, rfl⟩
  rw [hwc] at hcv ⊢
  generalize widL d = wd at *
  obtain ⟨pk, hpke⟩ : ∃ pk, pkB (wd : Int) d = pk := ⟨_, rfl⟩
  rw [hpke] at hpk hps ⊢
  obtain ⟨X, hX⟩ : ∃ X, W.heap.size = X := ⟨_, rfl⟩
  have hnx : (Value.slice Ab b.length cb).ownBlock ≠ some X := fun e => by have h1 := (World.ownsRow.lt hown X e).2; omega
  have hsz0 := hbel.size
  have HSZ0 := Lib.hid hsz0
  have HOWN := Lib.hid hown
  have HBEL := Lib.hid hbel
  have HWID := Lib.hid hwid
  have HPK := Lib.hid hpk
  have HCV := Lib.hid hcv
  have HNX := Lib.hid hnx
  have HL1 : Hid (b.length + 1 ≤ 140737488355328) := by show _ ≤ _; omega
  obtain ⟨b7, hb7⟩ : ∃ x, b ++ [wc] = x := ⟨_, rfl⟩
  have HB7 := Lib.hid hb7
  have hl7 : b7.length ≤ 100001 := by rw [← hb7, List.length_append]; simp; omega
  have HL2 : Hid (b7.length + pk.length ≤ 140737488355328) := by show _ ≤ _; omega
  rw [hb7]
  obtain ⟨n7, hn7⟩ : ∃ x, b7.length = x := ⟨_, rfl⟩
  have HN7 := Lib.hid hn7
  obtain ⟨nb, hnb⟩ : ∃ nb, b.length = nb := ⟨_, rfl⟩
  obtain ⟨nd, hnd⟩ : ∃ nd, d.length = nd := ⟨_, rfl⟩
  obtain ⟨np, hnp⟩ : ∃ np, pk.length = np := ⟨_, rfl⟩
  have HNP := Lib.hid hnp
  rw [hnp, hX] at HPK
  rw [hnd] at HPK HWID ⊢
  rw [hnb] at HOWN HNX ⊢
  have HXX := Lib.hid hX
  clear hown hbel hwid hpk hps hl hfin hwc hpke hnb hnd hnp hlen hwl hb7 hl7 hn7 hcv hX hnx hsz0 hbl
  go_enter Tryd.func103, Tryd.ntmps103
  go_wp2_with (first | (go_at_call 80; refine HWID.out.mono ?_; rintro e w1 ⟨rfl, rfl⟩) | (go_at_call 26; refine HPK.out.mono ?_; rintro e w2 ⟨rfl, y2, hb2⟩; have Y2 := Lib.hid y2; have HB2 := Lib.hid (HXX.out ▸ hb2); have O2 := Lib.hid (HOWN.out.below (HXX.out.symm ▸ hb2)); have E2 := Lib.hid (HBEL.out.trans ((HXX.out.symm ▸ hb2 : Below _ _ _).mono HSZ0.out)); clear y2 hb2) | (refine app_at W0 rfl _ _ rfl (.slice Ab nb cb) b rfl (O2.out.alloc _) (E2.out.alloc E2.out.size _) (some ⟨w2.heap.size, 0, none⟩) 1 1 [wc] rfl rfl (byt_one w2 wc _ HCV.out) (by simp) HL1.out ?_; intro v7 w7 hown7 hbel7 hg7 hat7; rw [HB7.out] at hown7; have Y7 := Lib.hid (grown_blk hg7 (Y2.out.later _) HNX.out); obtain ⟨A7, c7, rfl, _, _, _, _⟩ := hown7.form; rw [HN7.out] at hown7 ⊢; have O7 := Lib.hid hown7; have E7 := Lib.hid hbel7; clear hown7 hbel7 hg7 hat7) | (refine app_at W0 rfl _ _ rfl (.slice A7 n7 c7) b7 rfl O7.out E7.out (some ⟨X, 0, none⟩) np np pk rfl HNP.out.symm Y7.out.byt (by simp) HL2.out ?_; intro v8 w8 hown8 hbel8 _ _; have O8 := Lib.hid hown8; have E8 := Lib.hid hbel8; clear hown8 hbel8))
  go_ret
  exact ⟨_, rfl, O8.out, E8.out⟩
end Go.Proofs.YtfgmdaemcaamiaaDoor

/-! The document's Encode: steps, frame. -/
namespace Go.Proofs.YtfgmdaemcaamiaaDoor
open Go.RowKit
set_option linter.unusedVariables false

theorem refsig_own (Ab : Option Addr) (cb n : Nat) (b : List UInt8) (x : Int) (B : Nat) (W w1 : World) (hnb : b.length = n) (hown : Own W B (.slice Ab n cb) b) (hb : Below W.heap.size W w1) (hbl : b.length ≤ 200000) (hx : I64 x) :
    Calls Tryd.prog 84 #[.slice Ab n cb, .int .i64 x] w1 (Made w1 (b ++ sgn x)) := by
  subst hnb
  obtain ⟨A, c, e, hby, hc, _, _⟩ := hown.form
  injection e with e1 _ e3
  subst e1 e3
  exact refsigned_any Ab cb x b w1 (hby.keep hb) hc (by omega) hx.1 hx.2
theorem refnum_own (Ab : Option Addr) (cb n : Nat) (b : List UInt8) (x : Nat) (B : Nat) (W w1 : World) (hnb : b.length = n) (hown : Own W B (.slice Ab n cb) b) (hb : Below W.heap.size W w1) (hbl : b.length ≤ 200000) (hx : x < 18446744073709551616) :
    Calls Tryd.prog 25 #[.slice Ab n cb, .int .u64 x] w1 (Made w1 (b ++ num x)) := by
  subst hnb
  obtain ⟨A, c, e, hby, hc, _, _⟩ := hown.form
  injection e with e1 _ e3
  subst e1 e3
  exact refnumber_any Ab cb x b w1 (hby.keep hb) hc (by omega) hx
/-- A row is laid, and numbers packed behind it. -/
theorem refpacked_own (Ab A : Option Addr) (cb cap n nd : Nat) (b : List UInt8) (d : List W64) (W0 W1 W2 : World) (hn : b.length = n) (hown : Own W2 W1.heap.size (.slice Ab n cb) b) (h01 : Below W0.heap.size W0 W1) (h12 : Below W1.heap.size W1 W2) (hbl : b.length ≤ 100000) (hl : Num W1 A d) (hnd : d.length = nd) (hlen : d.length ≤ 4096) :
    Calls Tryd.prog 103 #[.slice Ab n cb, .slice A nd cap] W2 (Made W0 (b ++ packD d)) := by
  subst hn hnd
  exact refpacked_any Ab A cb cap b d W0 W2 (hown.base h01.size) (h01.trans (h12.mono h01.size)) hbl (hl.keep h12) hlen

theorem num_one (w : World) (t : TypeId) (x : Int) (s : W64) (hx : x = (s.toNat : Int)) : Num (w.alloc (.cells #[Value.int .u64 x] t)) (some ⟨w.heap.size, 0, none⟩) [s] := by
  subst hx
  intro i hi
  have h0 : i = 0 := by simpa using hi
  subst h0
  exact ⟨w.heap.size, 0, rfl, (Blk.born w t [Value.int .u64 (s.toNat : Int)]).at_ 0⟩

set_option maxRecDepth 100000 in
set_option maxHeartbeats 4000000 in
theorem refsteps_any (Ab A : Option Addr) (cb cap : Nat) (b : List UInt8) (l : List Int) (W0 W : World) (hown : Own W W0.heap.size (.slice Ab b.length cb) b) (hbel : Below W0.heap.size W0 W) (hbl : b.length ≤ 1000) (hl : Ints W A l) (h64 : All64 l) (hn : l.length ≤ 4096) :
    Calls Tryd.prog 82 #[.slice Ab b.length cb, .slice A l.length cap] W (Made W0 (b ++ encB 2 l)) := by
  have HOWN := Lib.hid hown
  have HBEL := Lib.hid hbel
  by_cases hl0 : l = []
  · subst hl0
    have hb0 : b ++ encB 2 [] = b := List.append_nil b
    rw [hb0]
    generalize b.length = nb at *
    clear hown hbel hl h64
    go_enter Tryd.func82, Tryd.ntmps82
    go_wp2
    go_ret
    exact ⟨_, rfl, HOWN.out, HBEL.out⟩
  · obtain ⟨a, m, ha, hg0, hfin, hsl, hct⟩ : ∃ a m, I64 a ∧ (∃ b o, A = some ⟨b, o, none⟩ ∧ W.cell? ⟨b, o, none⟩ = some (.int .i64 a)) ∧ b ++ encB 2 l = (b ++ sgn a) ++ packD (stepsL l) ∧ (stepsL l).length = m ∧ l.length = m + 1 := by
      cases l with
      | nil => exact absurd rfl hl0
      | cons a t =>
        obtain ⟨b1, o1, h1, h2⟩ := hl 0 (by simp)
        exact ⟨a, t.length, h64 a (by simp), ⟨b1, o1, h1, h2⟩, by rw [List.append_assoc]; rfl, stepsL_len a t, rfl⟩
    have hst := fun k h => stepsL_take l k h
    rw [hfin]
    have hsg := sgn_len a
    have hs1 := fun w1 (h : Below W.heap.size W w1) => refsig_own Ab cb b.length b a W0.heap.size W w1 rfl hown h (by omega) ha
    obtain ⟨S, hS⟩ : ∃ S, stepsL l = S := ⟨_, rfl⟩
    rw [hS] at hst hsl ⊢
    obtain ⟨b5, hb5⟩ : ∃ x, b ++ sgn a = x := ⟨_, rfl⟩
    have hl5 : b5.length ≤ 1010 := by rw [← hb5, List.length_append]; omega
    rw [hb5] at hs1 ⊢
    obtain ⟨n5, hn5⟩ : ∃ x, b5.length = x := ⟨_, rfl⟩
    have HS1 := Lib.hid hs1
    have HL5 := Lib.hid hl5
    have HN5 := Lib.hid hn5
    have HBEL := Lib.hid hbel
    have HSL := Lib.hid hsl
    have HST := Lib.hid hst
    have HL := Lib.hid hl
    have H64 := Lib.hid h64
    have HCT := Lib.hid hct
    obtain ⟨bx, ox, rfl, hca⟩ := hg0
    have HCA := Lib.hid hca
    obtain ⟨nb, hnb⟩ : ∃ nb, b.length = nb := ⟨_, rfl⟩
    rw [hnb] at HS1 ⊢
    obtain ⟨n, hnm⟩ : ∃ n, m + 1 = n := ⟨_, rfl⟩
    rw [hnm] at hct HCT
    rw [hct] at hn ⊢
    have hzi : ((n : Int) == 0) = false := by rw [beq_eq_false_iff_ne]; omega
    have hzn : ¬ (n : Int) = 0 := by omega
    have hbel0 := Lib.hid (Below.refl W.heap.size W)
    clear hown hbel hs1 hl5 hn5 hsl hst hl h64 hct hfin hS hb5 HOWN hsg ha hca hnb hl0
    go_enter Tryd.func82, Tryd.ntmps82
    go_wp2
    go_loopw [5, 6] (fun v i wr => ∃ k : Nat, 1 ≤ k ∧ k ≤ n ∧ i = .int .i64 k ∧ OwnN wr W.heap.size v (S.take (k - 1)) ∧ Below W.heap.size W wr) (fun _ i _ => n - (intOf i).toNat)
    case atStart => exact ⟨1, by omega, by omega, rfl, ⟨rfl, .inl ⟨rfl, rfl⟩⟩, hbel0.out⟩
    case round =>
      obtain ⟨k, hk1, hk, rfl, hown, hbel⟩ := hrel
      obtain ⟨j, rfl⟩ : ∃ j, k = j + 1 := ⟨k - 1, by omega⟩
      rw [Nat.add_sub_cancel] at hown
      obtain ⟨A5, c5, rfl, hnum, hc5⟩ := hown.form
      have hkl : (S.take j).length = j := by rw [List.length_take, HSL.out]; omega
      have HOWN5 := Lib.hid hown
      have HBEL5 := Lib.hid hbel
      have HNUM5 := Lib.hid hnum
      have hcar := cell_low hbel HCA.out
      by_cases hlt : j + 1 < n
      · have hj : j + 1 < l.length := by rw [HCT.out]; exact hlt
        obtain ⟨b1, o1, e1, hx⟩ := HL.out j (by omega)
        injection e1 with e1
        injection e1 with e2 e3
        subst e2 e3
        obtain ⟨b1, o1, e1, hy⟩ := HL.out (j + 1) hj
        injection e1 with e1
        injection e1 with e2 e3
        subst e2 e3
        have hs := HST.out j hj
        generalize l[j]'(by omega) = x at hx hs
        generalize l[j + 1] = y at hy hs
        have hd := dif_64 x y
        have HCX := Lib.hid hx
        have HCY := Lib.hid hy
        clear hx hy
        have hz := fun w1 => zig_any (dif x y) w1 hd.1 hd.2
        have hdw : dif x y = IntKind.i64.wrap (y - x) := by rfl
        have hzn := stepW_nat x y
        obtain ⟨sw, hsw⟩ : ∃ sw, stepW x y = sw := ⟨_, rfl⟩
        rw [hsw] at hs hzn
        simp only [← hzn] at hz
        rw [hdw] at hz
        have HZ := Lib.hid hz
        have HS := Lib.hid hs
        have HK : Hid (j + 1 < n) := hlt
        have HKL : Hid ((S.take j).length + 1 ≤ 17000000000000) := by show _ ≤ _; omega
        have hwr : IntKind.i64.wrap (((j + 1 : Nat) : Int) - 1) = (j : Int) := by rw [IntKind.wrap_i64]; omega
        have hj2 : (j : Int) < (n : Int) := by omega
        rw [hkl] at HOWN5 ⊢
        have hj6 : IntKind.i64.wrap (j : Int) = (j : Int) := by rw [IntKind.wrap_i64]; omega
        have hj4 : (0 : Int) ≤ (j : Int) + 1 := by omega
        have hj5 : (0 : Int) ≤ (j : Int) := by omega
        clear hs hown hbel hnum hc5 hkl hz hzn hsw hd hj hk1
        go_upto_region 7 with fail
        clear hcar
        refine wpS_start (fun W' => Below W.heap.size W W') 15 (by kernel_rfl) rfl (fun RG HR => ?_)
        refine wpS_take HR (i := 0) (v := .slice A5 j c5) rfl (by decide +kernel) (by decide +kernel) (by decide +kernel) (fun _ _ _ h => h) (by rfl) (HBEL5.out.drew) (fun W' hW => by go_simp) ?_
        go_simp
        refine wpS_take HR (i := 1) (v := .slice (some ⟨bx, ox, none⟩) n cap) rfl (by decide +kernel) (by decide +kernel) (by decide +kernel) (fun _ _ _ h => h) (by rfl) (HBEL5.out.drew) (fun W' hW => by go_simp) ?_
        go_simp
        refine wpS_take HR (i := 2) (v := .int .i64 ((j : Int) + 1)) rfl (by decide +kernel) (by decide +kernel) (by decide +kernel) (fun _ _ _ h => h) (by rfl) (HBEL5.out.drew) (fun W' hW => by go_simp) ?_
        go_simp
        refine wpS_take HR (i := 3) (v := .pointer (some ⟨bx, ox + (j + 1), none⟩)) rfl (by decide +kernel) (by decide +kernel) (by decide +kernel) (fun _ _ _ h => h) (by rfl) (HBEL5.out.drew) (fun W' hW => by go_simp) ?_
        go_simp
        refine wpS_take HR (i := 4) (v := .int .i64 y) rfl (by decide +kernel) (by decide +kernel) (by decide +kernel) (fun _ _ _ h => h) (by rfl) (HBEL5.out.drew) (fun W' hW => by have hc := cell_low hW HCY.out; go_simp) ?_
        go_simp
        refine wpS_take HR (i := 5) (v := .slice (some ⟨bx, ox, none⟩) n cap) rfl (by decide +kernel) (by decide +kernel) (by decide +kernel) (fun _ _ _ h => h) (by rfl) (HBEL5.out.drew) (fun W' hW => by go_simp) ?_
        go_simp
        refine wpS_take HR (i := 6) (v := .int .i64 ((j : Int) + 1)) rfl (by decide +kernel) (by decide +kernel) (by decide +kernel) (fun _ _ _ h => h) (by rfl) (HBEL5.out.drew) (fun W' hW => by go_simp) ?_
        go_simp
        refine wpS_take HR (i := 7) (v := .int .i64 (j : Int)) rfl (by decide +kernel) (by decide +kernel) (by decide +kernel) (fun _ _ _ h => h) (by rfl) (HBEL5.out.drew) (fun W' hW => by go_simp) ?_
        go_simp
        refine wpS_take HR (i := 8) (v := .pointer (some ⟨bx, ox + j, none⟩)) rfl (by decide +kernel) (by decide +kernel) (by decide +kernel) (fun _ _ _ h => h) (by rfl) (HBEL5.out.drew) (fun W' hW => by go_simp) ?_
        go_simp
        refine wpS_take HR (i := 9) (v := .int .i64 x) rfl (by decide +kernel) (by decide +kernel) (by decide +kernel) (fun _ _ _ h => h) (by rfl) (HBEL5.out.drew) (fun W' hW => by have hc := cell_low hW HCX.out; go_simp) ?_
        go_simp
        refine wpS_take HR (i := 10) (v := .int .i64 (IntKind.i64.wrap (y - x))) rfl (by decide +kernel) (by decide +kernel) (by decide +kernel) (fun _ _ _ h => h) (by rfl) (HBEL5.out.drew) (fun W' hW => by go_simp) ?_
        go_simp
        refine wpS_step1 HR (i := 11) (by decide +kernel) ?_
        refine stepS_call HR rfl (by rfl) (by go_simp; exact ⟨rfl, rfl⟩) ?_
        refine (HZ.out _).mono ?_
        rintro e w1 ⟨rfl, rfl⟩
        refine ⟨_, rfl, HBEL5.out.drew, ?_⟩
        go_simp
        refine wpS_step1 HR (i := 12) (by decide +kernel) ?_
        refine stepS_list HR rfl rfl ?_
        intro K hK
        go_wp2
        refine (hK _ _ (HBEL5.out.drew.alloc (by exact HBEL5.out.size) _) ?_)
        clear hK K
        go_simp
        refine wpS_step1 HR (i := 13) (by decide +kernel) ?_
        refine stepS_list HR rfl rfl ?_
        intro K hK
        refine app_num W rfl _ _ rfl _ (S.take j) rfl (World.ownsRow.alloc (w := wr.drew) HOWN5.out _) (HBEL5.out.drew.alloc (by exact HBEL5.out.size) _) (some ⟨_, 0, none⟩) 1 1 [sw] rfl rfl (num_one _ _ _ sw rfl) (by simp) HKL.out ?_
        intro v6 w6 hown6 hbel6
        rw [← HS.out] at hown6
        have O6 := Lib.hid hown6
        have E6 := Lib.hid hbel6
        clear hown6 hbel6
        refine wpList_nil (hK _ _ (E6.out) ?_)
        clear hK K
        go_simp
        refine wpS_step1 HR (i := 14) (by decide +kernel) ?_
        refine stepS_list HR rfl rfl ?_
        intro K hK
        go_wp2
        refine (hK _ _ (E6.out) ?_)
        clear hK K
        go_simp
        refine wpS_done HR (by decide +kernel) ?_
        go_wp2
        go_roundw
        case rel => exact ⟨j + 2, by omega, HK.out, by go_num, O6.out, E6.out⟩
        case measure => simp [intOf]; have := HK.out; omega
      · obtain rfl : j = m := by omega
        have hSj : S.take j = S := List.take_of_length_le (by rw [HSL.out]; omega)
        rw [hSj] at hnum hkl ⊢
        have hs1 := HS1.out wr hbel
        have HSIG := Lib.hid hs1
        have HNUM := Lib.hid hnum
        have HS4 : Hid (S.length ≤ 4096) := by show _ ≤ _; omega
        have HW0 : Hid (Below W0.heap.size W0 wr) := HBEL.out.trans (hbel.mono HBEL.out.size)
        have HL5' : Hid (b5.length ≤ 100000) := by show _ ≤ _; have := HL5.out; omega
        rw [hkl]
        have HKL := Lib.hid hkl
        clear hs1 hown hbel hnum hc5 hkl hSj HOWN5 HBEL5 HNUM5 hk1 hk HL HST HL5
        go_wp2_with (first | (go_at_call 84; refine HSIG.out.mono ?_; rintro e w1 ⟨v1, rfl, hown, hb1⟩; obtain ⟨A1, c1, rfl, _, _, _, _⟩ := hown.form; have HP := Lib.hid (refpacked_own A1 A5 c1 c5 n5 j b5 S W0 wr w1 HN5.out (by rw [← HN5.out]; exact hown) HW0.out hb1 HL5'.out HNUM.out HKL.out HS4.out); rw [HN5.out]; clear hown hb1) | (go_at_call 103; refine HP.out.mono ?_; rintro e w2 ⟨v2, rfl, ho2, hb2⟩; have O2 := Lib.hid ho2; have B2 := Lib.hid hb2; clear ho2 hb2))
        go_ret
        exact ⟨_, rfl, O2.out, B2.out⟩
end Go.Proofs.YtfgmdaemcaamiaaDoor

/-! The document's Encode: frame. -/
namespace Go.Proofs.YtfgmdaemcaamiaaDoor
open Go.RowKit
set_option linter.unusedVariables false

set_option maxRecDepth 100000 in
set_option maxHeartbeats 4000000 in
theorem refframe_any (Ab A : Option Addr) (cb cap : Nat) (b : List UInt8) (l : List Int) (W0 W : World) (hown : Own W W0.heap.size (.slice Ab b.length cb) b) (hbel : Below W0.heap.size W0 W) (hbl : b.length ≤ 1000) (hl : Ints W A l) (h64 : All64 l) (hn : l.length ≤ 4096) :
    Calls Tryd.prog 83 #[.slice Ab b.length cb, .slice A l.length cap] W (Made W0 (b ++ encB 3 l)) := by
  have HOWN := Lib.hid hown
  have HBEL := Lib.hid hbel
  by_cases hl0 : l = []
  · subst hl0
    have hb0 : b ++ encB 3 [] = b := List.append_nil b
    rw [hb0]
    generalize b.length = nb at *
    clear hown hbel hl h64
    go_enter Tryd.func83, Tryd.ntmps83
    go_wp2
    go_ret
    exact ⟨_, rfl, HOWN.out, HBEL.out⟩
  · have h0 : 0 < l.length := List.length_pos_iff.2 hl0
    obtain ⟨MN, hMN⟩ : ∃ MN : Nat → Int, MN = fun k => minL (l.take (max k 1)) := ⟨_, rfl⟩
    have hmf : MN l.length = minL l := by rw [hMN]; simp only; rw [List.take_of_length_le (by omega)]
    have hm0 : MN 0 = l[0] := by rw [hMN]; cases l with | nil => exact absurd rfl hl0 | cons a t => rfl
    have hms : ∀ k (h : k < l.length), MN (k + 1) = min (MN k) l[k] := fun k h => by
      cases k with
      | zero => rw [hm0, hMN]; cases l with | nil => exact absurd rfl hl0 | cons a t => show a = min a a; omega
      | succ k =>
        have := minL_take l (k + 1) h (by omega)
        rw [hMN]; simp only
        rw [show max (k + 1 + 1) 1 = k + 1 + 1 by omega, show max (k + 1) 1 = k + 1 by omega]
        exact this
    have hfin : b ++ encB 3 l = (b ++ sgn (MN l.length)) ++ packD (l.map (offW (MN l.length))) := by
      rw [hmf, List.append_assoc]
      cases l with
      | nil => exact absurd rfl hl0
      | cons a t => rfl
    have ha : I64 (MN l.length) := by rw [hmf]; exact minL_64 h64 hl0
    rw [hfin]
    clear hmf hMN hfin
    obtain ⟨n, hct⟩ : ∃ n, l.length = n := ⟨_, rfl⟩
    rw [hct] at ha h0 hn ⊢
    obtain ⟨m, hm⟩ : ∃ m, MN n = m := ⟨_, rfl⟩
    rw [hm] at ha ⊢
    have hsg := sgn_len m
    have hs1 := fun w1 (h : Below W.heap.size W w1) => refsig_own Ab cb b.length b m W0.heap.size W w1 rfl hown h (by omega) ha
    obtain ⟨S, hS⟩ : ∃ S, l.map (offW m) = S := ⟨_, rfl⟩
    have hsl : S.length = n := by rw [← hS, List.length_map]; exact hct
    have hst : ∀ k (h : k < l.length), S.take (k + 1) = S.take k ++ [offW m l[k]] := fun k h => by
      rw [← hS, List.take_add_one, List.getElem?_map, List.getElem?_eq_getElem h]; rfl
    rw [hS]
    obtain ⟨b5, hb5⟩ : ∃ x, b ++ sgn m = x := ⟨_, rfl⟩
    have hl5 : b5.length ≤ 1010 := by rw [← hb5, List.length_append]; omega
    rw [hb5] at hs1 ⊢
    obtain ⟨n5, hn5⟩ : ∃ x, b5.length = x := ⟨_, rfl⟩
    have hz0 := hl 0 (by omega)
    rw [← hm0] at hz0
    obtain ⟨bx, ox, rfl, hca⟩ := hz0
    have hca0 : W.cell? ⟨bx, ox, none⟩ = some (.int .i64 (MN 0)) := hca
    have HS1 := Lib.hid hs1
    have HL5 := Lib.hid hl5
    have HN5 := Lib.hid hn5
    have HSL := Lib.hid hsl
    have HST := Lib.hid hst
    have HL := Lib.hid hl
    have HCT := Lib.hid hct
    have HMS := Lib.hid hms
    have HM := Lib.hid hm
    obtain ⟨nb, hnb⟩ : ∃ nb, b.length = nb := ⟨_, rfl⟩
    rw [hnb] at HS1 ⊢
    have hzi : ((n : Int) == 0) = false := by rw [beq_eq_false_iff_ne]; omega
    have hzn : ¬ (n : Int) = 0 := by omega
    have hbel0 := Lib.hid (Below.refl W.heap.size W)
    clear hown hbel hs1 hl5 hn5 hsl hst hl h64 hct hS hb5 HOWN hsg ha hca hnb hl0 hms hm hm0
    go_enter Tryd.func83, Tryd.ntmps83
    go_wp2
    go_loop [5, 6] (fun v i => ∃ k : Nat, k ≤ n ∧ i = .int .i64 k ∧ v = .int .i64 (MN k)) (fun _ i => n - (intOf i).toNat)
    case atStart => exact ⟨0, by omega, rfl, rfl⟩
    case round =>
      obtain ⟨k, hk, rfl, rfl⟩ := hrel
      by_cases hlt : k < n
      · have hj : k < l.length := by rw [HCT.out]; exact hlt
        obtain ⟨b1, o1, e1, hx⟩ := HL.out k hj
        injection e1 with e1
        injection e1 with e2 e3
        subst e2 e3
        have hs := HMS.out k hj
        generalize l[k] = x at hx hs
        have HS := Lib.hid hs
        clear hs
        generalize MN k = mk at *
        go_wp2
        go_round
        case rel => exact ⟨k + 1, by omega, by go_num, by rw [HS.out]⟩
        case measure => simp [intOf]; omega
      · obtain rfl : k = n := by omega
        rw [HM.out]
        clear hca0
        go_wp2
        go_loopw [7, 8] (fun v i wr => ∃ j : Nat, j ≤ k ∧ i = .int .i64 j ∧ OwnN wr W.heap.size v (S.take j) ∧ Below W.heap.size W wr) (fun _ i _ => k - (intOf i).toNat)
        case atStart => exact ⟨0, by omega, rfl, ⟨rfl, .inl ⟨rfl, rfl⟩⟩, hbel0.out⟩
        case round =>
          obtain ⟨j, hk1, rfl, hown, hbel⟩ := hrel
          obtain ⟨A5, c5, rfl, hnum, hc5⟩ := hown.form
          have hkl : (S.take j).length = j := by rw [List.length_take, HSL.out]; omega
          have HOWN5 := Lib.hid hown
          have HBEL5 := Lib.hid hbel
          by_cases hlt : j < k
          · have hj : j < l.length := by rw [HCT.out]; exact hlt
            obtain ⟨b1, o1, e1, hx⟩ := HL.out j hj
            injection e1 with e1
            injection e1 with e2 e3
            subst e2 e3
            have hs := HST.out j hj
            generalize l[j] = x at hx hs
            have hxr := cell_low hbel hx
            have hz := off_wire m x
            obtain ⟨sw, hsw⟩ : ∃ sw, offW m x = sw := ⟨_, rfl⟩
            rw [hsw] at hs hz
            have HZ := Lib.hid hz
            have HS := Lib.hid hs
            have HK : Hid (j < k) := hlt
            have HKL : Hid ((S.take j).length + 1 ≤ 17000000000000) := by show _ ≤ _; omega
            rw [hkl] at HOWN5 ⊢
            clear hs hown hbel hnum hc5 hkl hz hsw hj hx
            go_wp2_with (refine app_num W rfl _ _ rfl _ (S.take j) rfl (World.ownsRow.alloc HOWN5.out _) (HBEL5.out.alloc HBEL5.out.size _) (some ⟨_, 0, none⟩) 1 1 [sw] rfl rfl (num_one _ _ _ sw HZ.out) (by simp) HKL.out ?_; intro v6 w6 hown6 hbel6; rw [← HS.out] at hown6; have O6 := Lib.hid hown6; have E6 := Lib.hid hbel6; clear hown6 hbel6)
            go_roundw
            case rel => exact ⟨j + 1, HK.out, by go_num, O6.out, E6.out⟩
            case measure => simp [intOf]; have := HK.out; omega
          · obtain rfl : j = k := by omega
            have hSj : S.take j = S := List.take_of_length_le (by rw [HSL.out]; omega)
            rw [hSj] at hnum hkl ⊢
            have hs1 := HS1.out wr hbel
            have HSIG := Lib.hid hs1
            have HNUM := Lib.hid hnum
            have HS4 : Hid (S.length ≤ 4096) := by show _ ≤ _; omega
            have HW0 : Hid (Below W0.heap.size W0 wr) := HBEL.out.trans (hbel.mono HBEL.out.size)
            have HL5' : Hid (b5.length ≤ 100000) := by show _ ≤ _; have := HL5.out; omega
            rw [hkl]
            have HKL := Lib.hid hkl
            clear hs1 hown hbel hnum hc5 hkl hSj HOWN5 HBEL5 hk1 hk HL HST HL5
            go_wp2_with (first | (go_at_call 84; refine HSIG.out.mono ?_; rintro e w1 ⟨v1, rfl, hown, hb1⟩; obtain ⟨A1, c1, rfl, _, _, _, _⟩ := hown.form; have HP := Lib.hid (refpacked_own A1 A5 c1 c5 n5 j b5 S W0 wr w1 HN5.out (by rw [← HN5.out]; exact hown) HW0.out hb1 HL5'.out HNUM.out HKL.out HS4.out); rw [HN5.out]; clear hown hb1) | (go_at_call 103; refine HP.out.mono ?_; rintro e w2 ⟨v2, rfl, ho2, hb2⟩; have O2 := Lib.hid ho2; have B2 := Lib.hid hb2; clear ho2 hb2))
            go_ret
            exact ⟨_, rfl, O2.out, B2.out⟩
end Go.Proofs.YtfgmdaemcaamiaaDoor

/-! The document's Encode: runs. -/
namespace Go.Proofs.YtfgmdaemcaamiaaDoor
open Go.RowKit
set_option linter.unusedVariables false

/-- A run that begins at f and ends before k. -/
theorem runs_cut (l : List Int) (f k : Nat) (hf : f < k) (hk : k ≤ l.length) (heq : ∀ j, f ≤ j → j < k → l[j]? = l[f]?) (hne : k = l.length ∨ l[k]? ≠ l[f]?) :
    runsL (l.drop f) = (k - f, l[f]'(by omega)) :: runsL (l.drop k) := by
  have hfl : f < l.length := by omega
  have hd : l.drop f = List.replicate (k - f - 1 + 1) (l[f]) ++ l.drop k := by
    apply List.ext_getElem?
    intro i
    rw [List.getElem?_drop]
    by_cases hi : i < k - f
    · rw [List.getElem?_append_left (by rw [List.length_replicate]; omega), List.getElem?_replicate, if_pos (by omega), heq (f + i) (by omega) (by omega), List.getElem?_eq_getElem hfl]
    · rw [List.getElem?_append_right (by rw [List.length_replicate]; omega), List.length_replicate, List.getElem?_drop]
      congr 1
      omega
  rw [hd, runsL_head _ _ _ (k - f - 1)]
  · congr 2; omega
  · rw [List.head?_drop]
    rcases hne with rfl | h
    · rw [List.getElem?_eq_none (Nat.le_refl _)]; simp
    · rw [← List.getElem?_eq_getElem hfl]; exact h

set_option maxRecDepth 100000 in
set_option maxHeartbeats 8000000 in
theorem refruns_any (Ab A : Option Addr) (cb cap : Nat) (b : List UInt8) (l : List Int) (W0 W : World) (hown : Own W W0.heap.size (.slice Ab b.length cb) b) (hbel : Below W0.heap.size W0 W) (hbl : b.length ≤ 1000) (hl : Ints W A l) (h64 : All64 l) (hn : l.length ≤ 4096) :
    Calls Tryd.prog 81 #[.slice Ab b.length cb, .slice A l.length cap] W (Made W0 (b ++ encB 1 l)) := by
  have HOWN := Lib.hid hown
  have HBEL := Lib.hid hbel
  have HL := Lib.hid hl
  have H64 := Lib.hid h64
  have hlen := encB_len (f := 1) hn
  have HLEN := Lib.hid hlen
  have HBL := Lib.hid hbl
  have hd0 : [] ++ (runsL (l.drop 0)).flatMap layRun = encB 1 l := rfl
  obtain ⟨n, hln⟩ : ∃ n, l.length = n := ⟨_, rfl⟩
  have HLN := Lib.hid hln
  have HD0 := Lib.hid hd0
  have HB0 : Hid (b ++ [] = b) := List.append_nil b
  have HREF : Hid (Below W.heap.size W W) := Below.refl _ _
  obtain ⟨nb, hnb⟩ : ∃ nb, b.length = nb := ⟨_, rfl⟩
  rw [hln] at hn ⊢
  rw [hnb] at HOWN ⊢
  have HN96 := Lib.hid hn
  clear hown hbel hl h64 hlen hbl hd0 hln hnb
  go_enter Tryd.func81, Tryd.ntmps81
  go_wp2
  go_loopw [0, 5, 6] (fun v fr i wr => ∃ (f k : Nat) (acc : List UInt8), fr = .int .i64 f ∧ i = .int .i64 k ∧ f + 1 ≤ k ∧ k ≤ n + 1 ∧ (k = n + 1 → f = n) ∧ (k ≤ n → ∀ j, f ≤ j → j < k → l[j]? = l[f]?) ∧ acc ++ (runsL (l.drop f)).flatMap layRun = encB 1 l ∧ Own wr W0.heap.size v (b ++ acc) ∧ Below W.heap.size W wr) (fun _ _ i _ => n + 1 - (intOf i).toNat)
  case atStart =>
    refine ⟨0, 1, [], rfl, rfl, by omega, by omega, fun h => by omega, fun _ j h1 h2 => by rw [show j = 0 by omega], HD0.out, by rw [HB0.out]; exact HOWN.out, HREF.out⟩
  case round =>
    obtain ⟨f, k, acc, rfl, rfl, hf, hk, hfn, heq, hacc, hown, hbel⟩ := hrel
    have hal : (b ++ acc).length ≤ 101000 := by
      have h1 := HLEN.out
      have h2 := HBL.out
      rw [← hacc, List.length_append] at h1
      rw [List.length_append]
      omega
    obtain ⟨A5, c5, rfl, _, _, _, _⟩ := hown.form
    have HOWN5 := Lib.hid hown
    have HBEL5 := Lib.hid hbel
    have HACC := Lib.hid hacc
    have HEQ := Lib.hid heq
    obtain ⟨b1, hb1⟩ : ∃ x, b ++ acc = x := ⟨_, rfl⟩
    rw [hb1] at HOWN5 hal ⊢
    obtain ⟨n1, hn1⟩ : ∃ x, b1.length = x := ⟨_, rfl⟩
    rw [hn1] at HOWN5 ⊢
    have HB1 := Lib.hid hb1
    have HN1 := Lib.hid hn1
    have HAL := Lib.hid hal
    by_cases hle : k ≤ n
    · have hfl : f < l.length := by rw [HLN.out]; omega
      obtain ⟨bx, ox, rfl, hx⟩ := HL.out f hfl
      have hx64 := H64.out _ (List.getElem_mem hfl)
      have hcut := fun (h : k = l.length ∨ l[k]? ≠ l[f]?) => runs_cut l f k (by omega) (by rw [HLN.out]; omega) (heq hle) h
      have hlf : l[f]? = some l[f] := List.getElem?_eq_getElem hfl
      generalize l[f] = x at hx hx64 hcut hlf
      obtain ⟨m, hm⟩ : ∃ m, k - f = m := ⟨_, rfl⟩
      rw [hm] at hcut
      have hstep : (k = l.length ∨ l[k]? ≠ l[f]?) → (acc ++ (num m ++ sgn x)) ++ (runsL (l.drop k)).flatMap layRun = encB 1 l := fun h => by
        rw [← hacc, hcut h, List.flatMap_cons, List.append_assoc]; rfl
      have hnc := fun w1 (h : Below wr.heap.size wr w1) => refnum_own A5 c5 n1 b1 m W0.heap.size wr w1 hn1 HOWN5.out h (by omega) (by have := HN96.out; omega)
      have hml := (num_len m).2
      have HNC := Lib.hid hnc
      have HX64 := Lib.hid hx64
      have HSTEP := Lib.hid hstep
      have HCX := Lib.hid hx
      have hsub : IntKind.i64.wrap ((k : Int) - (f : Int)) = (m : Int) := by rw [IntKind.wrap_i64]; have := HN96.out; omega
      have hsub2 : (k : Int) - (f : Int) = (m : Int) := by omega
      have hcv : IntKind.u64.wrap (m : Int) = (m : Int) := by rw [IntKind.wrap_u64]; have := HN96.out; omega
      have hcvi : IntKind.i64.wrap (m : Int) = (m : Int) := by rw [IntKind.wrap_i64]; have := HN96.out; omega
      have hf0 : (0 : Int) ≤ (f : Int) := by omega
      have hfi : (f : Int) < (n : Int) := by omega
      have HMM : Hid (m + 1 ≤ 5000) := by show _ ≤ _; have := HN96.out; omega
      obtain ⟨b2, hb2⟩ : ∃ x, b1 ++ num m = x := ⟨_, rfl⟩
      have hl2 : b2.length ≤ 101010 := by rw [← hb2, List.length_append]; omega
      rw [hb2] at HNC
      have HB2 := Lib.hid hb2
      have HL2 := Lib.hid hl2
      have hfk := hf
      clear hown hbel hacc heq hb1 hn1 hal hcut hstep hnc hx64 hml hb2 hl2 hm
      go_upto_region 5 with (fail)
      by_cases hkn : k = n
      · subst hkn
        have hc1 : ((k : Int) == (k : Int)) = true := by simp
        clear hx
        go_quiet (fail)
        have HST := Lib.hid (HSTEP.out (.inl HLN.out.symm))
        clear HSTEP
        go_upto_region 6 with (fail)
        refine wpS_start (fun W' => Below W.heap.size W W') 12 (by kernel_rfl) rfl (fun RG HR => ?_)
        refine wpS_take HR (i := 0) (v := .slice A5 n1 c5) rfl (by decide +kernel) (by decide +kernel) (by decide +kernel) (fun _ _ _ h => h) (by rfl) ((Below.drewN' HBEL5.out _).drew) (fun W' hW => by go_simp) ?_
        go_simp
        refine wpS_take HR (i := 1) (v := .int .i64 (k : Int)) rfl (by decide +kernel) (by decide +kernel) (by decide +kernel) (fun _ _ _ h => h) (by rfl) ((Below.drewN' HBEL5.out _).drew) (fun W' hW => by go_simp) ?_
        go_simp
        refine wpS_take HR (i := 2) (v := .int .i64 (f : Int)) rfl (by decide +kernel) (by decide +kernel) (by decide +kernel) (fun _ _ _ h => h) (by rfl) ((Below.drewN' HBEL5.out _).drew) (fun W' hW => by go_simp) ?_
        go_simp
        refine wpS_take HR (i := 3) (v := .int .i64 (m : Int)) rfl (by decide +kernel) (by decide +kernel) (by decide +kernel) (fun _ _ _ h => h) (by rfl) ((Below.drewN' HBEL5.out _).drew) (fun W' hW => by go_simp) ?_
        go_simp
        refine wpS_take HR (i := 4) (v := .int .u64 (m : Int)) rfl (by decide +kernel) (by decide +kernel) (by decide +kernel) (fun _ _ _ h => h) (by rfl) ((Below.drewN' HBEL5.out _).drew) (fun W' hW => by go_simp) ?_
        go_simp
        refine wpS_take HR (i := 6) (v := .slice (some ⟨bx, ox, none⟩) k cap) rfl (by decide +kernel) (by decide +kernel) (by decide +kernel) (fun _ _ _ h => h) (by rfl) ((Below.drewN' HBEL5.out _).drew) (fun W' hW => by go_simp) ?_
        go_simp
        refine wpS_take HR (i := 7) (v := .int .i64 (f : Int)) rfl (by decide +kernel) (by decide +kernel) (by decide +kernel) (fun _ _ _ h => h) (by rfl) ((Below.drewN' HBEL5.out _).drew) (fun W' hW => by go_simp) ?_
        go_simp
        refine wpS_take HR (i := 8) (v := .pointer (some ⟨bx, ox + f, none⟩)) rfl (by decide +kernel) (by decide +kernel) (by decide +kernel) (fun _ _ _ h => h) (by rfl) ((Below.drewN' HBEL5.out _).drew) (fun W' hW => by go_simp) ?_
        go_simp
        refine wpS_take HR (i := 9) (v := .int .i64 x) rfl (by decide +kernel) (by decide +kernel) (by decide +kernel) (fun _ _ _ h => h) (by rfl) ((Below.drewN' HBEL5.out _).drew) (fun W' hW => by have hc := cell_low hW HCX.out; go_simp) ?_
        go_simp
        refine wpS_step1 HR (i := 5) (by decide +kernel) ?_
        refine stepS_call HR rfl (by rfl) (by go_simp; exact ⟨rfl, rfl⟩) ?_
        refine (HNC.out _ (Below.drewN' (Below.refl _ _) _).drew).mono ?_
        rintro e w1 ⟨v1, rfl, ho1, hb1⟩
        obtain ⟨A1, c1, rfl, _, _, _, _⟩ := ho1.form
        obtain ⟨n2, hn2⟩ : ∃ x, b2.length = x := ⟨_, rfl⟩
        have E1 : Hid (Below W.heap.size W w1) := (Below.drewN' HBEL5.out _).drew.trans (hb1.mono (by exact HBEL5.out.size))
        have HSG := Lib.hid (refsig_own A1 c1 n2 b2 x _ w1 w1 hn2 (by rw [← hn2]; exact ho1) (Below.refl _ _) (by have := HL2.out; omega) HX64.out)
        rw [hn2]
        clear ho1 hb1 hn2
        refine ⟨_, rfl, E1.out, ?_⟩
        go_simp
        refine wpS_step1 HR (i := 10) (by decide +kernel) ?_
        refine stepS_call HR rfl (by rfl) (by go_simp; exact ⟨rfl, rfl⟩) ?_
        refine (HSG.out).mono ?_
        rintro e w2 ⟨v2, rfl, ho2, hb2⟩
        have E2 := Lib.hid (E1.out.trans (hb2.mono E1.out.size))
        have O2 := Lib.hid (ho2.base (Nat.le_trans HBEL.out.size E1.out.size))
        clear ho2 hb2
        refine ⟨_, rfl, E2.out, ?_⟩
        go_simp
        refine wpS_step1 HR (i := 11) (by decide +kernel) ?_
        refine stepS_list HR rfl rfl ?_
        intro K hK
        go_wp2
        refine (hK _ _ (E2.out) ?_)
        clear hK K
        go_simp
        refine wpS_done HR (by decide +kernel) ?_
        go_wp2
        go_roundw
        case rel =>
          refine ⟨k, k + 1, acc ++ (num m ++ sgn x), rfl, by go_num, by omega, by omega, fun h => by omega, fun _ j h1 h2 => by rw [show j = k by omega], HST.out, ?_, E2.out⟩
          have e : b ++ (acc ++ (num m ++ sgn x)) = b2 ++ sgn x := by rw [← HB2.out, ← HB1.out]; simp
          rw [e]; exact O2.out
        case measure => simp [intOf]
      · have hkl : k < l.length := by rw [HLN.out]; omega
        obtain ⟨b', o', e', hy⟩ := HL.out k hkl
        injection e' with e'
        injection e' with e1 e2
        subst e1 e2
        have hlk : l[k]? = some l[k] := List.getElem?_eq_getElem hkl
        generalize l[k] = y at hy hlk
        have hc1 : ((k : Int) == (n : Int)) = false := by rw [beq_eq_false_iff_ne]; omega
        have hki : (k : Int) < (n : Int) := by omega
        have hk0 : (0 : Int) ≤ (k : Int) := by omega
        have hxr := cell_low HBEL5.out hx
        have hyr := cell_low HBEL5.out hy
        by_cases hxy : y = x
        · subst hxy
          have hc2 : (y != y) = false := by simp
          have HLK := Lib.hid hlk
          have HLF := Lib.hid hlf
          clear hx hy hlk hlf
          go_quiet (fail)
          go_wp2
          go_roundw
          case rel =>
            refine ⟨f, k + 1, acc, rfl, by go_num, by omega, by omega, fun h => by omega, fun _ j h1 h2 => ?_, HACC.out, by rw [HB1.out]; exact HOWN5.out, Below.drewN' HBEL5.out _⟩
            rcases Nat.lt_or_ge j k with h | h
            · exact HEQ.out hle j h1 h
            · rw [show j = k by omega, HLK.out, HLF.out]
          case measure => simp [intOf]; omega
        · have hc2 : (y != x) = true := by simp [hxy]
          have HST := Lib.hid (HSTEP.out (.inr (by rw [hlk, hlf]; simpa using hxy)))
          clear hx hy hlk hlf HSTEP
          go_quiet (fail)
          clear hxr hyr
          go_upto_region 6 with (fail)
          refine wpS_start (fun W' => Below W.heap.size W W') 12 (by kernel_rfl) rfl (fun RG HR => ?_)
          refine wpS_take HR (i := 0) (v := .slice A5 n1 c5) rfl (by decide +kernel) (by decide +kernel) (by decide +kernel) (fun _ _ _ h => h) (by rfl) ((Below.drewN' HBEL5.out _).drew) (fun W' hW => by go_simp) ?_
          go_simp
          refine wpS_take HR (i := 1) (v := .int .i64 (k : Int)) rfl (by decide +kernel) (by decide +kernel) (by decide +kernel) (fun _ _ _ h => h) (by rfl) ((Below.drewN' HBEL5.out _).drew) (fun W' hW => by go_simp) ?_
          go_simp
          refine wpS_take HR (i := 2) (v := .int .i64 (f : Int)) rfl (by decide +kernel) (by decide +kernel) (by decide +kernel) (fun _ _ _ h => h) (by rfl) ((Below.drewN' HBEL5.out _).drew) (fun W' hW => by go_simp) ?_
          go_simp
          refine wpS_take HR (i := 3) (v := .int .i64 (m : Int)) rfl (by decide +kernel) (by decide +kernel) (by decide +kernel) (fun _ _ _ h => h) (by rfl) ((Below.drewN' HBEL5.out _).drew) (fun W' hW => by go_simp) ?_
          go_simp
          refine wpS_take HR (i := 4) (v := .int .u64 (m : Int)) rfl (by decide +kernel) (by decide +kernel) (by decide +kernel) (fun _ _ _ h => h) (by rfl) ((Below.drewN' HBEL5.out _).drew) (fun W' hW => by go_simp) ?_
          go_simp
          refine wpS_take HR (i := 6) (v := .slice (some ⟨bx, ox, none⟩) n cap) rfl (by decide +kernel) (by decide +kernel) (by decide +kernel) (fun _ _ _ h => h) (by rfl) ((Below.drewN' HBEL5.out _).drew) (fun W' hW => by go_simp) ?_
          go_simp
          refine wpS_take HR (i := 7) (v := .int .i64 (f : Int)) rfl (by decide +kernel) (by decide +kernel) (by decide +kernel) (fun _ _ _ h => h) (by rfl) ((Below.drewN' HBEL5.out _).drew) (fun W' hW => by go_simp) ?_
          go_simp
          refine wpS_take HR (i := 8) (v := .pointer (some ⟨bx, ox + f, none⟩)) rfl (by decide +kernel) (by decide +kernel) (by decide +kernel) (fun _ _ _ h => h) (by rfl) ((Below.drewN' HBEL5.out _).drew) (fun W' hW => by go_simp) ?_
          go_simp
          refine wpS_take HR (i := 9) (v := .int .i64 x) rfl (by decide +kernel) (by decide +kernel) (by decide +kernel) (fun _ _ _ h => h) (by rfl) ((Below.drewN' HBEL5.out _).drew) (fun W' hW => by have hc := cell_low hW HCX.out; go_simp) ?_
          go_simp
          refine wpS_step1 HR (i := 5) (by decide +kernel) ?_
          refine stepS_call HR rfl (by rfl) (by go_simp; exact ⟨rfl, rfl⟩) ?_
          refine (HNC.out _ (Below.drewN' (Below.refl _ _) _).drew).mono ?_
          rintro e w1 ⟨v1, rfl, ho1, hb1⟩
          obtain ⟨A1, c1, rfl, _, _, _, _⟩ := ho1.form
          obtain ⟨n2, hn2⟩ : ∃ x, b2.length = x := ⟨_, rfl⟩
          have E1 : Hid (Below W.heap.size W w1) := (Below.drewN' HBEL5.out _).drew.trans (hb1.mono (by exact HBEL5.out.size))
          have HSG := Lib.hid (refsig_own A1 c1 n2 b2 x _ w1 w1 hn2 (by rw [← hn2]; exact ho1) (Below.refl _ _) (by have := HL2.out; omega) HX64.out)
          rw [hn2]
          clear ho1 hb1 hn2
          refine ⟨_, rfl, E1.out, ?_⟩
          go_simp
          refine wpS_step1 HR (i := 10) (by decide +kernel) ?_
          refine stepS_call HR rfl (by rfl) (by go_simp; exact ⟨rfl, rfl⟩) ?_
          refine (HSG.out).mono ?_
          rintro e w2 ⟨v2, rfl, ho2, hb2⟩
          have E2 := Lib.hid (E1.out.trans (hb2.mono E1.out.size))
          have O2 := Lib.hid (ho2.base (Nat.le_trans HBEL.out.size E1.out.size))
          clear ho2 hb2
          refine ⟨_, rfl, E2.out, ?_⟩
          go_simp
          refine wpS_step1 HR (i := 11) (by decide +kernel) ?_
          refine stepS_list HR rfl rfl ?_
          intro K hK
          go_wp2
          refine (hK _ _ (E2.out) ?_)
          clear hK K
          go_simp
          refine wpS_done HR (by decide +kernel) ?_
          go_wp2
          go_roundw
          case rel =>
            refine ⟨k, k + 1, acc ++ (num m ++ sgn x), rfl, by go_num, by omega, by omega, fun h => by omega, fun _ j h1 h2 => by rw [show j = k by omega], HST.out, ?_, E2.out⟩
            have e : b ++ (acc ++ (num m ++ sgn x)) = b2 ++ sgn x := by rw [← HB2.out, ← HB1.out]; simp
            rw [e]; exact O2.out
          case measure => simp [intOf]; omega
    · obtain rfl : k = n + 1 := by omega
      obtain rfl := hfn rfl
      have hend : b1 = b ++ encB 1 l := by
        have e := HACC.out
        rw [List.drop_of_length_le (by rw [HLN.out]; exact Nat.le_refl _)] at e
        rw [← HB1.out, ← e]
        show _ = b ++ (acc ++ [])
        rw [List.append_nil]
      have HEND := Lib.hid hend
      have hgt : ¬ ((f + 1 : Nat) : Int) ≤ (f : Int) := by omega
      clear hown hbel hacc heq hb1 hn1 hal hend
      go_wp2
      go_ret
      exact ⟨_, rfl, by rw [← HEND.out]; exact HOWN5.out, HBEL.out.trans (HBEL5.out.mono HBEL.out.size)⟩
end Go.Proofs.YtfgmdaemcaamiaaDoor

/-! The document's Encode, and its Best. -/
namespace Go.Proofs.YtfgmdaemcaamiaaDoor
open Go.RowKit
set_option linter.unusedVariables false

set_option maxHeartbeats 2000000 in
theorem refenc_bad (f : Int) (A : Option Addr) (cap n : Nat) (W : World) (hn : n ≤ 4611686018427387904) (h : f < 0 ∨ 4 ≤ f ∨ 4096 < n) :
    Calls Tryd.prog 50 #[.int .i64 f, .slice A n cap] W fun e W' => e = .returned (.tuple #[.slice none 0 0, .int .i64 2]) ∧ W = W' := by
  by_cases h1 : f < 0
  · go_enter Tryd.func50, Tryd.ntmps50
    go_wp2
    go_ret2
    exact ⟨rfl, rfl⟩
  · by_cases h2 : 3 < f
    · go_enter Tryd.func50, Tryd.ntmps50
      go_wp2
      go_ret2
      exact ⟨rfl, rfl⟩
    · have h3 : (4096 : Int) < (n : Int) := by omega
      clear h
      go_enter Tryd.func50, Tryd.ntmps50
      go_wp2
      go_ret2
      exact ⟨rfl, rfl⟩
set_option maxHeartbeats 2000000 in
theorem refenc1_any (A : Option Addr) (cap : Nat) (l : List Int) (W : World) (hl : Ints W A l) (h64 : All64 l) (hn : l.length ≤ 4096) :
    Calls Tryd.prog 50 #[.int .i64 1, .slice A l.length cap] W (LaidI W (encI 1 l)) := by
  have hb1 : Below W.heap.size W (W.alloc (.cells #[Value.int .u8 1] 5)) := (Below.refl _ _).alloc (Nat.le_refl _) _
  have hcall := refruns_any (some ⟨W.heap.size, 0, none⟩) A 1 cap [1] l W _ (own_one W 1) hb1 (by simp) (hl.keep hb1) h64 hn
  have e1 : [1] ++ encB 1 l = encI 1 l := rfl
  rw [e1] at hcall
  generalize encI 1 l = r at *
  have HC := Lib.hid hcall
  generalize l.length = n at *
  have hgt : ¬ (4096 : Int) < (n : Int) := by omega
  clear hcall hl h64 hb1 e1
  go_enter Tryd.func50, Tryd.ntmps50
  go_wp2_with (go_at_call 81; refine HC.out.mono ?_; rintro e w1 ⟨v, rfl, ho, hb⟩; have HO := Lib.hid ho; have HB := Lib.hid hb; clear ho hb)
  go_ret2
  exact ⟨_, rfl, HO.out, HB.out⟩
set_option maxHeartbeats 2000000 in
theorem refenc2_any (A : Option Addr) (cap : Nat) (l : List Int) (W : World) (hl : Ints W A l) (h64 : All64 l) (hn : l.length ≤ 4096) :
    Calls Tryd.prog 50 #[.int .i64 2, .slice A l.length cap] W (LaidI W (encI 2 l)) := by
  have hb1 : Below W.heap.size W (W.alloc (.cells #[Value.int .u8 2] 5)) := (Below.refl _ _).alloc (Nat.le_refl _) _
  have hcall := refsteps_any (some ⟨W.heap.size, 0, none⟩) A 1 cap [2] l W _ (own_one W 2) hb1 (by simp) (hl.keep hb1) h64 hn
  have e1 : [2] ++ encB 2 l = encI 2 l := rfl
  rw [e1] at hcall
  generalize encI 2 l = r at *
  have HC := Lib.hid hcall
  generalize l.length = n at *
  have hgt : ¬ (4096 : Int) < (n : Int) := by omega
  clear hcall hl h64 hb1 e1
  go_enter Tryd.func50, Tryd.ntmps50
  go_wp2_with (go_at_call 82; refine HC.out.mono ?_; rintro e w1 ⟨v, rfl, ho, hb⟩; have HO := Lib.hid ho; have HB := Lib.hid hb; clear ho hb)
  go_ret2
  exact ⟨_, rfl, HO.out, HB.out⟩
set_option maxHeartbeats 2000000 in
theorem refenc3_any (A : Option Addr) (cap : Nat) (l : List Int) (W : World) (hl : Ints W A l) (h64 : All64 l) (hn : l.length ≤ 4096) :
    Calls Tryd.prog 50 #[.int .i64 3, .slice A l.length cap] W (LaidI W (encI 3 l)) := by
  have hb1 : Below W.heap.size W (W.alloc (.cells #[Value.int .u8 3] 5)) := (Below.refl _ _).alloc (Nat.le_refl _) _
  have hcall := refframe_any (some ⟨W.heap.size, 0, none⟩) A 1 cap [3] l W _ (own_one W 3) hb1 (by simp) (hl.keep hb1) h64 hn
  have e1 : [3] ++ encB 3 l = encI 3 l := rfl
  rw [e1] at hcall
  generalize encI 3 l = r at *
  have HC := Lib.hid hcall
  generalize l.length = n at *
  have hgt : ¬ (4096 : Int) < (n : Int) := by omega
  clear hcall hl h64 hb1 e1
  go_enter Tryd.func50, Tryd.ntmps50
  go_wp2_with (go_at_call 83; refine HC.out.mono ?_; rintro e w1 ⟨v, rfl, ho, hb⟩; have HO := Lib.hid ho; have HB := Lib.hid hb; clear ho hb)
  go_ret2
  exact ⟨_, rfl, HO.out, HB.out⟩
set_option maxRecDepth 100000 in
set_option maxHeartbeats 4000000 in
theorem refenc0_any (A : Option Addr) (cap : Nat) (l : List Int) (W : World) (hl : Ints W A l) (h64 : All64 l) (hn : l.length ≤ 4096) :
    Calls Tryd.prog 50 #[.int .i64 0, .slice A l.length cap] W (LaidI W (encI 0 l)) := by
  obtain ⟨DD, hDD⟩ : ∃ DD : Nat → List UInt8, DD = fun k => [0] ++ (l.take k).flatMap sgn := ⟨_, rfl⟩
  have hfin : encI 0 l = DD l.length := by rw [hDD]; simp only [List.take_length]; rfl
  have hd0 : [(0 : UInt8)] = DD 0 := by rw [hDD]; simp
  have hst : ∀ k (h : k < l.length), DD (k + 1) = DD k ++ sgn l[k] := fun k h => by
    rw [hDD]; simp only [List.take_succ_eq_append_getElem h, List.flatMap_append, List.flatMap_cons, List.flatMap_nil, List.append_nil, List.append_assoc]
  have hdl : ∀ k, k ≤ l.length → (DD k).length ≤ 100001 := fun k hk => by
    have := encB_len (f := 0) (l := l.take k) (by rw [List.length_take]; omega)
    rw [hDD]
    simp only [List.length_append, List.length_cons, List.length_nil]
    have e : encB 0 (l.take k) = (l.take k).flatMap sgn := rfl
    rw [e] at this
    omega
  rw [hfin]
  clear hDD hfin
  have how : Own (W.alloc (.cells #[Value.int .u8 0] 5)) W.heap.size (.slice (some ⟨W.heap.size, 0, none⟩) 1 1) (DD 0) := by rw [← hd0]; exact own_one W 0
  have hbe : Below W.heap.size W (W.alloc (.cells #[Value.int .u8 0] 5)) := (Below.refl _ _).alloc (Nat.le_refl _) _
  have HOW := Lib.hid how
  have HBE := Lib.hid hbe
  have HL := Lib.hid hl
  have H64 := Lib.hid h64
  have HSTEP := Lib.hid hst
  have HDL := Lib.hid hdl
  obtain ⟨n, hln⟩ : ∃ n, l.length = n := ⟨_, rfl⟩
  have HLN := Lib.hid hln
  have hgt : ¬ (4096 : Int) < (n : Int) := by omega
  rw [hln]
  clear hd0 hst hdl how hbe hl h64 hln
  go_enter Tryd.func50, Tryd.ntmps50
  go_wp2
  go_loopw [6, 7] (fun v i wr => ∃ k : Nat, k ≤ n ∧ i = .int .i64 k ∧ Own wr W.heap.size v (DD k) ∧ Below W.heap.size W wr) (fun _ i _ => n - (intOf i).toNat)
  case atStart => exact ⟨0, by omega, rfl, HOW.out, HBE.out⟩
  case round =>
    obtain ⟨k, hk, rfl, hown, hbel⟩ := hrel
    obtain ⟨Ab, cb, rfl, _, _, _, _⟩ := hown.form
    obtain ⟨bb, hbb⟩ : ∃ bb, DD k = bb := ⟨_, rfl⟩
    rw [hbb] at hown ⊢
    obtain ⟨nb, hnb⟩ : ∃ nb, bb.length = nb := ⟨_, rfl⟩
    rw [hnb] at hown ⊢
    have HOWN := Lib.hid hown
    have HBEL := Lib.hid hbel
    by_cases hlt : k < n
    · have hk1 : k < l.length := by rw [HLN.out]; exact hlt
      obtain ⟨b, o, rfl, hca⟩ := HL.out k hk1
      have hcell := cell_low hbel hca
      have hs := HSTEP.out k hk1
      have hx64 := H64.out _ (List.getElem_mem hk1)
      have hbl := HDL.out k (by omega)
      generalize l[k] = x at hcell hs hx64
      rw [hbb] at hs hbl
      have HST := Lib.hid hs
      have hsig := refsig_own Ab cb nb bb x W.heap.size wr wr hnb hown (Below.refl _ _) (by omega) hx64
      have HSIG := Lib.hid hsig
      have HK : Hid (k < n) := hlt
      clear hs hsig hown hbel hbb hnb hca hk1 hbl
      go_wp2_with (go_at_call 84; refine HSIG.out.mono ?_; rintro e w1 ⟨v1, rfl, ho, hb⟩; have E1 := Lib.hid (HBEL.out.trans (hb.mono HBEL.out.size)); have O1 := Lib.hid (ho.base HBEL.out.size); clear ho hb)
      go_roundw
      case rel => exact ⟨k + 1, HK.out, by go_num, by rw [HST.out]; exact O1.out, E1.out⟩
      case measure => simp [intOf]; have := HK.out; omega
    · obtain rfl : k = n := by omega
      have HBB := Lib.hid hbb
      clear hown hbel hbb hnb
      go_wp2
      go_ret2
      exact ⟨_, rfl, by rw [HBB.out]; exact HOWN.out, HBEL.out⟩
def bu (l : List Int) : Nat → Nat × Nat
  | 0 => (0, 0)
  | k + 1 => if k = 0 ∨ sizeI l k < (bu l k).2 then (k, sizeI l k) else bu l k
theorem bu_best (l : List Int) : (bu l 4).1 = bestL l := by
  have hb := bestL_spec l
  obtain ⟨h0, h1⟩ := hb
  have e0 : bu l 1 = (0, sizeI l 0) := rfl
  have e1 : bu l 2 = if sizeI l 1 < sizeI l 0 then (1, sizeI l 1) else (0, sizeI l 0) := by show (if _ then _ else _) = _; rw [e0]; simp
  have e2 : bu l 3 = if sizeI l 2 < (bu l 2).2 then (2, sizeI l 2) else bu l 2 := by show (if _ then _ else _) = _; simp
  have e3 : bu l 4 = if sizeI l 3 < (bu l 3).2 then (3, sizeI l 3) else bu l 3 := by show (if _ then _ else _) = _; simp
  unfold bestL
  rw [e3, e2, e1]
  generalize sizeI l 0 = a
  generalize sizeI l 1 = b
  generalize sizeI l 2 = c
  generalize sizeI l 3 = d
  simp only
  by_cases x1 : b < a
  · simp only [if_pos x1]
    by_cases x2 : c < b
    · simp only [if_pos x2]
      by_cases x3 : d < c
      · simp only [if_pos x3]; rw [if_neg (by omega), if_neg (by omega), if_neg (by omega)]
      · simp only [if_neg x3]; rw [if_neg (by omega), if_neg (by omega), if_pos (by omega)]
    · simp only [if_neg x2]
      by_cases x3 : d < b
      · simp only [if_pos x3]; rw [if_neg (by omega), if_neg (by omega), if_neg (by omega)]
      · simp only [if_neg x3]; rw [if_neg (by omega), if_pos (by omega)]
  · simp only [if_neg x1]
    by_cases x2 : c < a
    · simp only [if_pos x2]
      by_cases x3 : d < c
      · simp only [if_pos x3]; rw [if_neg (by omega), if_neg (by omega), if_neg (by omega)]
      · simp only [if_neg x3]; rw [if_neg (by omega), if_neg (by omega), if_pos (by omega)]
    · simp only [if_neg x2]
      by_cases x3 : d < a
      · simp only [if_pos x3]; rw [if_neg (by omega), if_neg (by omega), if_neg (by omega)]
      · simp only [if_neg x3]; rw [if_pos (by omega)]
theorem refenc_any (f : Nat) (hf : f < 4) (A : Option Addr) (cap : Nat) (l : List Int) (W : World) (hl : Ints W A l) (h64 : All64 l) (hn : l.length ≤ 4096) :
    Calls Tryd.prog 50 #[.int .i64 (f : Int), .slice A l.length cap] W (LaidI W (encI f l)) := by
  match f, hf with
  | 0, _ => exact refenc0_any A cap l W hl h64 hn
  | 1, _ => exact refenc1_any A cap l W hl h64 hn
  | 2, _ => exact refenc2_any A cap l W hl h64 hn
  | 3, _ => exact refenc3_any A cap l W hl h64 hn
theorem refbest_big (A : Option Addr) (cap n : Nat) (W : World) (hn : n ≤ 4611686018427387904) (h : 4096 < n) :
    Calls Tryd.prog 49 #[.slice A n cap] W fun e W' => e = .returned (.tuple #[.int .i64 0, .int .i64 2]) ∧ W = W' := by
  have h3 : (4096 : Int) < (n : Int) := by omega
  go_enter Tryd.func49, Tryd.ntmps49
  go_wp2
  go_ret2
  exact ⟨rfl, rfl⟩
set_option maxRecDepth 100000 in
set_option maxHeartbeats 4000000 in
theorem refbest_any (A : Option Addr) (cap : Nat) (l : List Int) (W : World) (hl : Ints W A l) (h64 : All64 l) (hn : l.length ≤ 4096) :
    Calls Tryd.prog 49 #[.slice A l.length cap] W fun e W' => e = .returned (.tuple #[.int .i64 (bestL l : Int), .int .i64 0]) ∧ Below W.heap.size W W' := by
  have henc := fun f (hf : f < 4) (w1 : World) (hb : Below W.heap.size W w1) => refenc_any f hf A cap l w1 (hl.keep hb) h64 hn
  have hsz : ∀ f, (encI f l).length = sizeI l f := fun f => rfl
  have hbs : ∀ k, bu l (k + 1) = if k = 0 ∨ sizeI l k < (bu l k).2 then (k, sizeI l k) else bu l k := fun k => rfl
  have h00 : bu l 0 = (0, 0) := rfl
  rw [← bu_best]
  have HENC := Lib.hid henc
  have HSZ := Lib.hid hsz
  have HBS := Lib.hid hbs
  have H00 := Lib.hid h00
  have HBE : Hid (Below W.heap.size W W) := Below.refl _ _
  generalize l.length = n at *
  have hgt : ¬ (4096 : Int) < (n : Int) := by omega
  clear hl h64 henc hsz hbs h00
  go_enter Tryd.func49, Tryd.ntmps49
  go_wp2
  go_loopw [4, 5, 6] (fun bv sv fv wr => ∃ k : Nat, k ≤ 4 ∧ fv = .int .i64 k ∧ bv = .int .i64 ((bu l k).1 : Int) ∧ sv = .int .i64 ((bu l k).2 : Int) ∧ Below W.heap.size W wr) (fun _ _ fv _ => 4 - (intOf fv).toNat)
  case atStart => exact ⟨0, by omega, rfl, by rw [H00.out]; rfl, by rw [H00.out]; rfl, HBE.out⟩
  case round =>
    obtain ⟨k, hk, rfl, rfl, rfl, hbel⟩ := hrel
    have HBEL := Lib.hid hbel
    by_cases hlt : k < 4
    · have hcall := HENC.out k hlt wr hbel
      have hln := HSZ.out k
      have hst := HBS.out k
      generalize encI k l = eb at hcall hln
      generalize sizeI l k = sk at hst hln
      generalize bu l k = bk at *
      obtain ⟨bb, bs⟩ := bk
      simp only at hst ⊢
      have HCALL := Lib.hid hcall
      have HLT : Hid (k < 4) := hlt
      subst hln
      clear hcall hbel
      unfold LaidI at HCALL
      by_cases hc : k = 0 ∨ eb.length < bs
      · rw [if_pos hc] at hst
        have HST := Lib.hid hst
        clear hst
        by_cases h0 : k = 0
        · subst h0
          clear hc
          go_wp2_with (go_at_call 50; refine HCALL.out.mono ?_; rintro e w1 ⟨v1, rfl, hown, hb1⟩; obtain ⟨A1, c1, rfl, _, _, _, _⟩ := hown.form; have HB1 := Lib.hid hb1; clear hown hb1 HCALL)
          go_roundw
          case rel => exact ⟨1, by omega, by go_num, by rw [HST.out]; rfl, by rw [HST.out], HBEL.out.trans (HB1.out.mono HBEL.out.size)⟩
          case measure => simp [intOf]
        · have hc2 : (eb.length : Int) < (bs : Int) := by omega
          have hk0 : ((k : Int) == 0) = false := by rw [beq_eq_false_iff_ne]; omega
          clear hc
          go_wp2_with (go_at_call 50; refine HCALL.out.mono ?_; rintro e w1 ⟨v1, rfl, hown, hb1⟩; obtain ⟨A1, c1, rfl, _, _, _, _⟩ := hown.form; have HB1 := Lib.hid hb1; clear hown hb1 HCALL)
          go_roundw
          case rel => exact ⟨k + 1, HLT.out, by go_num, by rw [HST.out], by rw [HST.out], HBEL.out.trans (HB1.out.mono HBEL.out.size)⟩
          case measure => simp [intOf]; have := HLT.out; omega
      · rw [if_neg hc] at hst
        have HST := Lib.hid hst
        have hc2 : ¬ (eb.length : Int) < (bs : Int) := by omega
        have hk0 : ((k : Int) == 0) = false := by rw [beq_eq_false_iff_ne]; omega
        clear hst hc
        go_wp2_with (go_at_call 50; refine HCALL.out.mono ?_; rintro e w1 ⟨v1, rfl, hown, hb1⟩; obtain ⟨A1, c1, rfl, _, _, _, _⟩ := hown.form; have HB1 := Lib.hid hb1; clear hown hb1 HCALL)
        go_roundw
        case rel => exact ⟨k + 1, HLT.out, by go_num, by rw [HST.out], by rw [HST.out], HBEL.out.trans (HB1.out.mono HBEL.out.size)⟩
        case measure => simp [intOf]; have := HLT.out; omega
    · obtain rfl : k = 4 := by omega
      clear hbel
      go_wp2
      go_ret2
      exact ⟨rfl, HBEL.out⟩
end Go.Proofs.YtfgmdaemcaamiaaDoor

/-! The walk of stackyardlaw06.IntsWords. -/
namespace Go.Proofs.YtfgmdaemcaamiaaDoor
open Go.RowKit
set_option linter.unusedVariables false

/-- What encoding hands back: bytes, and whether. -/
def EncR (W : World) (bs : List UInt8) (er : Int) (e : Ending) (W' : World) : Prop :=
  ∃ A' c', e = .returned (.tuple #[.slice A' bs.length c', .int .i64 er]) ∧ Byt W' A' bs ∧ Below W.heap.size W W'
theorem LaidI.enc {W : World} {bs : List UInt8} {e : Ending} {W' : World} (h : LaidI W bs e W') : EncR W bs 0 e W' := by
  obtain ⟨v, rfl, ho, hb⟩ := h
  obtain ⟨A, c, rfl, hy, _, _, _⟩ := ho.form
  exact ⟨A, c, rfl, hy, hb⟩
theorem encs_any (f : Int) (A : Option Addr) (cap : Nat) (l : List Int) (W0 : World) (hl : Ints W0 A l) (h64 : All64 l) (hn : l.length ≤ 4611686018427387904) (hcap : l.length ≤ cap) (hT : TabAt W0) :
    ∃ bs er, (∀ W : World, Below W0.heap.size W0 W → Calls Tryd.prog 43 #[.int .i64 f, .slice A l.length cap] W (EncR W bs er)) ∧ (∀ W : World, Below W0.heap.size W0 W → Calls Tryd.prog 50 #[.int .i64 f, .slice A l.length cap] W (EncR W bs er)) := by
  by_cases hok : f < 0 ∨ 4 ≤ f ∨ 4096 < l.length
  · refine ⟨[], 2, fun W hb => ?_, fun W hb => ?_⟩
    · refine (enc_bad f A cap l.length W hn hok).mono ?_
      rintro e W' ⟨rfl, rfl⟩
      exact ⟨_, _, rfl, Byt.empty _ _, Below.refl _ _⟩
    · refine (refenc_bad f A cap l.length W hn hok).mono ?_
      rintro e W' ⟨rfl, rfl⟩
      exact ⟨_, _, rfl, Byt.empty _ _, Below.refl _ _⟩
  · obtain ⟨v, rfl⟩ : ∃ v : Nat, f = (v : Int) := ⟨f.toNat, by omega⟩
    refine ⟨encI v l, 0, fun W hb => ?_, fun W hb => ?_⟩
    · exact (enc_any v (by omega) A cap l W (hl.keep hb) h64 (by omega) hcap (hT.keep hb)).mono fun e W' h => h.enc
    · exact (refenc_any v (by omega) A cap l W (hl.keep hb) h64 (by omega)).mono fun e W' h => h.enc
theorem bests_any (A : Option Addr) (cap : Nat) (l : List Int) (W0 : World) (hl : Ints W0 A l) (h64 : All64 l) (hn : l.length ≤ 4611686018427387904) (hcap : l.length ≤ cap) (hT : TabAt W0) :
    ∃ bs er : Int, (∀ W : World, Below W0.heap.size W0 W → Calls Tryd.prog 42 #[.slice A l.length cap] W fun e W' => e = .returned (.tuple #[.int .i64 bs, .int .i64 er]) ∧ Below W.heap.size W W') ∧ (∀ W : World, Below W0.heap.size W0 W → Calls Tryd.prog 49 #[.slice A l.length cap] W fun e W' => e = .returned (.tuple #[.int .i64 bs, .int .i64 er]) ∧ Below W.heap.size W W') := by
  by_cases hok : 4096 < l.length
  · refine ⟨0, 2, fun W hb => best_big A cap l.length W hn hok, fun W hb => ?_⟩
    refine (refbest_big A cap l.length W hn hok).mono ?_
    rintro e W' ⟨rfl, rfl⟩
    exact ⟨rfl, Below.refl _ _⟩
  · exact ⟨bestL l, 0, fun W hb => best_any A cap l W (hl.keep hb) h64 (by omega) hcap (hT.keep hb), fun W hb => refbest_any A cap l W (hl.keep hb) h64 (by omega)⟩

end Go.Proofs.YtfgmdaemcaamiaaDoor

/-! Encodings read back: the plain model. -/
namespace Go.Proofs.YtfgmdaemcaamiaaDoor
open Go.RowKit
set_option linter.unusedVariables false

theorem take_at (p r : List UInt8) (n : Nat) (hn : n < 18446744073709551616) : takeO (p ++ (num n ++ r)) (p.length : Int) = some (n, (num n).length) := by
  unfold takeO
  rw [if_pos ⟨by omega, by simp; omega⟩, Int.toNat_natCast, List.drop_left]
  have h := decF_back 9 0 0 n r (by omega) (by omega) (by rw [room_0]; exact hn)
  have e : 0 + n * 128 ^ 0 = n := by simp
  rw [e, Nat.zero_add] at h
  exact h
theorem tsg_at (p r : List UInt8) (x : Int) (hx : I64 x) : takeO (p ++ (sgn x ++ r)) (p.length : Int) = some (zig x, (sgn x).length) := take_at p r (zig x) (zig_lt x hx.1 hx.2)
theorem zag_64 {n : Nat} (h : n < 18446744073709551616) : I64 (zag n) := by
  unfold zag I64
  split <;> omega
theorem unzig_64 (l : List UInt8) (i : Int) : I64 (unzig l i) := by
  unfold unzig
  cases h : takeO l i with
  | none => simp only; unfold I64; omega
  | some x => obtain ⟨n, c⟩ := x; exact zag_64 (take_lt h)
theorem unzig_some {l : List UInt8} {i : Int} {n c : Nat} (h : takeO l i = some (n, c)) : unzig l i = zag n := by unfold unzig; rw [h]
/-- What the steps lead to. -/
def accL (x : Int) : List W64 → List Int
  | [] => [x]
  | d :: t => x :: accL (IntKind.i64.wrap (x + zag d.toNat)) t
theorem accL_len (d : List W64) : ∀ x, (accL x d).length = d.length + 1 := by
  induction d with
  | nil => intro x; rfl
  | cons a t ih => intro x; rw [accL, List.length_cons, ih, List.length_cons]
theorem wrap_64 (n : Int) : I64 (IntKind.i64.wrap n) := by unfold I64; rw [IntKind.wrap_i64]; omega
theorem accL_64 (d : List W64) : ∀ x, I64 x → All64 (accL x d) := by
  induction d with
  | nil => intro x hx y hy; have : y = x := by simpa [accL] using hy
           rw [this]; exact hx
  | cons a t ih =>
    intro x hx y hy
    rw [accL] at hy
    rcases List.mem_cons.1 hy with rfl | h
    · exact hx
    · exact ih _ (wrap_64 _) y h
theorem accL_steps : ∀ (t : List Int) (a : Int), All64 (a :: t) → accL a (stepsL (a :: t)) = a :: t
  | [], a, _ => rfl
  | b :: t, a, h => by
    have e : IntKind.i64.wrap (a + zag (stepW a b).toNat) = b := by
      rw [stepW_nat, zag_zig]
      have ha := h a (by simp)
      have hb := h b (by simp)
      unfold dif I64 at *
      rw [IntKind.wrap_i64, IntKind.wrap_i64]
      omega
    rw [stepsL, accL, e, accL_steps t b (fun y hy => h y (List.mem_cons_of_mem _ hy))]
def lastX (x : Int) (d : List W64) : Int := d.foldl (fun x d => IntKind.i64.wrap (x + zag d.toNat)) x
theorem lastX_snoc (x : Int) (d : List W64) (s : W64) : lastX x (d ++ [s]) = IntKind.i64.wrap (lastX x d + zag s.toNat) := by
  unfold lastX; rw [List.foldl_append]; rfl
theorem accL_snoc (d : List W64) (s : W64) : ∀ x, accL x (d ++ [s]) = accL x d ++ [lastX x (d ++ [s])] := by
  induction d with
  | nil => intro x; rfl
  | cons a t ih =>
    intro x
    show x :: accL _ (t ++ [s]) = x :: (accL _ t ++ [_])
    rw [ih]
    rfl
theorem lastX_64 (x : Int) (hx : I64 x) : ∀ d : List W64, I64 (lastX x d) := by
  intro d
  induction d generalizing x with
  | nil => exact hx
  | cons a t ih => exact ih _ (wrap_64 _)
/-- A number that was held against the least one. -/
def addW (m : Int) (s : W64) : Int := IntKind.i64.wrap (m + (s.toNat : Int))
theorem addW_off {m x : Int} (hx : I64 x) : addW m (offW m x) = x := by
  unfold addW offW I64 at *
  rw [BitVec.toNat_ofInt, IntKind.wrap_i64]
  omega
theorem addW_map {m : Int} {l : List Int} (h : All64 l) : (l.map (offW m)).map (addW m) = l := by
  rw [List.map_map]
  conv => rhs; rw [← List.map_id l]
  exact List.map_congr_left fun x hx => addW_off (h x hx)
theorem addW_64 (m : Int) (d : List W64) : All64 (d.map (addW m)) := fun y hy => by
  obtain ⟨s, _, rfl⟩ := List.mem_map.1 hy
  exact wrap_64 _
/-- A run, written out. -/
def expR (r : Nat × Int) : List Int := List.replicate r.1 r.2
theorem runs_exp : ∀ l : List Int, (runsL l).flatMap expR = l
  | [] => rfl
  | a :: t => by
    have ih := runs_exp t
    rw [runsL]
    cases hq : runsL t with
    | nil => rw [hq] at ih; rw [← ih]; rfl
    | cons q r =>
      obtain ⟨n, b⟩ := q
      rw [hq, List.flatMap_cons] at ih
      simp only
      by_cases e : a = b
      · rw [if_pos e, List.flatMap_cons, ← ih, e]
        show List.replicate (n + 1) b ++ _ = b :: (List.replicate n b ++ _)
        rw [List.replicate_succ]; rfl
      · rw [if_neg e, List.flatMap_cons, List.flatMap_cons, ← ih]; rfl

/-- Plain numbers: so far as they were read, they are those of any list that lies there. -/
def TrP (p b : List UInt8) (n : Nat) (d : List Int) (at_ : Int) : Prop := ∀ l, All64 l → l.length = n → p ++ l.flatMap sgn = b → d = l.take d.length ∧ at_ = ((p ++ d.flatMap sgn).length : Int)
theorem trp_0 (p b : List UInt8) (n : Nat) : TrP p b n [] (p.length : Int) := fun l _ _ _ => ⟨rfl, by simp⟩
theorem trp_at {p b : List UInt8} {n : Nat} {d : List Int} {at_ : Int} (h : TrP p b n d at_) (hk : d.length < n) (l : List Int) (h64 : All64 l) (hl : l.length = n) (hb : p ++ l.flatMap sgn = b) :
    takeO b at_ = some (zig (l[d.length]'(by omega)), (sgn (l[d.length]'(by omega))).length) ∧ d ++ [l[d.length]'(by omega)] = l.take (d.length + 1) := by
  obtain ⟨h1, h2⟩ := h l h64 hl hb
  have hkl : d.length < l.length := by omega
  have hsp : l = d ++ (l[d.length] :: l.drop (d.length + 1)) := by
    conv => lhs; rw [← List.take_append_drop d.length l, ← h1, List.drop_eq_getElem_cons hkl]
  have hx := h64 _ (List.getElem_mem hkl)
  refine ⟨?_, ?_⟩
  · generalize l[d.length] = x at *
    rw [h2, ← hb, hsp, List.flatMap_append, List.flatMap_cons, ← List.append_assoc]
    exact tsg_at _ _ _ hx
  · rw [List.take_succ_eq_append_getElem hkl, ← h1]
theorem trp_bad {p b : List UInt8} {n : Nat} {d : List Int} {at_ : Int} (h : TrP p b n d at_) (hk : d.length < n) (hE : takeO b at_ = none) (l : List Int) (h64 : All64 l) (hl : l.length = n) (hb : p ++ l.flatMap sgn = b) : False := by
  have := (trp_at h hk l h64 hl hb).1
  rw [hE] at this
  cases this
theorem trp_step {p b : List UInt8} {n : Nat} {d : List Int} {at_ : Int} (h : TrP p b n d at_) (hk : d.length < n) {z c : Nat} (hE : takeO b at_ = some (z, c)) : TrP p b n (d ++ [zag z]) (at_ + c) := fun l h64 hl hb => by
  have hq := trp_at h hk l h64 hl hb
  obtain ⟨h1, h2⟩ := h l h64 hl hb
  obtain ⟨q1, q2⟩ := hq
  rw [hE] at q1
  simp only [Option.some.injEq, Prod.mk.injEq] at q1
  obtain ⟨rfl, rfl⟩ := q1
  rw [zag_zig]
  refine ⟨by rw [List.length_append]; exact q2, ?_⟩
  rw [h2, List.flatMap_append, List.flatMap_cons, List.flatMap_nil, List.append_nil, ← List.append_assoc, List.length_append (bs := sgn _)]
  omega
theorem trp_full {p b : List UInt8} {n : Nat} {d : List Int} {at_ : Int} (h : TrP p b n d at_) (hk : d.length = n) (l : List Int) (h64 : All64 l) (hl : l.length = n) (hb : p ++ l.flatMap sgn = b) : d = l := by
  have h1 := (h l h64 hl hb).1
  rwa [List.take_of_length_le (by omega)] at h1

/-- Runs: so far as they were read, they are those of any list that lies there. -/
def TrR (p b : List UInt8) (n : Nat) (d : List Int) (at_ : Int) : Prop := ∀ l, All64 l → l.length = n → p ++ (runsL l).flatMap layRun = b → ∃ dn rs, runsL l = dn ++ rs ∧ d = dn.flatMap expR ∧ at_ = ((p ++ dn.flatMap layRun).length : Int)
theorem trr_0 (p b : List UInt8) (n : Nat) : TrR p b n [] (p.length : Int) := fun l _ _ _ => ⟨[], runsL l, rfl, rfl, by simp⟩
theorem layRun_pos (r : Nat × Int) : 1 ≤ (layRun r).length := by
  unfold layRun
  rw [List.length_append]
  have := (num_len r.1).1
  omega
theorem trr_at {p b : List UInt8} {n : Nat} {d : List Int} {at_ : Int} (h : TrR p b n d at_) (hk : at_ < b.length ∨ d.length < n) (l : List Int) (h64 : All64 l) (hl : l.length = n) (hn : n ≤ 4096) (hb : p ++ (runsL l).flatMap layRun = b) :
    ∃ m x dn rs, 1 ≤ m ∧ d.length + m ≤ n ∧ I64 x ∧ runsL l = dn ++ (m, x) :: rs ∧ d = dn.flatMap expR ∧ at_ = ((p ++ dn.flatMap layRun).length : Int) ∧ takeO b at_ = some (m, (num m).length) ∧ takeO b (at_ + (num m).length) = some (zig x, (sgn x).length) := by
  obtain ⟨dn, rs, h1, h2, h3⟩ := h l h64 hl hb
  have he := runs_exp l
  rw [h1, List.flatMap_append, ← h2] at he
  cases rs with
  | nil =>
    rw [List.append_nil] at h1
    rcases hk with hk | hk
    · rw [← hb, h1, h3] at hk; omega
    · rw [← hl, ← he] at hk; simp at hk
  | cons r rs =>
    obtain ⟨m, x⟩ := r
    have hr := runsL_pos l (m, x) (by rw [h1]; simp)
    have hx := h64 x hr.2
    have hm : d.length + m ≤ n := by
      have := congrArg List.length he
      rw [List.length_append, List.flatMap_cons, List.length_append, hl] at this
      have e : (expR (m, x)).length = m := by simp [expR]
      omega
    refine ⟨m, x, dn, rs, hr.1, hm, hx, h1, h2, h3, ?_, ?_⟩
    · rw [h3, ← hb, h1, List.flatMap_append, List.flatMap_cons, ← List.append_assoc]
      show takeO (p ++ dn.flatMap layRun ++ ((num m ++ sgn x) ++ _)) _ = _
      rw [List.append_assoc (num m)]
      exact take_at _ _ _ (by omega)
    · have e : at_ + ((num m).length : Int) = (((p ++ dn.flatMap layRun) ++ num m).length : Int) := by rw [h3, List.length_append (bs := num m)]; omega
      rw [e, ← hb, h1, List.flatMap_append, List.flatMap_cons, ← List.append_assoc]
      show takeO (p ++ dn.flatMap layRun ++ ((num m ++ sgn x) ++ _)) _ = _
      rw [List.append_assoc (num m), ← List.append_assoc (p ++ dn.flatMap layRun)]
      exact tsg_at _ _ _ hx
theorem trr_step {p b : List UInt8} {n : Nat} {d : List Int} {at_ : Int} (h : TrR p b n d at_) (hk : at_ < b.length ∨ d.length < n) (hn : n ≤ 4096) {m c z c2 : Nat} (h1 : takeO b at_ = some (m, c)) (h2 : takeO b (at_ + c) = some (z, c2)) : TrR p b n (d ++ List.replicate m (zag z)) (at_ + c + c2) := fun l h64 hl hb => by
  obtain ⟨m', x, dn, rs, hm, hml, hx, e1, e2, e3, e4, e5⟩ := trr_at h hk l h64 hl hn hb
  rw [h1] at e4
  simp only [Option.some.injEq, Prod.mk.injEq] at e4
  obtain ⟨rfl, rfl⟩ := e4
  rw [h2] at e5
  simp only [Option.some.injEq, Prod.mk.injEq] at e5
  obtain ⟨rfl, rfl⟩ := e5
  refine ⟨dn ++ [(m, x)], rs, by rw [e1]; simp, ?_, ?_⟩
  · rw [List.flatMap_append, ← e2, zag_zig]; simp [expR]
  · rw [e3, List.flatMap_append, List.flatMap_cons, List.flatMap_nil, List.append_nil, ← List.append_assoc, List.length_append (bs := layRun _)]
    have : (layRun (m, x)).length = (num m).length + (sgn x).length := by unfold layRun; rw [List.length_append]
    omega
theorem trr_full {p b : List UInt8} {n : Nat} {d : List Int} {at_ : Int} (h : TrR p b n d at_) (hk : (b.length : Int) ≤ at_ ∨ n ≤ d.length) (l : List Int) (h64 : All64 l) (hl : l.length = n) (hb : p ++ (runsL l).flatMap layRun = b) : d = l := by
  obtain ⟨dn, rs, h1, h2, h3⟩ := h l h64 hl hb
  have he := runs_exp l
  rw [h1, List.flatMap_append, ← h2] at he
  cases rs with
  | nil => rw [List.flatMap_nil, List.append_nil] at he; exact he
  | cons r rs =>
    exfalso
    rcases hk with hk | hk
    · have := layRun_pos r
      have e := congrArg List.length hb
      rw [h1, List.flatMap_append, List.flatMap_cons] at e
      simp only [List.length_append] at e h3
      omega
    · have hr := (runsL_pos l r (by rw [h1]; simp)).1
      have e := congrArg List.length he
      rw [List.length_append, List.flatMap_cons, List.length_append] at e
      have e2 : (expR r).length = r.1 := by simp [expR]
      omega
/-- A number, and others packed behind it, read back. -/
theorem wide_at (p b : List UInt8) (m : Int) (D : List W64) (hm : I64 m) (hD : D.length ≤ 4096) (hb : p ++ (sgn m ++ packD D) = b) :
    takeO b (p.length : Int) = some (zig m, (sgn m).length) ∧ ∃ h : p.length + (sgn m).length < b.length, unE (D.length : Int) ((b[p.length + (sgn m).length]).toNat : Int) (b.drop (p.length + (sgn m).length + 1)) = 0 ∧ unV (D.length : Int) ((b[p.length + (sgn m).length]).toNat : Int) (b.drop (p.length + (sgn m).length + 1)) = D := by
  have hb2 : b = (p ++ sgn m) ++ (UInt8.ofNat (widL D) :: pkB (widL D : Int) D) := by rw [← hb, List.append_assoc]; rfl
  have hlen : (p ++ sgn m).length = p.length + (sgn m).length := List.length_append
  refine ⟨by rw [← hb]; exact tsg_at _ _ _ hm, by rw [hb2, List.length_append, hlen, List.length_cons]; omega, ?_⟩
  have hlt : p.length + (sgn m).length < b.length := by rw [hb2, List.length_append, hlen, List.length_cons]; omega
  have hg : b[p.length + (sgn m).length]'hlt = UInt8.ofNat (widL D) := by
    have : b[p.length + (sgn m).length]? = some (UInt8.ofNat (widL D)) := by rw [hb2, ← hlen, List.getElem?_append_right (Nat.le_refl _)]; simp
    rw [List.getElem?_eq_getElem hlt] at this
    exact Option.some.inj this
  have hd : b.drop (p.length + (sgn m).length + 1) = pkB (widL D : Int) D := by
    rw [hb2, ← hlen, ← List.drop_drop, List.drop_left]
    rfl
  have hw : ((UInt8.ofNat (widL D)).toNat : Int) = (widL D : Int) := by have := widL_le D; rw [UInt8.toNat_ofNat']; omega
  rw [hg, hd, hw]
  exact back1 (packE_self hD)
end Go.Proofs.YtfgmdaemcaamiaaDoor

/-! The document's Decode: forms 0 and 1. -/
namespace Go.Proofs.YtfgmdaemcaamiaaDoor
open Go.RowKit
set_option linter.unusedVariables false

/-- What reading hands back: a list, and if some list lies there, it is that one. -/
def RdL (W0 : World) (P : List Int → Prop) (e : Ending) (W' : World) : Prop := ∃ A c l, e = .returned (.slice A l.length c) ∧ Ints W' A l ∧ l.length ≤ c ∧ l.length ≤ 10000 ∧ All64 l ∧ Below W0.heap.size W0 W' ∧ ∀ l', P l' → l = l'
/-- The lists of n numbers whose encoding is b. -/
def EncOf (f n : Nat) (b : List UInt8) (l : List Int) : Prop := All64 l ∧ l.length = n ∧ encI f l = b
def vlen : Value → Nat
  | .slice _ n _ => n
  | _ => 0
theorem decF_end : ∀ (f k m : Nat) (t : List UInt8) (n c : Nat), decF f k m t = some (n, c) → c ≤ k + t.length
  | 0, _, _, _, _, _, h => by simp [decF] at h
  | _ + 1, _, _, [], _, _, h => by simp [decF] at h
  | f + 1, k, m, x :: t, n, c, h => by
    rw [decF] at h
    rw [List.length_cons]
    split at h
    · split at h
      · cases h
      · simp only [Option.some.injEq, Prod.mk.injEq] at h
        omega
    · have := decF_end f (k + 1) _ t n c h
      omega
theorem takeO_end {l : List UInt8} {at_ : Int} {n c : Nat} (h : takeO l at_ = some (n, c)) : 0 ≤ at_ ∧ at_ + c ≤ l.length := by
  unfold takeO at h
  by_cases hp : 0 ≤ at_ ∧ at_ ≤ l.length
  · rw [if_pos hp] at h
    have := decF_end _ _ _ _ _ _ h
    rw [List.length_drop] at this
    omega
  · rw [if_neg hp] at h; cases h
/-- A list read, and nothing lies there. -/
theorem RdL.mk {W0 W : World} {P : List Int → Prop} {A : Option Addr} {n c : Nat} {d : List Int} (hn : d.length = n) (hi : Ints W A d) (hc : n ≤ c) (hl : n ≤ 10000) (h64 : All64 d) (hb : Below W0.heap.size W0 W) (h : ∀ l', P l' → d = l') : RdL W0 P (.returned (.slice A n c)) W := by
  subst hn
  exact ⟨A, c, d, rfl, hi, hc, hl, h64, hb, h⟩
theorem all64_rep {d : List Int} {x : Int} (hd : All64 d) (hx : I64 x) (m : Nat) : All64 (d ++ List.replicate m x) := fun y hy => by
  rcases List.mem_append.1 hy with h | h
  · exact hd y h
  · rw [(List.mem_replicate.1 h).2]; exact hx
theorem rep_snoc (d : List Int) (j : Nat) (x : Int) : (d ++ List.replicate j x) ++ [x] = d ++ List.replicate (j + 1) x := by
  rw [List.append_assoc, List.replicate_succ']

theorem trr_bad1 {p b : List UInt8} {n : Nat} {d : List Int} {at_ : Int} (h : TrR p b n d at_) (hk : at_ < b.length ∨ d.length < n) (hn : n ≤ 4096) (hE : takeO b at_ = none) (l : List Int) (h64 : All64 l) (hl : l.length = n) (hb : p ++ (runsL l).flatMap layRun = b) : False := by
  obtain ⟨m, x, dn, rs, _, _, _, _, _, _, e4, _⟩ := trr_at h hk l h64 hl hn hb
  rw [hE] at e4
  cases e4
theorem trr_bad2 {p b : List UInt8} {n : Nat} {d : List Int} {at_ : Int} (h : TrR p b n d at_) (hk : at_ < b.length ∨ d.length < n) (hn : n ≤ 4096) {m c : Nat} (hE : takeO b at_ = some (m, c)) (hF : takeO b (at_ + c) = none) (l : List Int) (h64 : All64 l) (hl : l.length = n) (hb : p ++ (runsL l).flatMap layRun = b) : False := by
  obtain ⟨m', x, dn, rs, _, _, _, _, _, _, e4, e5⟩ := trr_at h hk l h64 hl hn hb
  rw [hE] at e4
  simp only [Option.some.injEq, Prod.mk.injEq] at e4
  obtain ⟨rfl, rfl⟩ := e4
  rw [hF] at e5
  cases e5
theorem trr_bad3 {p b : List UInt8} {n : Nat} {d : List Int} {at_ : Int} (h : TrR p b n d at_) (hk : at_ < b.length ∨ d.length < n) (hn : n ≤ 4096) {m c : Nat} (hE : takeO b at_ = some (m, c)) (hm : m = 0 ∨ n < d.length + m) (l : List Int) (h64 : All64 l) (hl : l.length = n) (hb : p ++ (runsL l).flatMap layRun = b) : False := by
  obtain ⟨m', x, dn, rs, h1, h2, _, _, _, _, e4, e5⟩ := trr_at h hk l h64 hl hn hb
  rw [hE] at e4
  simp only [Option.some.injEq, Prod.mk.injEq] at e4
  obtain ⟨rfl, rfl⟩ := e4
  omega
end Go.Proofs.YtfgmdaemcaamiaaDoor

/-! The document's Decode: forms 2 and 3. -/
namespace Go.Proofs.YtfgmdaemcaamiaaDoor
open Go.RowKit
set_option linter.unusedVariables false

theorem wide_enc2 {n : Nat} {b : List UInt8} {l : List Int} (h : EncOf 2 n b l) (hn : 0 < n) : ∃ a D, I64 a ∧ D.length + 1 = n ∧ l = accL a D ∧ [2] ++ (sgn a ++ packD D) = b := by
  obtain ⟨h1, h2, h3⟩ := h
  cases l with
  | nil => rw [← h2] at hn; cases hn
  | cons a t =>
    refine ⟨a, stepsL (a :: t), h1 a (by simp), by rw [stepsL_len, ← h2]; rfl, (accL_steps t a h1).symm, h3⟩
theorem wide_enc3 {n : Nat} {b : List UInt8} {l : List Int} (h : EncOf 3 n b l) (hn : 0 < n) : ∃ m D, I64 m ∧ D.length = n ∧ l = D.map (addW m) ∧ [3] ++ (sgn m ++ packD D) = b := by
  obtain ⟨h1, h2, h3⟩ := h
  cases l with
  | nil => rw [← h2] at hn; cases hn
  | cons a t =>
    refine ⟨minL (a :: t), (a :: t).map (offW (minL (a :: t))), minL_64 h1 (by simp), by rw [List.length_map]; exact h2, (addW_map h1).symm, h3⟩
/-- What stands behind a place, as a slice of the rest. -/
theorem Byt.rest {w : World} {b o : Nat} {l : List UInt8} (h : Byt w (some ⟨b, o, none⟩) l) (i : Nat) : Byt w (some ⟨b, o + i, none⟩) (l.drop i) := by
  have := Byt.part h i (l.length - i)
  rwa [List.take_of_length_le (by rw [List.length_drop]; exact Nat.le_refl _)] at this
theorem RdL.nul {W0 W : World} {P : List Int → Prop} (hb : Below W0.heap.size W0 W) (h : ∀ l', P l' → [] = l') : RdL W0 P (.returned (.slice none 0 0)) W :=
  ⟨Option.none, 0, [], rfl, fun k hk => absurd hk (by simp), Nat.le_refl _, by simp, fun y hy => absurd hy (by simp), hb, h⟩

theorem addW_ref (m : Int) (s : W64) : wrap64 (IntKind.u64.wrap (IntKind.u64.wrap m + (s.toNat : Int))) = addW m s := by
  unfold addW wrap64
  rw [IntKind.wrap_i64, IntKind.wrap_u64, IntKind.wrap_u64]
  omega

end Go.Proofs.YtfgmdaemcaamiaaDoor

/-! The document's Decode: form 2. -/
namespace Go.Proofs.YtfgmdaemcaamiaaDoor
open Go.RowKit
set_option linter.unusedVariables false

theorem owni_one (w : World) (x : Int) : OwnI (w.alloc (.cells #[Value.int .i64 x] 2)) w.heap.size (.slice (some ⟨w.heap.size, 0, none⟩) 1 1) [x] := by
  refine ⟨rfl, .inr ⟨w.heap.size, 1, #[Value.int .i64 x], rfl, Nat.le_refl _, heap_alloc_new w _, Nat.le_refl _, by unfold maxLen; omega, rfl, rfl⟩⟩

end Go.Proofs.YtfgmdaemcaamiaaDoor

/-! The document's Decode, and Same. -/
namespace Go.Proofs.YtfgmdaemcaamiaaDoor
open Go.RowKit
set_option linter.unusedVariables false

/-- A list that bytes say. -/
def decP (b : List UInt8) (n : Int) (l : List Int) : Prop := ∃ f : Nat, f < 4 ∧ 0 ≤ n ∧ n ≤ 4096 ∧ EncOf f n.toNat b l
/-- What Decode hands back. -/
def DecR (W0 : World) (b : List UInt8) (n : Int) (e : Ending) (W' : World) : Prop := Below W0.heap.size W0 W' ∧
  ((∃ A c l, decP b n l ∧ (∀ l', decP b n l' → l = l') ∧ e = .returned (.tuple #[.slice A l.length c, .int .i64 0]) ∧ Ints W' A l ∧ l.length ≤ c) ∨
   ((∀ l, ¬ decP b n l) ∧ e = .returned (.tuple #[.slice none 0 0, .int .i64 (if n < 0 ∨ 4096 < n then 2 else 60)])))

theorem dec_f {b : List UInt8} {n : Int} {l : List Int} {f : Nat} (h0 : 0 < b.length) (hf : (b[0]).toNat = f) (h : decP b n l) : 0 ≤ n ∧ n ≤ 4096 ∧ EncOf f n.toNat b l := by
  obtain ⟨g, hg, h1, h2, h3⟩ := h
  have : f = g := by
    obtain ⟨_, _, e⟩ := h3
    subst e
    rw [← hf]
    show (UInt8.ofNat g).toNat = g
    rw [UInt8.toNat_ofNat']
    omega
  subst this
  exact ⟨h1, h2, h3⟩
end Go.Proofs.YtfgmdaemcaamiaaDoor
