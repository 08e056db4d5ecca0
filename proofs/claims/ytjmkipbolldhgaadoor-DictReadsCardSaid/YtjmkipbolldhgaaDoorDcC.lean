/- dict.Encode. -/
import Derived.Test.YtjmkipbolldhgaaDoorDcB
import Derived.Test.YtjmkipbolldhgaaDoorRefNum
namespace Go.Proofs.YtjmkipbolldhgaaDoor
open Go.RowKit
set_option linter.unusedVariables false

/-- What encoding hands back: bytes in a row of the call's own. -/
def LaidT (W0 : World) (b : List UInt8) (e : Ending) (W' : World) : Prop := ∃ v, e = .returned (.tuple #[v, .int .i64 0]) ∧ Own W' W0.heap.size v b ∧ Below W0.heap.size W0 W'

set_option maxHeartbeats 2000000 in
theorem tenc_bad (f : Int) (A : Option Addr) (cap : Nat) (l : List Tx) (W : World) (hl : Strs W A l) (hn : l.length ≤ 9223372036854775807) (hs : ∀ x ∈ l, x.length ≤ 9223372036854775807) (h : (¬ f = 0 ∧ ¬ f = 1) ∨ ¬ rightT l) :
    Calls Tryd.prog 8 #[.int .i64 f, .slice A l.length cap] W fun e W' => e = .returned (.tuple #[.slice none 0 0, .int .i64 2]) ∧ Below W.heap.size W W' := by
  have HIS := Lib.hid (islist_any A cap l W hl hn hs)
  have HREF : Hid (Below W.heap.size W W) := Below.refl _ _
  generalize l.length = n at *
  by_cases h0 : f = 0 ∨ f = 1
  · have hr : ¬ rightT l := fun hr' => h.elim (fun ⟨a, b⟩ => h0.elim a b) (fun k => k hr')
    rw [decide_eq_false hr] at HIS
    clear hl hs h
    rcases h0 with rfl | rfl
    all_goals
      go_enter Tryd.func8, Tryd.ntmps8
      go_wp2_with (go_at_call 15; refine HIS.out.mono ?_; rintro e w1 ⟨rfl, hb⟩; have HB := Lib.hid hb; clear hb)
      go_ret2
      exact ⟨rfl, HB.out⟩
  · have h1 : (f != 0) = true := by simp; omega
    have h2 : (f != 1) = true := by simp; omega
    have h3 : (f == 0) = false := by simp; omega
    have h4 : (f == 1) = false := by simp; omega
    clear hl hs h
    go_enter Tryd.func8, Tryd.ntmps8
    go_wp2_with (go_at_call 15; refine HIS.out.mono ?_; rintro e w1 ⟨rfl, hb⟩; have HB := Lib.hid hb; clear hb)
    go_ret2
    exact ⟨rfl, HREF.out⟩
theorem own_byte (w : World) (c : UInt8) : Own (w.alloc (.cells #[Value.int .u8 (c.toNat : Int)] 5)) w.heap.size (.slice (some ⟨w.heap.size, 0, none⟩) 1 1) [c] := by
  refine ⟨rfl, .inr ⟨w.heap.size, 1, #[Value.int .u8 (c.toNat : Int)], rfl, Nat.le_refl _, heap_alloc_new w _, Nat.le_refl _, by unfold maxLen; omega, rfl, rfl⟩⟩
set_option maxHeartbeats 2000000 in
theorem tenc0_any (A : Option Addr) (cap : Nat) (l : List Tx) (W : World) (hl : Strs W A l) (hr : rightT l) :
    Calls Tryd.prog 8 #[.int .i64 0, .slice A l.length cap] W (LaidT W (encT 0 l)) := by
  have his := islist_any A cap l W hl (by have := hr.1; omega) (fun x hx => by have := hr.2 x hx; omega)
  rw [decide_eq_true hr] at his
  have HIS := Lib.hid his
  have HLT := Lib.hid (fun (w1 : World) (h : Below W.heap.size W w1) => laytexts_any (some ⟨w1.heap.size, 0, none⟩) A 1 cap 1 [0] l w1 (w1.alloc (.cells #[Value.int .u8 0] 5)) rfl (own_byte w1 0) ((Below.refl _ _).alloc (Nat.le_refl _) _) (by simp) (hl.keep h) hr)
  have HE : Hid ([0] ++ l.flatMap txt = encT 0 l) := rfl
  generalize l.length = n at *
  clear hl hr his
  go_enter Tryd.func8, Tryd.ntmps8
  go_wp2_with (first | (go_at_call 15; refine HIS.out.mono ?_; rintro e w1 ⟨rfl, hb⟩; have HB := Lib.hid hb; clear hb) | (go_at_call 16; refine (HLT.out w1 HB.out).mono ?_; rintro e w2 ⟨v2, rfl, ho, hb2⟩; rw [HE.out] at ho; have HO := Lib.hid (ho.base HB.out.size); have HB2 := Lib.hid (HB.out.trans (hb2.mono HB.out.size)); clear ho hb2))
  go_ret2
  exact ⟨_, rfl, HO.out, HB2.out⟩

set_option maxRecDepth 100000 in
set_option maxHeartbeats 8000000 in
theorem tenc1_any (A : Option Addr) (cap : Nat) (l : List Tx) (W : World) (hl : Strs W A l) (hr : rightT l) (hT : TabAt W) :
    Calls Tryd.prog 8 #[.int .i64 1, .slice A l.length cap] W (LaidT W (encT 1 l)) := by
  have his := islist_any A cap l W hl (by have := hr.1; omega) (fun x hx => by have := hr.2 x hx; omega)
  rw [decide_eq_true hr] at his
  have HIS := Lib.hid his
  have HSPL := Lib.hid (fun (w1 : World) (h : Below W.heap.size W w1) => split_any A cap l w1 (hl.keep h) hr)
  unfold SplitR at HSPL
  have hrr := rise_right hr
  have hR0 := rise_len l
  obtain ⟨R, hR⟩ : ∃ R, riseL l = R := ⟨_, rfl⟩
  obtain ⟨D, hD⟩ : ∃ D, l.map (plW R) = D := ⟨_, rfl⟩
  have hDl : D.length = l.length := by rw [← hD, List.length_map]
  have hfin : encT 1 l = (([1] ++ num R.length ++ R.flatMap txt) ++ [UInt8.ofNat (widL D)]) ++ pkB (widL D : Int) D := by
    rw [← hD, ← hR]
    show UInt8.ofNat 1 :: (num (riseL l).length ++ (riseL l).flatMap txt ++ packD (l.map (plW (riseL l)))) = _
    unfold packD
    simp
  have htot := encT_len (f := 1) hr
  rw [hfin] at htot ⊢
  rw [hR] at hrr HSPL hR0
  rw [hD] at HSPL
  have HLAY := Lib.hid (fun (Ab AR : Option Addr) (cb cR nb : Nat) (b : List UInt8) (W0 W1 : World) (h1 : b.length = nb) (h2 : Own W1 W0.heap.size (.slice Ab nb cb) b) (h3 : Below W0.heap.size W0 W1) (h4 : b.length ≤ 100) (h5 : Strs W0 AR R) => laytexts_any Ab AR cb cR nb b R W0 W1 h1 h2 h3 h4 h5 hrr)
  have hwl := widL_le D
  have hd96 : D.length ≤ 4096 := by rw [hDl]; exact hr.1
  have HWID := Lib.hid (fun (N : Nat) (w1 : World) (h : Num w1 (some ⟨N, 0, none⟩) D) => width_any (some ⟨N, 0, none⟩) D.length D w1 h (by omega))
  have HPK : Hid (∀ (N : Nat) (w1 : World), Num w1 (some ⟨N, 0, none⟩) D → Below W.heap.size W w1 → Calls Tryd.prog 20 #[.int .i64 (widL D : Int), .slice (some ⟨N, 0, none⟩) D.length D.length] w1 fun e W' => e = .returned (.tuple #[.slice (some ⟨w1.heap.size, 0, none⟩) (pkB (widL D : Int) D).length (pkB (widL D : Int) D).length, .int .i64 0]) ∧ Blk W' w1.heap.size 5 (u8s (pkB (widL D : Int) D)) ∧ Below w1.heap.size w1 W') := fun N w1 h h2 => by
    have hh := pack_good (widL D) (some ⟨N, 0, none⟩) D.length D w1 h hwl hd96 (Nat.le_refl _) (hT.keep h2)
    have e : pkB (widL D : Int) D = packL ((D.length * widL D + 7) / 8) (bitsP (widL D) D) := if_pos (pkE_zero.1 (packE_self hd96))
    rw [e, packL_len]
    exact hh
  have hcv : IntKind.u8.wrap ((widL D : Nat) : Int) = ((UInt8.ofNat (widL D)).toNat : Int) := by rw [IntKind.wrap_u8, UInt8.toNat_ofNat']; omega
  have HNUMB := Lib.hid (fun (w1 : World) => number_any (some ⟨w1.heap.size, 0, none⟩) 1 R.length [1] (w1.alloc (.cells #[Value.int .u8 1] 5)) (byt_one w1 1 _ rfl) (by simp) (by simp) (by have := hrr.1; omega))
  obtain ⟨wc, hwc⟩ : ∃ wc, UInt8.ofNat (widL D) = wc := ⟨_, rfl⟩
  rw [hwc] at hcv htot ⊢
  obtain ⟨pk, hpk⟩ : ∃ pk, pkB (widL D : Int) D = pk := ⟨_, rfl⟩
  rw [hpk] at HPK htot ⊢
  generalize widL D = wd at *
  obtain ⟨b1, hb1⟩ : ∃ x, [1] ++ num R.length = x := ⟨_, rfl⟩
  have hb1l : b1.length ≤ 11 := by rw [← hb1, List.length_append]; have := (num_len R.length).2; simp; omega
  rw [hb1] at htot HNUMB ⊢
  obtain ⟨b2, hb2⟩ : ∃ x, b1 ++ R.flatMap txt = x := ⟨_, rfl⟩
  rw [hb2] at htot ⊢
  obtain ⟨b3, hb3⟩ : ∃ x, b2 ++ [wc] = x := ⟨_, rfl⟩
  rw [hb3] at htot ⊢
  have HTOT : Hid (b2.length + 1 = b3.length ∧ b3.length + pk.length ≤ 5000000) := by
    refine ⟨by rw [← hb3, List.length_append]; rfl, ?_⟩
    rw [List.length_append] at htot
    exact htot
  have HB1L := Lib.hid hb1l
  have HB2 := Lib.hid hb2
  have HB3 := Lib.hid hb3
  have HCV := Lib.hid hcv
  obtain ⟨m, hm⟩ : ∃ x, R.length = x := ⟨_, rfl⟩
  obtain ⟨nd, hnd⟩ : ∃ x, l.length = x := ⟨_, rfl⟩
  rw [hnd] at hDl
  rw [hDl] at HPK HWID
  rw [hm] at HLAY HSPL HNUMB
  rw [hnd] at HSPL HIS ⊢
  obtain ⟨n1, hn1⟩ : ∃ x, b1.length = x := ⟨_, rfl⟩
  obtain ⟨n2, hn2⟩ : ∃ x, b2.length = x := ⟨_, rfl⟩
  obtain ⟨n3, hn3⟩ : ∃ x, b3.length = x := ⟨_, rfl⟩
  obtain ⟨np, hnp⟩ : ∃ x, pk.length = x := ⟨_, rfl⟩
  rw [hnp] at HPK
  have HN1 := Lib.hid hn1
  have HN2 := Lib.hid hn2
  have HN3 := Lib.hid hn3
  have HNP := Lib.hid hnp
  have hm96 : m ≤ 4096 := by rw [← hm]; exact hrr.1
  have hmu : IntKind.u64.wrap (m : Int) = (m : Int) := by rw [IntKind.wrap_u64]; omega
  unfold Made at HNUMB
  clear hl hr hT his hrr hR0 hR hD hDl hfin htot hwl hd96 hcv hwc hpk hb1 hb1l hb2 hb3 hm hnd hn1 hn2 hn3 hnp
  go_enter Tryd.func8, Tryd.ntmps8
  go_wp2_with (first | (go_at_call 15; refine HIS.out.mono ?_; rintro e w1 ⟨rfl, hb⟩; have HB := Lib.hid hb; clear hb) | (go_at_call 17; refine (HSPL.out w1 HB.out).mono ?_; rintro e w2 ⟨AR, cR, N, rfl, hSR, hcR, hnum, hbb⟩; have HSR := Lib.hid hSR; have HNUM := Lib.hid hnum; have E2 := Lib.hid (HB.out.trans (hbb.mono HB.out.size)); clear hSR hcR hnum hbb) | (go_at_call 18; refine (HNUMB.out w2).mono ?_; rintro e w3 ⟨v3, rfl, ho3, hb3⟩; obtain ⟨A3, c3, rfl, _, _, _, _⟩ := ho3.form; rw [HN1.out] at ho3 ⊢; have O3 : Hid (Own w3 w2.heap.size (.slice A3 n1 c3) b1) := ho3.base (by simp); have E3 : Hid (Below w2.heap.size w2 w3) := ((Below.refl w2.heap.size w2).alloc (Nat.le_refl _) _).trans (hb3.mono (by simp)); clear ho3 hb3) | (go_at_call 16; refine (HLAY.out A3 AR c3 cR n1 b1 w2 w3 HN1.out O3.out E3.out (by have := HB1L.out; omega) HSR.out).mono ?_; rintro e w4 ⟨v4, rfl, ho4, hb4⟩; rw [HB2.out] at ho4; obtain ⟨A4, c4, rfl, _, _, _, _⟩ := ho4.form; rw [HN2.out] at ho4 ⊢; have O4 : Hid (Own w4 W.heap.size (.slice A4 n2 c4) b2) := ho4.base E2.out.size; have E4 : Hid (Below W.heap.size W w4) := E2.out.trans (hb4.mono E2.out.size); have NUM4 := Lib.hid (HNUM.out.keep hb4); clear ho4 hb4) | (go_at_call 19; refine (HWID.out N w4 NUM4.out).mono ?_; rintro e w5 ⟨rfl, rfl⟩) | (go_at_call 20; refine (HPK.out N _ NUM4.out E4.out).mono ?_; rintro e w6 ⟨rfl, y6, hb6⟩; obtain ⟨X, hX⟩ : ∃ X, w5.heap.size = X := ⟨_, rfl⟩; have HNX : Hid ((Value.slice A4 n2 c4).ownBlock ≠ some X) := (fun e => by have h1 := (World.ownsRow.lt O4.out X e).2; omega); have O6 := Lib.hid (O4.out.below hb6); have E6 : Hid (Below W.heap.size W w6) := E4.out.trans (hb6.mono E4.out.size); rw [hX] at y6 ⊢; have Y6 := Lib.hid y6; clear y6 hb6 hX) | (refine app_byt W rfl _ _ rfl (.slice A4 n2 c4) b2 rfl (O6.out.alloc _) (E6.out.alloc E6.out.size _) (some ⟨w6.heap.size, 0, none⟩) 1 1 [wc] rfl rfl (byt_one w6 wc _ HCV.out) (by simp) (by have := HTOT.out; simp; omega) ?_; intro v7 w7 hown7 hbel7 hg7; rw [HB3.out] at hown7; have Y7 := Lib.hid (blk_grown hg7.1 (Y6.out.later _) HNX.out); obtain ⟨A7, c7, rfl, _, _, _, _⟩ := hown7.form; rw [HN3.out] at hown7 ⊢; have O7 := Lib.hid hown7; have E7 := Lib.hid hbel7; clear hown7 hbel7 hg7) | (refine app_byt W rfl _ _ rfl (.slice A7 n3 c7) b3 rfl O7.out E7.out (some ⟨X, 0, none⟩) np np pk rfl HNP.out.symm Y7.out.byt (by simp) (by have := HTOT.out; omega) ?_; intro v8 w8 hown8 hbel8 _; have O8 := Lib.hid hown8; have E8 := Lib.hid hbel8; clear hown8 hbel8))
  go_ret2
  exact ⟨_, rfl, O8.out, E8.out⟩
end Go.Proofs.YtjmkipbolldhgaaDoor
