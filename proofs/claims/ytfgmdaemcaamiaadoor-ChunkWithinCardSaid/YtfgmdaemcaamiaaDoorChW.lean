/- The walk of the document's Zone. -/
import Derived.Test.YtfgmdaemcaamiaaDoorChY
namespace Go.Proofs.YtfgmdaemcaamiaaDoor
open Go.RowKit
set_option linter.unusedVariables false

theorem rzone_res {N : Nat} {w : World} {k e : Int} {a b : Vl} (h : Blk w N 32 (zonC k a b)) (tmps : Array Value) (h2 : tmps.getD 2 undef = .pointer (some ⟨N, 0, none⟩)) (h3 : tmps.getD 3 undef = .int .i64 e) :
    (results Tryd.f12 tmps).run Tryd.prog w = .ok (.tuple #[zonV k a b, .int .i64 e]) w := by
  have c0 : w.cell? ⟨N, 0, none⟩ = some (.int .i64 k) := (h.at_ 0).trans rfl
  have c1 : w.cell? ⟨N, 1, none⟩ = some (.int .i64 a.kind) := (h.at_ 1).trans rfl
  have c2 : w.cell? ⟨N, 2, none⟩ = some (.int .i64 a.num) := (h.at_ 2).trans rfl
  have c3 : w.cell? ⟨N, 3, none⟩ = some (.string a.text) := (h.at_ 3).trans rfl
  have c4 : w.cell? ⟨N, 4, none⟩ = some (.int .i64 b.kind) := (h.at_ 4).trans rfl
  have c5 : w.cell? ⟨N, 5, none⟩ = some (.int .i64 b.num) := (h.at_ 5).trans rfl
  have c6 : w.cell? ⟨N, 6, none⟩ = some (.string b.text) := (h.at_ 6).trans rfl
  have h2' : tmps[2]?.getD undef = .pointer (some ⟨N, 0, none⟩) := by simpa using h2
  have h3' : tmps[3]?.getD undef = .int .i64 e := by simpa using h3
  unfold zonV
  simp [results, Tryd.results12, go_sem, h2', h3', c0, c1, c2, c3, c4, c5, c6]
theorem info8V : (Tryd.prog.info? 30).map (·.size) = some 3 := by kernel_rfl
/-- The ends so far. -/
def mnK (l : List Vl) (k : Nat) : Vl := minZ (othL (l.take k))
def mxK (l : List Vl) (k : Nat) : Vl := maxZ (othL (l.take k))
theorem mnK_null (l : List Vl) (k : Nat) (h : k < l.length) (h0 : l[k].kind = 0) : mnK l (k + 1) = mnK l k ∧ mxK l (k + 1) = mxK l k := by
  unfold mnK mxK
  rw [oth_snoc l k h, if_pos h0, List.append_nil]
  exact ⟨rfl, rfl⟩
theorem mnK_some (l : List Vl) (k : Nat) (h : k < l.length) (h0 : ¬ l[k].kind = 0) : mnK l (k + 1) = minS (mnK l k) l[k] ∧ mxK l (k + 1) = maxS (mxK l k) l[k] := by
  unfold mnK mxK
  rw [oth_snoc l k h, if_neg h0, minZ_snoc, maxZ_snoc]
  exact ⟨rfl, rfl⟩
theorem vlR_nulV : vlR nulV = true := by decide +kernel
/-- The ends may be, and they are null together. -/
theorem mnK_right (l : List Vl) (k : Nat) (hr : ∀ j (a : j < l.length), j < k → vlR l[j] = true) : vlR (mnK l k) = true ∧ vlR (mxK l k) = true ∧ ((mnK l k).kind = 0 → mxK l k = nulV) := by
  have hall : ∀ v ∈ l.take k, vlR v = true := fun v hv => by
    obtain ⟨i, hi, rfl⟩ := List.mem_iff_getElem.1 hv
    rw [List.length_take] at hi
    rw [List.getElem_take]
    exact hr i (by omega) (by omega)
  have hp := oth_pos hall
  have hmem : ∀ v ∈ othL (l.take k), vlR v = true := fun v hv => hall v (by unfold othL at hv; exact (List.mem_filter.1 hv).1)
  obtain ⟨h1, h2⟩ := minZ_spec _ hp
  unfold mnK mxK
  by_cases e : othL (l.take k) = []
  · obtain ⟨a, b⟩ := h1 e
    rw [a, b]
    exact ⟨vlR_nulV, vlR_nulV, fun _ => rfl⟩
  · obtain ⟨a, b, c⟩ := h2 e
    refine ⟨hmem _ a, hmem _ b, fun h0 => ?_⟩
    have := hp _ a
    omega
theorem cmp8_ref {a b : Vl} (ha : vlR a = true) (hb : vlR b = true) : refCmp a.kind a.num a.text.toList b.kind b.num b.text.toList = cmp8 a b := (cmp_ref ha hb).symm

set_option maxRecDepth 100000 in
set_option maxHeartbeats 20000000 in
theorem rzone_any (A : Option Addr) (cap : Nat) (l : List Vl) (W : World) (hl : Vls W A l) (hn : l.length ≤ 4000000000000000000) :
    Calls Tryd.prog 12 #[.slice A l.length cap] W fun e W' => e = .returned (zonT l) ∧ Below W.heap.size W W' := by
  obtain ⟨N, hN⟩ : ∃ N, W.heap.size = N := ⟨_, rfl⟩
  obtain ⟨n, hn2⟩ : ∃ n, l.length = n := ⟨_, rfl⟩
  by_cases hbig : 1024 < n
  · have hz : zonR l = false := zonR_big (by omega)
    rw [zonT_no hz, hn2]
    have hb : (1024 : Int) < (n : Int) := by omega
    clear hl hz
    go_enter Tryd.func12, Tryd.ntmps12
    go_wp2
    exact bodyPost_ret (rzone_res (by rw [← hN]; exact Blk.born W 32 (zonC 0 nulV nulV)) _ rfl rfl) rfl ⟨rfl, hN ▸ (Below.refl _ _).alloc (Nat.le_refl _) _⟩
  · have hle : n ≤ 1024 := by omega
    have HNN := Lib.hid hN
    have HLN := Lib.hid hn2
    have HL := Lib.hid hl
    have hb : ¬ (1024 : Int) < (n : Int) := by omega
    obtain ⟨z, hz⟩ : ∃ z, zonR l = z := ⟨_, rfl⟩
    rw [hn2]
    have HZ := Lib.hid hz
    rw [hn2] at hn
    clear hl hn2 hz hbig
    have hbz := Blk.born W 32 (zonC 0 nulV nulV)
    have hby := Blk.born (W.alloc (.cells (zonC 0 nulV nulV).toArray 32)) 32 (zonC 0 nulV nulV)
    have hbz2 := hbz.later (.cells (zonC 0 nulV nulV).toArray 32)
    have hbe : Below W.heap.size W ((W.alloc (.cells (zonC 0 nulV nulV).toArray 32)).alloc (.cells (zonC 0 nulV nulV).toArray 32)) := ((Below.refl _ _).alloc (Nat.le_refl _) _).alloc (by simp) _
    rw [World.size_alloc] at hby
    rw [hN] at hbz2 hby hbe
    have HBZ := Lib.hid hbz2
    have HBY := Lib.hid hby
    have HBE := Lib.hid hbe
    clear hbz hby hbz2 hbe
    go_enter Tryd.func12, Tryd.ntmps12
    go_wp2
    go_loopw [5, 6, 7, 8, 9] (fun f i _ _ _ wr => ∃ (k : Nat) (fb : Bool), k ≤ n ∧ i = .int .i64 k ∧ f = .bool fb ∧ fb = decide ((mnK l k).kind = 0) ∧ (∀ j (a : j < l.length), j < k → vlR l[j] = true) ∧ Blk wr N 32 (zonC 0 nulV nulV) ∧ Blk wr (N + 1) 32 (zonC (nulN (l.take k)) (mnK l k) (mxK l k)) ∧ Below N W wr) (fun _ i _ _ _ _ => n - (intOf i).toNat)
    case atStart => exact ⟨0, true, by omega, rfl, rfl, rfl, fun j _ h => by omega, HBZ.out, HBY.out, HBE.out⟩
    case round =>
      obtain ⟨k, fb, hk, rfl, rfl, hfb, hall, hbz, hby, hbel⟩ := hrel
      have HALL := Lib.hid hall
      have HBEL := Lib.hid hbel
      have HBZ := Lib.hid hbz
      have HBY := Lib.hid hby
      have HFB := Lib.hid hfb
      clear hall hbel hbz hby hfb
      by_cases hlt : k < n
      · have h1 : k < l.length := by rw [HLN.out]; exact hlt
        obtain ⟨b2, o2, rfl, hvb⟩ := HL.out k h1
        have HVX : Hid (∀ w, Below N W w → VlAt w b2 (o2 + k * 3) l[k]) := fun w h => hvb.keep h (by rw [← HNN.out]; exact hvb.lt)
        obtain ⟨x0, x1, x2⟩ := HVX.out wr HBEL.out
        have HK : Hid (k < n) := hlt
        have hbad : vlR l[k] = false → z = false := fun h => by rw [← HZ.out]; exact zonR_bad h1 h
        have hgd : vlR l[k] = true → ∀ j (a : j < l.length), j < k + 1 → vlR l[j] = true := fun h j a hj => by
          by_cases e : j = k
          · subst e; exact h
          · exact HALL.out j a (by omega)
        have hnull := mnK_null l k h1
        have hsome := mnK_some l k h1
        have hnul := nul_snoc l k h1
        have hrt := mnK_right l k HALL.out
        have hR := fun w => vrefright_any l[k].kind l[k].num l[k].text w l[k].bound
        clear hvb
        generalize l[k] = x at x0 x1 x2 hbad hgd hnull hsome hnul hR HVX
        clear h1
        obtain ⟨a, ha⟩ : ∃ a, mnK l k = a := ⟨_, rfl⟩
        obtain ⟨b, hb2⟩ : ∃ b, mxK l k = b := ⟨_, rfl⟩
        obtain ⟨nk, hnk⟩ : ∃ nk : Nat, nulN (l.take k) = nk := ⟨_, rfl⟩
        rw [ha] at hnull hsome hrt HBY HFB
        rw [hb2] at hnull hsome hrt HBY
        rw [hnk] at hnul HBY
        have hnk4 : nk ≤ k := by rw [← hnk]; have := nulN_oth (l.take k); rw [List.length_take] at this; omega
        clear ha hb2 hnk
        have hR := fun w => (show Calls Tryd.prog 32 #[.agg #[.int .i64 x.kind, .int .i64 x.num, .string x.text]] w fun e w' => e = .returned (.bool (vlR x)) ∧ Below w.heap.size w w' from hR w)
        have B0 := HBEL
        have Y0 := HBY
        have Z0 := HBZ
        have HRR := Lib.hid hR
        clear hR
        cases hbn : vlR x with
        | false =>
          have HX : Hid (z = false) := hbad hbn
          rw [hbn] at HRR
          clear hbad hgd hnull hsome hnul hrt hbn
          go_wp2_with (go_at_call 32; refine (HRR.out _).mono ?_; rintro e w1 ⟨rfl, hb1⟩; have B1 := Lib.hid (B0.out.trans (hb1.mono (by have := B0.out.size; omega))); have Z1 := Lib.hid (Z0.out.below hb1 (lt_of_block Z0.out)); clear hb1 x0 x1 x2; refine Hid.out ?_)
          refine Lib.hid ?_
          go_wp2_with (with_reducible refine st_midN rfl 32 (.tmp 2) (.tmp 27) rfl 7 ?c1 N 0 32 (zonC 0 nulV nulV) (zonC 0 nulV nulV) ?c2 ?c3 ?c4 ?c5 ?c6 ?c7 (Hid.out ?c8))
          case c1 => kernel_rfl
          case c2 => rfl
          case c3 => rfl
          case c4 => exact Z1.out
          case c5 => rfl
          case c6 => decide
          case c7 => decide
          refine Lib.hid ?_
          have HZ9 : Hid (Blk (w1.setCells N 0 (zonC 0 nulV nulV)) N 32 (zonC 0 nulV nulV)) := Blk.storesN (zonC 0 nulV nulV) (zonC 0 nulV nulV) 0 w1 Z1.out
          have HB9 := Lib.hid (Below.storesN (g := N) (Nat.le_refl _) (zonC 0 nulV nulV) 0 _ B1.out)
          have HRE := Lib.hid (zonT_no (HZ.out.trans HX.out))
          generalize w1.setCells N 0 (zonC 0 nulV nulV) = w9 at HZ9 HB9 ⊢
          go_wp2
          exact bodyPost_ret (rzone_res HZ9.out _ rfl rfl) rfl ⟨by rw [HRE.out], by rw [HNN.out]; exact HB9.out⟩
        | true =>
          have HG := Lib.hid (hgd hbn)
          have hkx := right_kind hbn
          rw [hbn] at HRR
          have hra := cmp8_ref hbn hrt.1
          have hrb := cmp8_ref hbn hrt.2.1
          clear hbad hgd
          have hcall : True := trivial
          go_wp2_with (go_at_call 32; refine (HRR.out _).mono ?_; rintro e w1 ⟨rfl, hb1⟩; have B1 := Lib.hid (B0.out.trans (hb1.mono (by have := B0.out.size; omega))); have Z1 := Lib.hid (Z0.out.below hb1 (lt_of_block Z0.out)); have Y1 := Lib.hid (Y0.out.below hb1 (lt_of_block Y0.out)); clear hb1 x0 x1 x2 HRR; refine Hid.out ?_)
          refine Lib.hid ?_
          obtain ⟨x0, x1, x2⟩ := HVX.out w1 B1.out
          by_cases hx0 : x.kind = 0
          · have HMN := Lib.hid (hnull hx0)
            rw [if_pos hx0] at hnul
            have HNK : Hid ((nulN (l.take (k + 1)) : Int) = (nk : Int) + 1) := by show _ = _; rw [hnul]; omega
            have HFB1 : Hid (fb = decide ((mnK l (k + 1)).kind = 0)) := by show _ = _; rw [HMN.out.1]; exact HFB.out
            have e0 : w1.cell? ⟨N + 1, 0, none⟩ = some (.int .i64 (nk : Int)) := (Y1.out.at_ 0).trans rfl
            have f0 := Y1.out.free 0
            have HY2 := Lib.hid (Y1.out.store 0 (.int .i64 ((nk : Int) + 1)))
            have HZ2 : Hid (Blk (w1.setCell ⟨N + 1, 0, none⟩ (.int .i64 ((nk : Int) + 1))) N 32 (zonC 0 nulV nulV)) := (Below.heap_setCell w1 ⟨N + 1, 0, none⟩ _ N (by show N ≠ N + 1; omega)).trans Z1.out
            have HB2 := Lib.hid (B1.out.setCell (p := ⟨N + 1, 0, none⟩) (by show N ≤ N + 1; omega) (.int .i64 ((nk : Int) + 1)))
            rw [hx0] at x0
            clear hnull hsome hnul hrt hra hrb hbn hkx hx0
            go_wp2
            go_roundw
            case rel => exact ⟨k + 1, fb, HK.out, by go_num, rfl, HFB1.out, HG.out, HZ2.out, by rw [HMN.out.1, HMN.out.2, HNK.out]; exact HY2.out, HB2.out⟩
            case measure => have := HK.out; simp [intOf]; omega
          · have HMN := Lib.hid (hsome hx0)
            rw [if_neg hx0] at hnul
            have HNK : Hid ((nulN (l.take (k + 1)) : Int) = (nk : Int)) := by show _ = _; omega
            have hda : minS a x = if a.kind = 0 ∨ cmp8 x a < 0 then x else a := rfl
            have hdb : maxS b x = if 0 < cmp8 x b then x else b := rfl
            have hnn : a.kind = 0 → 0 < cmp8 x b := fun h => by rw [hrt.2.2 h]; exact cmp8_null (by omega)
            have hca := fun w => refcompare_any x.kind x.num x.text a.kind a.num a.text w
            have hcb := fun w => refcompare_any x.kind x.num x.text b.kind b.num b.text w
            rw [hra] at hca
            rw [hrb] at hcb
            obtain ⟨ca, hcae⟩ : ∃ c, cmp8 x a = c := ⟨_, rfl⟩
            obtain ⟨cb, hcbe⟩ : ∃ c, cmp8 x b = c := ⟨_, rfl⟩
            rw [hcae] at hca hda
            rw [hcbe] at hcb hdb hnn
            have HCA := Lib.hid hca
            have HCB := Lib.hid hcb
            have HDA := Lib.hid hda
            have HDB := Lib.hid hdb
            have HNN2 := Lib.hid hnn
            have HX0 := Lib.hid hx0
            have q1 : (x.kind == 0) = false := by rw [beq_eq_false_iff_ne]; exact hx0
            clear hca hcb hda hdb hnn hcae hcbe hnull hsome hnul hrt hra hrb hbn hkx hx0 hcall
            go_upto_region 13 with (fail)
            have e0 : w1.drew.cell? ⟨N + 1, 1, none⟩ = some (.int .i64 a.kind) := (Y1.out.at_ 1).trans rfl
            have e1 : w1.drew.cell? ⟨N + 1, 2, none⟩ = some (.int .i64 a.num) := (Y1.out.at_ 2).trans rfl
            have e2 : w1.drew.cell? ⟨N + 1, 3, none⟩ = some (.string a.text) := (Y1.out.at_ 3).trans rfl
            have x0' : w1.drew.cell? ⟨b2, o2 + k * 3, none⟩ = some (.int .i64 x.kind) := x0
            have x1' : w1.drew.cell? ⟨b2, o2 + k * 3 + 1, none⟩ = some (.int .i64 x.num) := x1
            have x2' : w1.drew.cell? ⟨b2, o2 + k * 3 + 2, none⟩ = some (.string x.text) := x2
            refine wpB_start 8 (by kernel_rfl) rfl (fun R HRG => ?_)
            refine wpB_take HRG (i := 0) (v := .slice (some ⟨b2, o2, none⟩) n cap) rfl (by decide +kernel) (by decide +kernel) (by decide +kernel) (fun _ _ _ h => h) (by rfl) (fun W9 hW9 => by rfl) ?_
            go_simp
            refine wpB_take HRG (i := 1) (v := .int .i64 (k : Int)) rfl (by decide +kernel) (by decide +kernel) (by decide +kernel) (fun _ _ _ h => h) (by rfl) (fun W9 hW9 => by rfl) ?_
            go_simp
            refine wpB_take HRG (i := 2) (v := .pointer (some ⟨b2, o2 + k * 3, none⟩)) rfl (by decide +kernel) (by decide +kernel) (by decide +kernel) (fun _ _ _ h => h) (by rfl) (fun W9 hW9 => by first | (go_simp; done) | (go_simp; intro hx; exact absurd hx (by omega)) | (go_simp; rw [if_pos ⟨by omega, by omega⟩]; done)) ?_
            go_simp
            refine wpB_take HRG (i := 3) (v := .agg #[.int .i64 x.kind, .int .i64 x.num, .string x.text]) rfl (by decide +kernel) (by decide +kernel) (by decide +kernel) (fun _ _ _ h => h) (by rfl) (fun W9 hW9 => by have q0 := cell_below hW9 x0'; have q1 := cell_below hW9 x1'; have q2 := cell_below hW9 x2'; go_simp) ?_
            go_simp
            refine wpB_take HRG (i := 4) (v := .pointer (some ⟨N + 1, 1, none⟩)) rfl (by decide +kernel) (by decide +kernel) (by decide +kernel) (fun _ _ _ h => h) (by rfl) (fun W9 hW9 => by go_simp) ?_
            go_simp
            refine wpB_take HRG (i := 5) (v := .agg #[.int .i64 a.kind, .int .i64 a.num, .string a.text]) rfl (by decide +kernel) (by decide +kernel) (by decide +kernel) (fun _ _ _ h => h) (by rfl) (fun W9 hW9 => by have q0 := cell_below hW9 e0; have q1 := cell_below hW9 e1; have q2 := cell_below hW9 e2; go_simp) ?_
            go_simp
            refine wpB_call HRG (i := 6) rfl (by decide +kernel) (by rfl) (by go_simp; exact ⟨rfl, rfl⟩) ?_
            refine (HCA.out _).mono ?_
            rintro e w2 ⟨rfl, hbw2⟩
            refine ⟨_, rfl, hbw2, ?_⟩
            have Y2 := Lib.hid ((show Blk w1.drew (N + 1) _ _ from Y1.out).below hbw2 (show N + 1 < w1.drew.heap.size from lt_of_block Y1.out))
            have Z2 := Lib.hid ((show Blk w1.drew N _ _ from Z1.out).below hbw2 (show N < w1.drew.heap.size from lt_of_block Z1.out))
            have B2 := Lib.hid (B1.out.drew.trans (hbw2.mono (by have := B1.out.size; show N ≤ w1.heap.size; omega)))
            clear x0 x1 x2 e0 e1 e2 x0' x1' x2' hbw2
            go_simp
            refine wpB_take HRG (i := 7) (v := .int .i64 ca) rfl (by decide +kernel) (by decide +kernel) (by decide +kernel) (fun _ _ _ h => h) (by rfl) (fun W9 hW9 => by rfl) ?_
            go_simp
            refine wpB_done HRG (by decide +kernel) ?_
            clear HRG
            obtain ⟨x0, x1, x2⟩ := HVX.out w2 B2.out
            go_upto_region 14 with (fail)
            have e0 : w2.drew.cell? ⟨N + 1, 4, none⟩ = some (.int .i64 b.kind) := (Y2.out.at_ 4).trans rfl
            have e1 : w2.drew.cell? ⟨N + 1, 5, none⟩ = some (.int .i64 b.num) := (Y2.out.at_ 5).trans rfl
            have e2 : w2.drew.cell? ⟨N + 1, 6, none⟩ = some (.string b.text) := (Y2.out.at_ 6).trans rfl
            have x0' : w2.drew.cell? ⟨b2, o2 + k * 3, none⟩ = some (.int .i64 x.kind) := x0
            have x1' : w2.drew.cell? ⟨b2, o2 + k * 3 + 1, none⟩ = some (.int .i64 x.num) := x1
            have x2' : w2.drew.cell? ⟨b2, o2 + k * 3 + 2, none⟩ = some (.string x.text) := x2
            refine wpB_start 8 (by kernel_rfl) rfl (fun R HRG => ?_)
            refine wpB_take HRG (i := 0) (v := .slice (some ⟨b2, o2, none⟩) n cap) rfl (by decide +kernel) (by decide +kernel) (by decide +kernel) (fun _ _ _ h => h) (by rfl) (fun W9 hW9 => by rfl) ?_
            go_simp
            refine wpB_take HRG (i := 1) (v := .int .i64 (k : Int)) rfl (by decide +kernel) (by decide +kernel) (by decide +kernel) (fun _ _ _ h => h) (by rfl) (fun W9 hW9 => by rfl) ?_
            go_simp
            refine wpB_take HRG (i := 2) (v := .pointer (some ⟨b2, o2 + k * 3, none⟩)) rfl (by decide +kernel) (by decide +kernel) (by decide +kernel) (fun _ _ _ h => h) (by rfl) (fun W9 hW9 => by first | (go_simp; done) | (go_simp; intro hx; exact absurd hx (by omega)) | (go_simp; rw [if_pos ⟨by omega, by omega⟩]; done)) ?_
            go_simp
            refine wpB_take HRG (i := 3) (v := .agg #[.int .i64 x.kind, .int .i64 x.num, .string x.text]) rfl (by decide +kernel) (by decide +kernel) (by decide +kernel) (fun _ _ _ h => h) (by rfl) (fun W9 hW9 => by have q0 := cell_below hW9 x0'; have q1 := cell_below hW9 x1'; have q2 := cell_below hW9 x2'; go_simp) ?_
            go_simp
            refine wpB_take HRG (i := 4) (v := .pointer (some ⟨N + 1, 4, none⟩)) rfl (by decide +kernel) (by decide +kernel) (by decide +kernel) (fun _ _ _ h => h) (by rfl) (fun W9 hW9 => by go_simp) ?_
            go_simp
            refine wpB_take HRG (i := 5) (v := .agg #[.int .i64 b.kind, .int .i64 b.num, .string b.text]) rfl (by decide +kernel) (by decide +kernel) (by decide +kernel) (fun _ _ _ h => h) (by rfl) (fun W9 hW9 => by have q0 := cell_below hW9 e0; have q1 := cell_below hW9 e1; have q2 := cell_below hW9 e2; go_simp) ?_
            go_simp
            refine wpB_call HRG (i := 6) rfl (by decide +kernel) (by rfl) (by go_simp; exact ⟨rfl, rfl⟩) ?_
            refine (HCB.out _).mono ?_
            rintro e w3 ⟨rfl, hbw3⟩
            refine ⟨_, rfl, hbw3, ?_⟩
            have Y3 := Lib.hid ((show Blk w2.drew (N + 1) _ _ from Y2.out).below hbw3 (show N + 1 < w2.drew.heap.size from lt_of_block Y2.out))
            have Z3 := Lib.hid ((show Blk w2.drew N _ _ from Z2.out).below hbw3 (show N < w2.drew.heap.size from lt_of_block Z2.out))
            have B3 := Lib.hid (B2.out.drew.trans (hbw3.mono (by have := B2.out.size; show N ≤ w2.heap.size; omega)))
            clear x0 x1 x2 e0 e1 e2 x0' x1' x2' hbw3
            go_simp
            refine wpB_take HRG (i := 7) (v := .int .i64 cb) rfl (by decide +kernel) (by decide +kernel) (by decide +kernel) (fun _ _ _ h => h) (by rfl) (fun W9 hW9 => by rfl) ?_
            go_simp
            refine wpB_done HRG (by decide +kernel) ?_
            clear HRG
            obtain ⟨x0, x1, x2⟩ := HVX.out w3 B3.out
            cases fb with
            | true =>
              have hak : a.kind = 0 := by have := HFB.out; simpa using this.symm
              have hcb : 0 < cb := HNN2.out hak
              have HEA : Hid (minS a x = x) := by show _ = _; rw [HDA.out, if_pos (.inl hak)]
              have HEB : Hid (maxS b x = x) := by show _ = _; rw [HDB.out, if_pos hcb]
              have HFB1 : Hid (false = decide ((mnK l (k + 1)).kind = 0)) := by show _ = _; rw [HMN.out.1, HEA.out]; exact (decide_eq_false HX0.out).symm
              clear HDA HDB HFB hak
              go_wp2_with (with_reducible refine st_midN rfl 30 (.tmp 61) (.tmp 60) rfl 3 ?d1 (N + 1) 1 32 (zonC nk a b) (vlC x) ?d2 ?d3 ?d4 ?d5 ?d6 ?d7 (Hid.out ?d8))
              case d1 => first | kernel_rfl | simpa using info8V
              try (case d2 => rfl)
              try (case d3 => rfl)
              case d4 => exact Y3.out
              try (case d5 => rfl)
              case d6 => first | (show 7 ≤ 7; omega) | show 1 + 3 ≤ 7; omega
              case d7 => intro v hv; simp [vlC] at hv; rcases hv with rfl | rfl | rfl <;> rfl
              refine Lib.hid ?_
              have Y4 : Hid (Blk (w3.setCells (N + 1) 1 (vlC x)) (N + 1) 32 (zonC nk x b)) := Blk.storesN (vlC x) (zonC nk a b) 1 w3 Y3.out
              have Z4 := Lib.hid (Z3.out.apartN (g := N + 1) (by omega) (vlC x) 1)
              have B4 := Lib.hid (Below.storesN (g := N + 1) (by omega) (vlC x) 1 _ B3.out)
              clear x0 x1 x2
              generalize w3.setCells (N + 1) 1 (vlC x) = w4 at Y4 Z4 B4 ⊢
              obtain ⟨x0, x1, x2⟩ := HVX.out w4 B4.out
              go_wp2_with (with_reducible refine st_midN rfl 30 (.tmp 71) (.tmp 70) rfl 3 ?e1 (N + 1) 4 32 (zonC nk x b) (vlC x) ?e2 ?e3 ?e4 ?e5 ?e6 ?e7 (Hid.out ?e8))
              case e1 => first | kernel_rfl | simpa using info8V
              try (case e2 => rfl)
              try (case e3 => rfl)
              case e4 => exact Y4.out
              try (case e5 => rfl)
              case e6 => first | (show 7 ≤ 7; omega) | show 4 + 3 ≤ 7; omega
              case e7 => intro v hv; simp [vlC] at hv; rcases hv with rfl | rfl | rfl <;> rfl
              refine Lib.hid ?_
              have Y5 : Hid (Blk (w4.setCells (N + 1) 4 (vlC x)) (N + 1) 32 (zonC nk x x)) := Blk.storesN (vlC x) (zonC nk x b) 4 w4 Y4.out
              have Z5 := Lib.hid (Z4.out.apartN (g := N + 1) (by omega) (vlC x) 4)
              have B5 := Lib.hid (Below.storesN (g := N + 1) (by omega) (vlC x) 4 _ B4.out)
              clear x0 x1 x2
              generalize w4.setCells (N + 1) 4 (vlC x) = w5 at Y5 Z5 B5 ⊢
              obtain ⟨x0, x1, x2⟩ := HVX.out w5 B5.out
              go_wp2_with fail
              go_roundw
              case rel => exact ⟨k + 1, false, HK.out, by go_num, rfl, HFB1.out, HG.out, Z5.out, by rw [HMN.out.1, HMN.out.2, HNK.out, HEA.out, HEB.out]; exact Y5.out, B5.out⟩
              case measure => have := HK.out; simp [intOf]; omega
            | false =>
              have hak : ¬ a.kind = 0 := by have := HFB.out; simpa using this.symm
              by_cases hca : ca < 0
              · have HEA : Hid (minS a x = x) := by show _ = _; rw [HDA.out, if_pos (.inr hca)]
                have HFB1 : Hid (false = decide ((mnK l (k + 1)).kind = 0)) := by show _ = _; rw [HMN.out.1, HEA.out]; exact (decide_eq_false HX0.out).symm
                clear HDA HFB hak
                go_wp2_with (with_reducible refine st_midN rfl 30 (.tmp 61) (.tmp 60) rfl 3 ?f1 (N + 1) 1 32 (zonC nk a b) (vlC x) ?f2 ?f3 ?f4 ?f5 ?f6 ?f7 (Hid.out ?f8))
                case f1 => first | kernel_rfl | simpa using info8V
                try (case f2 => rfl)
                try (case f3 => rfl)
                case f4 => exact Y3.out
                try (case f5 => rfl)
                case f6 => first | (show 7 ≤ 7; omega) | show 1 + 3 ≤ 7; omega
                case f7 => intro v hv; simp [vlC] at hv; rcases hv with rfl | rfl | rfl <;> rfl
                refine Lib.hid ?_
                have Y4 : Hid (Blk (w3.setCells (N + 1) 1 (vlC x)) (N + 1) 32 (zonC nk x b)) := Blk.storesN (vlC x) (zonC nk a b) 1 w3 Y3.out
                have Z4 := Lib.hid (Z3.out.apartN (g := N + 1) (by omega) (vlC x) 1)
                have B4 := Lib.hid (Below.storesN (g := N + 1) (by omega) (vlC x) 1 _ B3.out)
                clear x0 x1 x2
                generalize w3.setCells (N + 1) 1 (vlC x) = w4 at Y4 Z4 B4 ⊢
                obtain ⟨x0, x1, x2⟩ := HVX.out w4 B4.out
                by_cases hcb : 0 < cb
                · have HEB : Hid (maxS b x = x) := by show _ = _; rw [HDB.out, if_pos hcb]
                  clear HDB
                  go_wp2_with (with_reducible refine st_midN rfl 30 (.tmp 71) (.tmp 70) rfl 3 ?g1 (N + 1) 4 32 (zonC nk x b) (vlC x) ?g2 ?g3 ?g4 ?g5 ?g6 ?g7 (Hid.out ?g8))
                  case g1 => first | kernel_rfl | simpa using info8V
                  try (case g2 => rfl)
                  try (case g3 => rfl)
                  case g4 => exact Y4.out
                  try (case g5 => rfl)
                  case g6 => first | (show 7 ≤ 7; omega) | show 4 + 3 ≤ 7; omega
                  case g7 => intro v hv; simp [vlC] at hv; rcases hv with rfl | rfl | rfl <;> rfl
                  refine Lib.hid ?_
                  have Y5 : Hid (Blk (w4.setCells (N + 1) 4 (vlC x)) (N + 1) 32 (zonC nk x x)) := Blk.storesN (vlC x) (zonC nk x b) 4 w4 Y4.out
                  have Z5 := Lib.hid (Z4.out.apartN (g := N + 1) (by omega) (vlC x) 4)
                  have B5 := Lib.hid (Below.storesN (g := N + 1) (by omega) (vlC x) 4 _ B4.out)
                  clear x0 x1 x2
                  generalize w4.setCells (N + 1) 4 (vlC x) = w5 at Y5 Z5 B5 ⊢
                  obtain ⟨x0, x1, x2⟩ := HVX.out w5 B5.out
                  go_wp2_with fail
                  go_roundw
                  case rel => exact ⟨k + 1, false, HK.out, by go_num, rfl, HFB1.out, HG.out, Z5.out, by rw [HMN.out.1, HMN.out.2, HNK.out, HEA.out, HEB.out]; exact Y5.out, B5.out⟩
                  case measure => have := HK.out; simp [intOf]; omega
                · have HEB : Hid (maxS b x = b) := by show _ = _; rw [HDB.out, if_neg hcb]
                  clear HDB
                  go_wp2_with fail
                  go_roundw
                  case rel => exact ⟨k + 1, false, HK.out, by go_num, rfl, HFB1.out, HG.out, Z4.out, by rw [HMN.out.1, HMN.out.2, HNK.out, HEA.out, HEB.out]; exact Y4.out, B4.out⟩
                  case measure => have := HK.out; simp [intOf]; omega
              · have HEA : Hid (minS a x = a) := by show _ = _; rw [HDA.out, if_neg (by rintro (h | h); exact hak h; exact hca h)]
                have HFB1 : Hid (false = decide ((mnK l (k + 1)).kind = 0)) := by show _ = _; rw [HMN.out.1, HEA.out]; exact (decide_eq_false hak).symm
                clear HDA HFB hak
                by_cases hcb : 0 < cb
                · have HEB : Hid (maxS b x = x) := by show _ = _; rw [HDB.out, if_pos hcb]
                  clear HDB
                  go_wp2_with (with_reducible refine st_midN rfl 30 (.tmp 71) (.tmp 70) rfl 3 ?j1 (N + 1) 4 32 (zonC nk a b) (vlC x) ?j2 ?j3 ?j4 ?j5 ?j6 ?j7 (Hid.out ?j8))
                  case j1 => first | kernel_rfl | simpa using info8V
                  try (case j2 => rfl)
                  try (case j3 => rfl)
                  case j4 => exact Y3.out
                  try (case j5 => rfl)
                  case j6 => first | (show 7 ≤ 7; omega) | show 4 + 3 ≤ 7; omega
                  case j7 => intro v hv; simp [vlC] at hv; rcases hv with rfl | rfl | rfl <;> rfl
                  refine Lib.hid ?_
                  have Y5 : Hid (Blk (w3.setCells (N + 1) 4 (vlC x)) (N + 1) 32 (zonC nk a x)) := Blk.storesN (vlC x) (zonC nk a b) 4 w3 Y3.out
                  have Z5 := Lib.hid (Z3.out.apartN (g := N + 1) (by omega) (vlC x) 4)
                  have B5 := Lib.hid (Below.storesN (g := N + 1) (by omega) (vlC x) 4 _ B3.out)
                  clear x0 x1 x2
                  generalize w3.setCells (N + 1) 4 (vlC x) = w5 at Y5 Z5 B5 ⊢
                  obtain ⟨x0, x1, x2⟩ := HVX.out w5 B5.out
                  go_wp2_with fail
                  go_roundw
                  case rel => exact ⟨k + 1, false, HK.out, by go_num, rfl, HFB1.out, HG.out, Z5.out, by rw [HMN.out.1, HMN.out.2, HNK.out, HEA.out, HEB.out]; exact Y5.out, B5.out⟩
                  case measure => have := HK.out; simp [intOf]; omega
                · have HEB : Hid (maxS b x = b) := by show _ = _; rw [HDB.out, if_neg hcb]
                  clear HDB
                  go_wp2_with fail
                  go_roundw
                  case rel => exact ⟨k + 1, false, HK.out, by go_num, rfl, HFB1.out, HG.out, Z3.out, by rw [HMN.out.1, HMN.out.2, HNK.out, HEA.out, HEB.out]; exact Y3.out, B3.out⟩
                  case measure => have := HK.out; simp [intOf]; omega
      · obtain rfl : k = n := by omega
        have hz1 : zonR l = true := zonR_iff.2 ⟨by rw [HLN.out]; exact hle, fun v hv => by obtain ⟨i, hi, rfl⟩ := List.mem_iff_getElem.1 hv; exact HALL.out i hi (by rw [← HLN.out]; exact hi)⟩
        have hzt := zonT_yes hz1
        have htk : l.take k = l := List.take_of_length_le (by rw [HLN.out]; omega)
        have hby := HBY.out
        unfold mnK mxK at hby
        rw [htk] at hby
        have HZT := Lib.hid hzt
        generalize minZ (othL l) = a at *
        generalize maxZ (othL l) = b at *
        have a0 : wr.cell? ⟨N + 1, 0, none⟩ = some (.int .i64 (nulN l : Int)) := (hby.at_ 0).trans rfl
        have a1 : wr.cell? ⟨N + 1, 1, none⟩ = some (.int .i64 a.kind) := (hby.at_ 1).trans rfl
        have a2 : wr.cell? ⟨N + 1, 2, none⟩ = some (.int .i64 a.num) := (hby.at_ 2).trans rfl
        have a3 : wr.cell? ⟨N + 1, 3, none⟩ = some (.string a.text) := (hby.at_ 3).trans rfl
        have b0 : wr.cell? ⟨N + 1, 4, none⟩ = some (.int .i64 b.kind) := (hby.at_ 4).trans rfl
        have b1 : wr.cell? ⟨N + 1, 5, none⟩ = some (.int .i64 b.num) := (hby.at_ 5).trans rfl
        have b2 : wr.cell? ⟨N + 1, 6, none⟩ = some (.string b.text) := (hby.at_ 6).trans rfl
        clear hby hz1 hzt htk
        go_wp2_with (with_reducible refine st_midN rfl 32 (.tmp 2) (.tmp 72) rfl 7 ?i1 N 0 32 (zonC 0 nulV nulV) (zonC (nulN l) a b) ?i2 ?i3 ?i4 ?i5 ?i6 ?i7 (Hid.out ?i8))
        case i1 => kernel_rfl
        case i2 => rfl
        case i3 => rfl
        case i4 => exact HBZ.out
        case i5 => rfl
        case i6 => show 0 + 7 ≤ 7; omega
        case i7 => intro v hv; simp [zonC] at hv; rcases hv with rfl | rfl | rfl | rfl | rfl | rfl | rfl <;> rfl
        refine Lib.hid ?_
        have HZ9 : Hid (Blk (wr.setCells N 0 (zonC (nulN l) a b)) N 32 (zonC (nulN l) a b)) := Blk.storesN (zonC (nulN l) a b) (zonC 0 nulV nulV) 0 wr HBZ.out
        have HB9 := Lib.hid (Below.storesN (g := N) (Nat.le_refl _) (zonC (nulN l) a b) 0 _ HBEL.out)
        clear a0 a1 a2 a3 b0 b1 b2
        generalize wr.setCells N 0 (zonC (nulN l) a b) = w9 at HZ9 HB9 ⊢
        go_wp2
        exact bodyPost_ret (rzone_res HZ9.out _ rfl rfl) rfl ⟨by rw [HZT.out], by rw [HNN.out]; exact HB9.out⟩
end Go.Proofs.YtfgmdaemcaamiaaDoor
