/- dict.read. -/
import Derived.Test.YtjmkipbolldhgaaDoorDcE
namespace Go.Proofs.YtjmkipbolldhgaaDoor
open Go.RowKit
set_option linter.unusedVariables false

/-- The lists of n texts whose encoding is b. -/
def EncofT (f n : Nat) (b : List UInt8) (L : List Tx) : Prop := rightT L ∧ L.length = n ∧ encT f L = b
/-- What reading hands back. -/
def RdQ (W0 : World) (P : List Tx → Prop) (n : Nat) (e : Ending) (W' : World) : Prop := ∃ A c l er, e = .returned (.tuple #[.slice A l.length c, .int .i64 er]) ∧ Strs W' A l ∧ l.length ≤ c ∧ (∀ x ∈ l, x.length ≤ 1024) ∧ Below W0.heap.size W0 W' ∧ (er = 0 → l.length = n) ∧ ∀ L, P L → er = 0 ∧ l = L
theorem RdQ.nul {W0 W : World} {P : List Tx → Prop} {n : Nat} {er : Int} (he : ¬ er = 0) (hb : Below W0.heap.size W0 W) (h : ∀ L, P L → False) : RdQ W0 P n (.returned (.tuple #[.slice none 0 0, .int .i64 er])) W :=
  ⟨none, 0, [], er, rfl, fun k hk => absurd hk (by simp), Nat.le_refl _, fun y hy => absurd hy (by simp), hb, fun h' => (he h').elim, fun L hL => (h L hL).elim⟩
theorem tn7_none (a : Option Addr) (cap nb : Nat) (at_ : Int) (l : List UInt8) (w : World) (hnb : l.length = nb) (hb : Byt w a l) (hc : nb ≤ cap) (hm : cap ≤ 9223372036854775807) (hL : nb ≤ 140737488355328) (h : takeO l at_ = none) :
    Calls Tryd.prog 45 #[.slice a nb cap, .int .i64 at_] w fun e w' => e = .returned (.tuple #[.int .u64 0, .int .i64 0, .int .i64 20]) ∧ w = w' := by
  subst hnb
  refine (take_anyW a cap at_ l w hb hc hm (by omega)).mono ?_
  rintro e w' ⟨rfl, rfl⟩
  obtain ⟨h1, h2, h3⟩ := t_none h
  rw [h1, h2, h3]
  exact ⟨rfl, rfl⟩
theorem tn7_some (a : Option Addr) (cap nb : Nat) (at_ : Int) (l : List UInt8) (w : World) (hnb : l.length = nb) (hb : Byt w a l) (hc : nb ≤ cap) (hm : cap ≤ 9223372036854775807) (hL : nb ≤ 140737488355328) {z c : Nat} (h : takeO l at_ = some (z, c)) :
    Calls Tryd.prog 45 #[.slice a nb cap, .int .i64 at_] w fun e w' => e = .returned (.tuple #[.int .u64 (z : Int), .int .i64 (at_ + c), .int .i64 0]) ∧ w = w' := by
  subst hnb
  refine (take_anyW a cap at_ l w hb hc hm (by omega)).mono ?_
  rintro e w' ⟨rfl, rfl⟩
  obtain ⟨h1, h2, h3⟩ := t_some h
  rw [h1, h2, h3]
  exact ⟨rfl, rfl⟩
theorem Byt.rest7 {w : World} {b o : Nat} {l : List UInt8} (h : Byt w (some ⟨b, o, none⟩) l) (i : Nat) : Byt w (some ⟨b, o + i, none⟩) (l.drop i) := by
  have := Byt.part h i (l.length - i)
  rwa [List.take_of_length_le (by rw [List.length_drop]; exact Nat.le_refl _)] at this
/-- Form 1, read back. -/
theorem enc1_parts {n : Nat} {b : List UInt8} {L : List Tx} (h : EncofT 1 n b L) : takeO b 1 = some ((riseL L).length, (num (riseL L).length).length) ∧ (riseL L).length ≤ n ∧ LiesT (b.take (1 + (num (riseL L).length).length)) b (riseL L) ∧
    ∀ p : Nat, p = (b.take (1 + (num (riseL L).length).length) ++ (riseL L).flatMap txt).length → ∃ h : p < b.length, unE (n : Int) ((b[p]).toNat : Int) (b.drop (p + 1)) = 0 ∧ unV (n : Int) ((b[p]).toNat : Int) (b.drop (p + 1)) = L.map (plW (riseL L)) := by
  obtain ⟨hr, hl, he⟩ := h
  obtain ⟨R, hR⟩ : ∃ R, riseL L = R := ⟨_, rfl⟩
  obtain ⟨D, hD⟩ : ∃ D, L.map (plW R) = D := ⟨_, rfl⟩
  have hRn : R.length ≤ n := by rw [← hR, ← hl]; exact rise_len L
  have hDn : D.length = n := by rw [← hD, List.length_map]; exact hl
  have hn96 : n ≤ 4096 := by rw [← hl]; exact hr.1
  have e0 : b = [1] ++ (num R.length ++ (R.flatMap txt ++ packD D)) := by
    rw [← he, ← hD, ← hR]
    show UInt8.ofNat 1 :: (num (riseL L).length ++ (riseL L).flatMap txt ++ packD (L.map (plW (riseL L)))) = _
    simp
  rw [hR, hD]
  have htk : b.take (1 + (num R.length).length) = [1] ++ num R.length := by
    rw [e0, ← List.append_assoc]
    have : 1 + (num R.length).length = ([1] ++ num R.length).length := by simp; omega
    rw [this, List.take_left]
  refine ⟨?_, hRn, ?_, ?_⟩
  · rw [e0]
    exact takeO_at [1] _ R.length (by omega)
  · refine ⟨packD D, ?_⟩
    rw [htk, e0]
    simp
  · intro p hp
    rw [htk] at hp
    have hb2 : b = ([1] ++ num R.length ++ R.flatMap txt) ++ (UInt8.ofNat (widL D) :: pkB (widL D : Int) D) := by rw [e0]; simp [packD]
    have hlt : p < b.length := by rw [hb2, List.length_append, hp, List.length_cons]; omega
    refine ⟨hlt, ?_⟩
    have hg : b[p]'hlt = UInt8.ofNat (widL D) := by
      have : b[p]? = some (UInt8.ofNat (widL D)) := by rw [hb2, hp, List.getElem?_append_right (Nat.le_refl _)]; simp
      rw [List.getElem?_eq_getElem hlt] at this
      exact Option.some.inj this
    have hd : b.drop (p + 1) = pkB (widL D : Int) D := by
      rw [hb2, hp, ← List.drop_drop, List.drop_left]
      rfl
    have hw : ((UInt8.ofNat (widL D)).toNat : Int) = (widL D : Int) := by have := widL_le D; rw [UInt8.toNat_ofNat']; omega
    rw [hg, hd, hw, ← hDn]
    exact back1 (packE_self (by omega))
theorem back_texts {L R : List Tx} (hR : R = riseL L) (hn : L.length ≤ 4096) : (L.map (plW R)).map (fun s => R.getD s.toNat []) = L := by
  rw [List.map_map]
  conv => rhs; rw [← List.map_id L]
  refine List.map_congr_left fun x hx => ?_
  obtain ⟨h, e⟩ := plc_of (R := R) (by rw [hR]; exact rise_rise L) (x := x) (by rw [hR]; exact (rise_mem L x).2 hx)
  show R.getD (plW R x).toNat [] = x
  unfold plW
  have hl : R.length ≤ L.length := by rw [hR]; exact rise_len L
  rw [BitVec.toNat_ofNat, Nat.mod_eq_of_lt (by omega)]
  rw [List.getD_eq_getElem?_getD, List.getElem?_eq_getElem h, e]
  rfl

set_option maxRecDepth 100000 in
set_option maxHeartbeats 8000000 in
theorem tread1_any (A : Option Addr) (cap n : Nat) (b : List UInt8) (W : World) (hb : Byt W A b) (hA : A = none → cap = 0) (hc : b.length ≤ cap) (hm : cap ≤ 9223372036854775807) (hL : b.length ≤ 140737488355328) (hn : n ≤ 4096) (h0 : 0 < b.length) (hf : b[0] = 1) (hT : TabAt W) :
    Calls Tryd.prog 28 #[.slice A b.length cap, .int .i64 (n : Int)] W (RdQ W (EncofT 1 n b) n) := by
  obtain ⟨bx, ox, rfl, hca⟩ := hb 0 h0
  rw [hf] at hca
  have hca0 : W.cell? ⟨bx, ox, none⟩ = some (.int .u8 1) := hca
  have HREF : Hid (Below W.heap.size W W) := Below.refl _ _
  have hzi : ((b.length : Int) == 0) = false := by rw [beq_eq_false_iff_ne]; omega
  have hgu : IntKind.u64.wrap (n : Int) = (n : Int) := by rw [IntKind.wrap_u64]; omega
  have hparts := fun L (h : EncofT 1 n b L) => enc1_parts h
  cases hto : takeO b 1 with
  | none =>
    have HQ := Lib.hid (tn7_none (some ⟨bx, ox, none⟩) cap b.length 1 b W rfl hb hc hm hL hto)
    have HNO : Hid (∀ L, EncofT 1 n b L → False) := fun L h => by
      have := (hparts L h).1
      rw [hto] at this
      cases this
    clear hb hca hparts hto hT hf hA
    generalize b.length = nb at *
    go_enter Tryd.func28, Tryd.ntmps28
    go_wp2_with (go_at_call 45; refine HQ.out.mono ?_; rintro e w1 ⟨rfl, rfl⟩)
    go_ret2
    exact RdQ.nul (by decide) HREF.out HNO.out
  | some mc =>
    obtain ⟨many, c⟩ := mc
    have HQ := Lib.hid (tn7_some (some ⟨bx, ox, none⟩) cap b.length 1 b W rfl hb hc hm hL hto)
    have hend := takeO_end7 hto
    by_cases hmn : n < many
    · have HNO : Hid (∀ L, EncofT 1 n b L → False) := fun L h => by
        obtain ⟨h1, h2, _⟩ := hparts L h
        rw [hto] at h1
        simp only [Option.some.injEq, Prod.mk.injEq] at h1
        omega
      have hmi : (n : Int) < (many : Int) := by omega
      clear hb hca hparts hto hT hf hA
      generalize b.length = nb at *
      go_enter Tryd.func28, Tryd.ntmps28
      go_wp2_with (go_at_call 45; refine HQ.out.mono ?_; rintro e w1 ⟨rfl, rfl⟩)
      go_ret2
      exact RdQ.nul (by decide) HREF.out HNO.out
    · have hmi : ¬ (n : Int) < (many : Int) := by omega
      have hcvm : IntKind.i64.wrap (many : Int) = (many : Int) := by rw [IntKind.wrap_i64]; omega
      have hpl : (b.take (1 + c)).length = 1 + c := by rw [List.length_take]; omega
      have HTK := Lib.hid (taketexts_any (some ⟨bx, ox, none⟩) cap many b.length (b.take (1 + c)) b (1 + (c : Int)) W rfl (by rw [hpl]; omega) hb hA hc hm hL (by omega) (by omega))
      unfold TkT at HTK
      have HPAR : Hid (∀ L, EncofT 1 n b L → many = (riseL L).length ∧ LiesT (b.take (1 + c)) b (riseL L) ∧ ∀ p : Nat, p = (b.take (1 + c) ++ (riseL L).flatMap txt).length → ∃ h : p < b.length, unE (n : Int) ((b[p]).toNat : Int) (b.drop (p + 1)) = 0 ∧ unV (n : Int) ((b[p]).toNat : Int) (b.drop (p + 1)) = L.map (plW (riseL L))) := fun L h => by
        obtain ⟨h1, h2, h3, h4⟩ := hparts L h
        rw [hto] at h1
        simp only [Option.some.injEq, Prod.mk.injEq] at h1
        obtain ⟨e1, e2⟩ := h1
        rw [← e2] at h3 h4
        exact ⟨e1, h3, h4⟩
      have HR1 : Hid (∀ L, EncofT 1 n b L → rightT (riseL L) ∧ L.length ≤ 4096) := fun L h => ⟨rise_right h.1, h.1.1⟩
      obtain ⟨nb, hnb⟩ : ∃ nb, b.length = nb := ⟨_, rfl⟩
      have HNB := Lib.hid hnb
      have HB := Lib.hid hb
      have HT := Lib.hid hT
      rw [hnb] at HTK HQ hc h0 hzi ⊢
      clear hb hca hparts hto hT hf hA hpl hnb
      go_enter Tryd.func28, Tryd.ntmps28
      go_upto_region 10 with (first | (go_at_call 45; refine HQ.out.mono ?_; rintro e w1 ⟨rfl, rfl⟩) | (go_at_call 44; refine HTK.out.mono ?_; rintro e w2 ⟨A5, c5, d, at_, er1, rfl, hsd, hdc, hd64, hb2, hok, hcomp⟩; obtain ⟨dl, hdl⟩ : ∃ dl, d.length = dl := ⟨_, rfl⟩; have HDL := Lib.hid hdl; rw [hdl] at hdc ⊢; have HWD := Lib.hid hsd; have HDC := Lib.hid hdc; have HD64 := Lib.hid hd64; have E2 := Lib.hid hb2; have HOK := Lib.hid hok; have HCOMP := Lib.hid hcomp; clear hsd hdc hd64 hb2 hok hcomp hdl))
      have HLC : Hid (∀ L, EncofT 1 n b L → er1 = 0 ∧ d = riseL L ∧ at_ = ((b.take (1 + c) ++ (riseL L).flatMap txt).length : Int)) := fun L h => HCOMP.out (riseL L) (HR1.out L h).1.2 (HPAR.out L h).1.symm (HPAR.out L h).2.1
      by_cases her1 : er1 = 0
      · obtain ⟨hdm, hp0, hpb⟩ := HOK.out her1
        obtain ⟨p, rfl⟩ : ∃ p : Nat, at_ = (p : Int) := ⟨at_.toNat, by omega⟩
        by_cases hlt : p < nb
        · subst her1
          have hpl : p < b.length := by rw [HNB.out]; exact hlt
          obtain ⟨bx', ox', e', hcp⟩ := HB.out p hpl
          injection e' with e'
          injection e' with e1 e2
          subst e1 e2
          obtain ⟨w, hw⟩ : ∃ w, b[p] = w := ⟨_, rfl⟩
          rw [hw] at hcp
          have hlr : (b.drop (p + 1)).length = nb - (p + 1) := by rw [List.length_drop, HNB.out]
          have hbr := HB.out.rest7 (p + 1)
          have hwp : IntKind.i64.wrap ((p : Int) + 1) = (p : Int) + 1 := by rw [IntKind.wrap_i64]; have := HNB.out; omega
          have hw256 := w.toNat_lt
          have hcv : IntKind.i64.wrap (w.toNat : Int) = (w.toNat : Int) := by rw [IntKind.wrap_i64]; omega
          have HCP := Lib.hid hcp
          have HUN : Hid (∀ A' c' (W' : World), Below W.heap.size W W' → Byt W A' (b.drop (p + 1)) → Calls Tryd.prog 46 #[.slice A' (nb - (p + 1)) c', .int .i64 (n : Int), .int .i64 (w.toNat : Int)] W' (UnpR W' (unV (n : Int) (w.toNat : Int) (b.drop (p + 1))) (unE (n : Int) (w.toNat : Int) (b.drop (p + 1))))) := fun A' c' W' hW h => by
            have := (un_all (n : Int) (w.toNat : Int) A' c' (b.drop (p + 1)) W' (h.keep hW) (HT.out.keep hW)).1
            rwa [hlr] at this
          have hAR : ∃ AR, (if cap = p + 1 then (some ⟨bx, ox, none⟩ : Option Addr) else some ⟨bx, ox + (p + 1), none⟩) = AR ∧ Byt W AR (b.drop (p + 1)) := by
            by_cases hcap : cap = p + 1
            · refine ⟨_, if_pos hcap, ?_⟩
              rw [List.drop_of_length_le (by rw [HNB.out]; omega)]
              exact Byt.empty _ _
            · exact ⟨_, if_neg hcap, hbr⟩
          obtain ⟨AR, hAR, hyr⟩ := hAR
          obtain ⟨V, hV⟩ : ∃ V, unV (n : Int) (w.toNat : Int) (b.drop (p + 1)) = V := ⟨_, rfl⟩
          obtain ⟨er, hE⟩ : ∃ er, unE (n : Int) (w.toNat : Int) (b.drop (p + 1)) = er := ⟨_, rfl⟩
          obtain ⟨ln, hln⟩ : ∃ ln, V.length = ln := ⟨_, rfl⟩
          have HYR := Lib.hid hyr
          rw [hV, hE] at HUN
          have HGOOD : Hid (∀ L, EncofT 1 n b L → er = 0 ∧ V = L.map (plW (riseL L)) ∧ d = riseL L) := fun L h => by
            obtain ⟨_, h2, h3⟩ := HLC.out L h
            obtain ⟨_, h5, h6⟩ := (HPAR.out L h).2.2 p (by omega)
            rw [hw, hE] at h5
            rw [hw, hV] at h6
            exact ⟨h5, h6, h2⟩
          have hVn : er = 0 → V.length = n := fun h => by
            have := (back2 (by rw [hE]; exact h)).1
            rw [hV] at this
            omega
          have hps1 : (0 : Int) ≤ (p : Int) + 1 := by omega
          have hps2 : (p : Int) + 1 ≤ (nb : Int) := by omega
          have hli : (p : Int) < (nb : Int) := by omega
          have HLN := Lib.hid hln
          have hdlm : dl = many := by rw [← HDL.out]; exact hdm
          clear hcp hlr hw hbr hyr hV hE hln hpl hlt hdm hp0 hpb HTK HQ
          go_wp2
          refine wpS_start (fun W' => Below W.heap.size W W') 16 (by kernel_rfl) rfl (fun RG HR => ?_)
          refine wpS_take HR (i := 0) (v := .slice (some ⟨bx, ox, none⟩) nb cap) rfl (by decide +kernel) (by decide +kernel) (by decide +kernel) (fun _ _ _ h => h) (by rfl) (E2.out.drew) (fun W' hW => by go_simp) ?_
          go_simp
          refine wpS_take HR (i := 1) (v := .int .i64 (p : Int)) rfl (by decide +kernel) (by decide +kernel) (by decide +kernel) (fun _ _ _ h => h) (by rfl) (E2.out.drew) (fun W' hW => by go_simp) ?_
          go_simp
          refine wpS_take HR (i := 2) (v := .int .i64 ((p : Int) + 1)) rfl (by decide +kernel) (by decide +kernel) (by decide +kernel) (fun _ _ _ h => h) (by rfl) (E2.out.drew) (fun W' hW => by go_simp) ?_
          go_simp
          refine wpS_take HR (i := 3) (v := .slice AR (nb - (p + 1)) (cap - (p + 1))) rfl (by decide +kernel) (by decide +kernel) (by decide +kernel) (fun _ _ _ h => h) (by rfl) (E2.out.drew) (fun W' hW => by go_simp) ?_
          go_simp
          refine wpS_take HR (i := 4) (v := .int .i64 (n : Int)) rfl (by decide +kernel) (by decide +kernel) (by decide +kernel) (fun _ _ _ h => h) (by rfl) (E2.out.drew) (fun W' hW => by go_simp) ?_
          go_simp
          refine wpS_take HR (i := 5) (v := .slice (some ⟨bx, ox, none⟩) nb cap) rfl (by decide +kernel) (by decide +kernel) (by decide +kernel) (fun _ _ _ h => h) (by rfl) (E2.out.drew) (fun W' hW => by go_simp) ?_
          go_simp
          refine wpS_take HR (i := 6) (v := .int .i64 (p : Int)) rfl (by decide +kernel) (by decide +kernel) (by decide +kernel) (fun _ _ _ h => h) (by rfl) (E2.out.drew) (fun W' hW => by go_simp) ?_
          go_simp
          refine wpS_take HR (i := 7) (v := .pointer (some ⟨bx, ox + p, none⟩)) rfl (by decide +kernel) (by decide +kernel) (by decide +kernel) (fun _ _ _ h => h) (by rfl) (E2.out.drew) (fun W' hW => by go_simp) ?_
          go_simp
          refine wpS_take HR (i := 8) (v := .int .u8 (w.toNat : Int)) rfl (by decide +kernel) (by decide +kernel) (by decide +kernel) (fun _ _ _ h => h) (by rfl) (E2.out.drew) (fun W' hW => by have hc := cell_lo hW HCP.out; go_simp) ?_
          go_simp
          refine wpS_take HR (i := 9) (v := .int .i64 (w.toNat : Int)) rfl (by decide +kernel) (by decide +kernel) (by decide +kernel) (fun _ _ _ h => h) (by rfl) (E2.out.drew) (fun W' hW => by go_simp) ?_
          go_simp
          refine wpS_step1 HR (i := 10) (by decide +kernel) ?_
          refine stepS_call HR rfl (by rfl) (by go_simp; exact ⟨rfl, rfl⟩) ?_
          refine (HUN.out _ _ _ E2.out.drew HYR.out).mono ?_
          rintro e w3 ⟨A8, c8, rfl, hnum, hb3⟩
          rw [HLN.out]
          have HNUM := Lib.hid hnum
          have E3 := Lib.hid (E2.out.drew.trans (hb3.mono E2.out.drew.size) : Below W.heap.size W w3)
          have HWD3 := Lib.hid (HWD.out.keep (w := w2.drew) hb3)
          clear hnum hb3
          refine ⟨_, rfl, E3.out, ?_⟩
          go_simp
          refine wpS_take HR (i := 11) (v := .tuple #[.slice A8 ln c8, .int .i64 er]) rfl (by decide +kernel) (by decide +kernel) (by decide +kernel) (fun _ _ _ h => h) (by rfl) (E3.out) (fun W' hW => by go_simp) ?_
          go_simp
          refine wpS_take HR (i := 12) (v := .slice A8 ln c8) rfl (by decide +kernel) (by decide +kernel) (by decide +kernel) (fun _ _ _ h => h) (by rfl) (E3.out) (fun W' hW => by go_simp) ?_
          go_simp
          refine wpS_take HR (i := 13) (v := .int .i64 er) rfl (by decide +kernel) (by decide +kernel) (by decide +kernel) (fun _ _ _ h => h) (by rfl) (E3.out) (fun W' hW => by go_simp) ?_
          go_simp
          refine wpS_take HR (i := 14) (v := .slice A8 ln c8) rfl (by decide +kernel) (by decide +kernel) (by decide +kernel) (fun _ _ _ h => h) (by rfl) (E3.out) (fun W' hW => by go_simp) ?_
          go_simp
          refine wpS_take HR (i := 15) (v := .int .i64 er) rfl (by decide +kernel) (by decide +kernel) (by decide +kernel) (fun _ _ _ h => h) (by rfl) (E3.out) (fun W' hW => by go_simp) ?_
          go_simp
          refine wpS_done HR (by decide +kernel) ?_
          by_cases her : er = 0
          · subst her
            have hlk : ln = n := by rw [← HLN.out]; exact hVn rfl
            rw [hlk] at HLN ⊢
            clear hlk hVn
            obtain ⟨N, hN⟩ : ∃ N, w3.heap.size = N := ⟨_, rfl⟩
            obtain ⟨W4, hW4⟩ : ∃ x, x = w3.alloc (.cells (zS n) 9) := ⟨_, rfl⟩
            obtain ⟨TT, hTT⟩ : ∃ TT : Nat → List Tx, TT = fun k => (V.take k).map (fun s => d.getD s.toNat []) := ⟨_, rfl⟩
            have HTT := Lib.hid hTT
            have HBK : Hid (Blk W4 N 9 ((TT 0 ++ List.replicate (n - 0) ([] : Tx)).map encStr)) := by rw [hW4, hTT, ← hN]; exact Blk.born w3 _ _
            have HE4 : Hid (Below N w3 W4) := by rw [hW4, ← hN]; exact (Below.refl _ _).alloc (Nat.le_refl _) _
            have HW4 := Lib.hid hW4
            have HNN := Lib.hid hN
            have HTL : Hid (∀ k, k ≤ n → (TT k).length = k) := fun k hk => by rw [hTT]; simp only [List.length_map, List.length_take]; have := HLN.out; omega
            clear hN hW4 hTT HUN HCP HYR
            go_wp2_with (refine mk_strn rfl _ _ rfl n rfl rfl (by omega) ?_)
            rw [← HW4.out, HNN.out]
            go_loopw [91] (fun i wr => ∃ k : Nat, k ≤ n ∧ i = .int .i64 k ∧ Blk wr N 9 ((TT k ++ List.replicate (n - k) ([] : Tx)).map encStr) ∧ Below N w3 wr) (fun i _ => n - (intOf i).toNat)
            case atStart => exact ⟨0, by omega, rfl, HBK.out, HE4.out⟩
            case round =>
              obtain ⟨k, hk, rfl, hblk, hbel⟩ := hrel
              have HBEL := Lib.hid hbel
              have hwq : Below w3.heap.size w3 wr := by rw [HNN.out]; exact hbel
              have HWQ := Lib.hid hwq
              have E5 : Hid (Below W.heap.size W wr) := E3.out.trans (hwq.mono E3.out.size)
              by_cases hlt : k < n
              · have hk1 : k < V.length := by rw [HLN.out]; exact hlt
                obtain ⟨bs, os, rfl, hcs⟩ := (HNUM.out.keep hwq) k hk1
                have hst : TT (k + 1) = TT k ++ [d.getD (V[k]).toNat []] := by
                  rw [HTT.out]
                  simp only [List.take_succ_eq_append_getElem hk1, List.map_append, List.map_cons, List.map_nil]
                have hgd : ∀ L, EncofT 1 n b L → (V[k]).toNat < many := fun L h => by
                  obtain ⟨_, h2, h3⟩ := HGOOD.out L h
                  have hkL : k < L.length := by rw [h.2.1]; exact hlt
                  have e : V[k] = plW (riseL L) L[k] := by simp only [h2, List.getElem_map]
                  obtain ⟨h4, _⟩ := plc_of (R := riseL L) (rise_rise L) (x := L[k]) ((rise_mem L _).2 (List.getElem_mem hkL))
                  have h5 := HDL.out
                  rw [h3] at h5
                  rw [e]
                  unfold plW
                  rw [BitVec.toNat_ofNat]
                  have := Nat.mod_le (plc (riseL L) L[k]) (2 ^ 64)
                  omega
                have hv64 := (V[k]).isLt
                generalize V[k] = sv at hcs hst hgd hv64
                obtain ⟨v, hv⟩ : ∃ v, sv.toNat = v := ⟨_, rfl⟩
                rw [hv] at hcs hst hgd hv64
                by_cases hvm : v < many
                · have hvd : v < d.length := by rw [HDL.out, hdlm]; exact hvm
                  obtain ⟨bd, od, hA5, hcd⟩ := (HWD3.out.keep hwq) v hvd
                  have hgv : d.getD v [] = d[v] := by rw [List.getD_eq_getElem?_getD, List.getElem?_eq_getElem hvd]; rfl
                  rw [hgv] at hst
                  have hkl : k < ((TT k ++ List.replicate (n - k) ([] : Tx)).map encStr).length := by rw [List.length_map, List.length_append, List.length_replicate, HTL.out k hk]; omega
                  have hcell := hblk.at_ k
                  rw [List.getElem?_eq_getElem hkl] at hcell
                  have hfr := hblk.free k
                  have hput := strs_put (TT k) k n d[v] (HTL.out k hk).symm hlt
                  rw [← hst] at hput
                  have hnew : Blk (wr.setCell ⟨N, k, none⟩ (.string (str d[v]))) N 9 ((TT (k + 1) ++ List.replicate (n - (k + 1)) ([] : Tx)).map encStr) := by rw [← hput]; exact hblk.store k _
                  have HNEW := Lib.hid hnew
                  generalize ((TT k ++ List.replicate (n - k) ([] : Tx)).map encStr)[k] = old at hcell
                  obtain ⟨sx, hsx⟩ : ∃ sx, str d[v] = sx := ⟨_, rfl⟩
                  rw [hsx] at hcd HNEW
                  have hvi : ¬ (many : Int) ≤ (v : Int) := by omega
                  have hvi2 : (v : Int) < (many : Int) := by omega
                  have HK : Hid (k < n) := hlt
                  clear hblk hbel hwq hk1 hst hgd hv64 hv hvd hgv hkl hput hnew hsx
                  subst hA5
                  go_wp2
                  go_roundw
                  case rel => exact ⟨k + 1, HK.out, by go_num, HNEW.out, HBEL.out.setCell (by simp) _⟩
                  case measure => simp [intOf]; have := HK.out; omega
                · have hvi : (many : Int) ≤ (v : Int) := by omega
                  have HNO : Hid (∀ L, EncofT 1 n b L → False) := fun L h => hvm (hgd L h)
                  clear hblk hbel hwq hk1 hst hgd hv64 hv
                  go_wp2
                  go_ret2
                  exact RdQ.nul (by decide) E5.out HNO.out
              · obtain rfl : k = n := by omega
                have HI : Hid (Strs wr (some ⟨N, 0, none⟩) (TT k)) := by
                  have hb2 := hblk
                  rw [Nat.sub_self, List.replicate_zero, List.append_nil] at hb2
                  exact strs_bk hb2
                have HTV : Hid (TT k = V.map (fun s => d.getD s.toNat [])) := by
                  show _ = _
                  rw [HTT.out]
                  simp only
                  rw [List.take_of_length_le (by rw [HLN.out]; exact Nat.le_refl _)]
                clear hblk hbel hwq
                go_wp2
                go_ret2
                refine ⟨some ⟨N, 0, none⟩, k, TT k, 0, by rw [HTL.out k (Nat.le_refl _)]; rfl, HI.out, by rw [HTL.out k (Nat.le_refl _)]; exact Nat.le_refl _, fun x hx => ?_, E5.out, fun _ => HTL.out k (Nat.le_refl _), fun L h => ⟨rfl, ?_⟩⟩
                · rw [HTV.out] at hx
                  obtain ⟨s, _, rfl⟩ := List.mem_map.1 hx
                  rw [List.getD_eq_getElem?_getD]
                  cases hg : d[s.toNat]? with
                  | none => simp
                  | some y => exact HD64.out y (List.mem_of_getElem? hg)
                · obtain ⟨_, h2, h3⟩ := HGOOD.out L h
                  rw [HTV.out, h2, h3]
                  exact back_texts rfl h.1.1
          · have hei : (er == 0) = false := by rw [beq_eq_false_iff_ne]; exact her
            have hei2 : (er != 0) = true := by simp [her]
            have HER : Hid (¬ er = 0) := her
            clear hVn
            go_wp2
            go_ret2
            exact RdQ.nul HER.out E3.out fun L h => HER.out (HGOOD.out L h).1
        · have hge : (nb : Int) ≤ (p : Int) := by omega
          have HNO : Hid (∀ L, EncofT 1 n b L → False) := fun L h => by
            obtain ⟨_, _, h3⟩ := HLC.out L h
            obtain ⟨h4, _⟩ := (HPAR.out L h).2.2 p (by omega)
            have := HNB.out
            omega
          have hei : (er1 != 0) = false := by simp [her1]
          go_wp2
          go_ret2
          exact RdQ.nul (by decide) E2.out HNO.out
      · have hei : (er1 == 0) = false := by rw [beq_eq_false_iff_ne]; exact her1
        have hei2 : (er1 != 0) = true := by simp [her1]
        have HER : Hid (¬ er1 = 0) := her1
        go_wp2
        go_ret2
        exact RdQ.nul (by decide) E2.out fun L h => HER.out (HLC.out L h).1
end Go.Proofs.YtjmkipbolldhgaaDoor
