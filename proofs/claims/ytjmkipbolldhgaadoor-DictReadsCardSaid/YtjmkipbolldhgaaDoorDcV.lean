/- The document's placed. -/
import Derived.Test.YtjmkipbolldhgaaDoorDcU
namespace Go.Proofs.YtjmkipbolldhgaaDoor
open Go.RowKit
set_option linter.unusedVariables false

/-- What placed hands back. -/
def PlQ (W0 : World) (P : List Tx → Prop) (n : Nat) (e : Ending) (W' : World) : Prop := ∃ A c l, e = .returned (.slice A l.length c) ∧ Strs W' A l ∧ l.length ≤ c ∧ (∀ x ∈ l, x.length ≤ 1024) ∧ Below W0.heap.size W0 W' ∧ (l.length = n ∨ l = []) ∧ ∀ L, P L → l = L
theorem PlQ.nul {W0 W : World} {P : List Tx → Prop} {n : Nat} (hb : Below W0.heap.size W0 W) (h : ∀ L, P L → False) : PlQ W0 P n (.returned (.slice none 0 0)) W :=
  ⟨none, 0, [], rfl, fun k hk => absurd hk (by simp), Nat.le_refl _, fun y hy => absurd hy (by simp), hb, .inr rfl, fun L hL => (h L hL).elim⟩
theorem rtn_none (a : Option Addr) (cap nb : Nat) (at_ : Int) (l : List UInt8) (w : World) (hnb : l.length = nb) (hb : Byt w a l) (hc : nb ≤ cap) (hm : cap ≤ 140737488351232) (h : takeO l at_ = none) (ha : at_ ≤ 9223372036854775807 := by decide) :
    Calls Tryd.prog 48 #[.slice a nb cap, .int .i64 at_] w fun e w' => e = .returned (.tuple #[.int .u64 0, .int .i64 0, .int .i64 20]) ∧ w = w' := by
  subst hnb
  refine (reftake_any a cap at_ l w hb hc hm ha).mono ?_
  rintro e w' ⟨rfl, rfl⟩
  obtain ⟨h1, h2, h3⟩ := t_none h
  rw [h1, h2, h3]
  exact ⟨rfl, rfl⟩
theorem rtn_some (a : Option Addr) (cap nb : Nat) (at_ : Int) (l : List UInt8) (w : World) (hnb : l.length = nb) (hb : Byt w a l) (hc : nb ≤ cap) (hm : cap ≤ 140737488351232) {z c : Nat} (h : takeO l at_ = some (z, c)) (ha : at_ ≤ 9223372036854775807 := by decide) :
    Calls Tryd.prog 48 #[.slice a nb cap, .int .i64 at_] w fun e w' => e = .returned (.tuple #[.int .u64 (z : Int), .int .i64 (at_ + c), .int .i64 0]) ∧ w = w' := by
  subst hnb
  refine (reftake_any a cap at_ l w hb hc hm ha).mono ?_
  rintro e w' ⟨rfl, rfl⟩
  obtain ⟨h1, h2, h3⟩ := t_some h
  rw [h1, h2, h3]
  exact ⟨rfl, rfl⟩

set_option maxRecDepth 100000 in
set_option maxHeartbeats 2000000 in
theorem placed_any (A : Option Addr) (cap n : Nat) (b : List UInt8) (W : World) (hb : Byt W A b) (hA : A = none → cap = 0) (hc : b.length ≤ cap) (hm : cap ≤ 140737488351232) (hn : n ≤ 4096) (h0 : 0 < b.length) (hf : b[0] = 1) (hT : TabAt W) :
    Calls Tryd.prog 31 #[.slice A b.length cap, .int .i64 (n : Int)] W (PlQ W (EncofT 1 n b) n) := by
  obtain ⟨bx, ox, rfl, hca⟩ := hb 0 h0
  rw [hf] at hca
  have hca0 : W.cell? ⟨bx, ox, none⟩ = some (.int .u8 1) := hca
  have HREF : Hid (Below W.heap.size W W) := Below.refl _ _
  have hzi : ((b.length : Int) == 0) = false := by rw [beq_eq_false_iff_ne]; omega
  have hgu : IntKind.u64.wrap (n : Int) = (n : Int) := by rw [IntKind.wrap_u64]; omega
  have hparts := fun L (h : EncofT 1 n b L) => enc1_parts h
  cases hto : takeO b 1 with
  | none =>
    have HQ := Lib.hid (rtn_none (some ⟨bx, ox, none⟩) cap b.length 1 b W rfl hb hc hm hto)
    have HNO : Hid (∀ L, EncofT 1 n b L → False) := fun L h => by
      have := (hparts L h).1
      rw [hto] at this
      cases this
    clear hb hca hparts hto hT hf hA
    generalize b.length = nb at *
    go_enter Tryd.func31, Tryd.ntmps31
    go_wp2_with (go_at_call 48; refine HQ.out.mono ?_; rintro e w1 ⟨rfl, rfl⟩)
    go_ret
    exact PlQ.nul HREF.out HNO.out
  | some mc =>
    obtain ⟨many, c⟩ := mc
    have HQ := Lib.hid (rtn_some (some ⟨bx, ox, none⟩) cap b.length 1 b W rfl hb hc hm hto)
    have hend := takeO_end7 hto
    by_cases hmn : n < many
    · have HNO : Hid (∀ L, EncofT 1 n b L → False) := fun L h => by
        obtain ⟨h1, h2, _⟩ := hparts L h
        rw [hto] at h1
        simp only [Option.some.injEq, Prod.mk.injEq] at h1
        omega
      have hmi : (n : Int) < (many : Int) := by omega
      clear hb hca hparts hto hT hf hA
      generalize b.length = nb at *
      go_enter Tryd.func31, Tryd.ntmps31
      go_wp2_with (go_at_call 48; refine HQ.out.mono ?_; rintro e w1 ⟨rfl, rfl⟩)
      go_ret
      exact PlQ.nul HREF.out HNO.out
    · have hmi : ¬ (n : Int) < (many : Int) := by omega
      have hcvm : IntKind.i64.wrap (many : Int) = (many : Int) := by rw [IntKind.wrap_i64]; omega
      have hpl : (b.take (1 + c)).length = 1 + c := by rw [List.length_take]; omega
      have HTK := Lib.hid (taken_any (some ⟨bx, ox, none⟩) cap many b.length (b.take (1 + c)) b (1 + (c : Int)) W rfl (by rw [hpl]; omega) hb hA hc hm (by omega) (by omega))
      unfold TkU at HTK
      have HPAR : Hid (∀ L, EncofT 1 n b L → many = (riseL L).length ∧ LiesT (b.take (1 + c)) b (riseL L) ∧ ∀ p : Nat, p = (b.take (1 + c) ++ (riseL L).flatMap txt).length → ∃ h : p < b.length, unE (n : Int) ((b[p]).toNat : Int) (b.drop (p + 1)) = 0 ∧ unV (n : Int) ((b[p]).toNat : Int) (b.drop (p + 1)) = L.map (plW (riseL L))) := fun L h => by
        obtain ⟨h1, h2, h3, h4⟩ := hparts L h
        rw [hto] at h1
        simp only [Option.some.injEq, Prod.mk.injEq] at h1
        obtain ⟨e1, e2⟩ := h1
        rw [← e2] at h3 h4
        exact ⟨e1, h3, h4⟩
      have HR1 : Hid (∀ L, EncofT 1 n b L → rightT (riseL L) ∧ L.length ≤ 4096) := fun L h => ⟨rise_right h.1, h.1.1⟩
      obtain ⟨nb, hnb⟩ : ∃ nb, b.length = nb := ⟨_, rfl⟩
      have HNB := Lib.hid hnb
      have HB := Lib.hid hb
      have HT := Lib.hid hT
      rw [hnb] at HTK HQ hc h0 hzi ⊢
      clear hb hca hparts hto hT hf hA hpl hnb
      go_enter Tryd.func31, Tryd.ntmps31
      go_upto_region 5 with (first | (go_at_call 48; refine HQ.out.mono ?_; rintro e w1 ⟨rfl, rfl⟩) | (go_at_call 30; refine HTK.out.mono ?_; rintro e w2 ⟨A5, c5, d, at_, ok1, rfl, hsd, hdc, hd64, hb2, hok, hnk, hcomp⟩; clear hnk; obtain ⟨dl, hdl⟩ : ∃ dl, d.length = dl := ⟨_, rfl⟩; have HDL := Lib.hid hdl; rw [hdl] at hdc ⊢; have HWD := Lib.hid hsd; have HDC := Lib.hid hdc; have HD64 := Lib.hid hd64; have E2 := Lib.hid hb2; have HOK := Lib.hid hok; have HCOMP := Lib.hid hcomp; clear hsd hdc hd64 hb2 hok hcomp hdl))
      have HLC : Hid (∀ L, EncofT 1 n b L → ok1 = true ∧ d = riseL L ∧ at_ = ((b.take (1 + c) ++ (riseL L).flatMap txt).length : Int)) := fun L h => HCOMP.out (riseL L) (HR1.out L h).1.2 (HPAR.out L h).1.symm (HPAR.out L h).2.1
      by_cases her1 : ok1 = true
      · obtain ⟨hdm, hp0, hpb⟩ := HOK.out her1
        obtain ⟨p, rfl⟩ : ∃ p : Nat, at_ = (p : Int) := ⟨at_.toNat, by omega⟩
        by_cases hlt : p < nb
        · subst her1
          have hpl : p < b.length := by rw [HNB.out]; exact hlt
          obtain ⟨bx', ox', e', hcp⟩ := HB.out p hpl
          injection e' with e'
          injection e' with e1 e2
          subst e1 e2
          obtain ⟨w, hw⟩ : ∃ w, b[p] = w := ⟨_, rfl⟩
          rw [hw] at hcp
          have hlr : (b.drop (p + 1)).length = nb - (p + 1) := by rw [List.length_drop, HNB.out]
          have hbr := HB.out.rest7 (p + 1)
          have hwp : IntKind.i64.wrap ((p : Int) + 1) = (p : Int) + 1 := by rw [IntKind.wrap_i64]; have := HNB.out; omega
          have hw256 := w.toNat_lt
          have hcv : IntKind.i64.wrap (w.toNat : Int) = (w.toNat : Int) := by rw [IntKind.wrap_i64]; omega
          have HCP := Lib.hid hcp
          have HUN : Hid (∀ A' c' (W' : World), Below W.heap.size W W' → Byt W A' (b.drop (p + 1)) → Calls Tryd.prog 49 #[.slice A' (nb - (p + 1)) c', .int .i64 (n : Int), .int .i64 (w.toNat : Int)] W' (UnpR W' (unV (n : Int) (w.toNat : Int) (b.drop (p + 1))) (unE (n : Int) (w.toNat : Int) (b.drop (p + 1))))) := fun A' c' W' hW h => by
            have := (un_all (n : Int) (w.toNat : Int) A' c' (b.drop (p + 1)) W' (h.keep hW) (HT.out.keep hW)).2
            rwa [hlr] at this
          have hAR : ∃ AR, (if cap = p + 1 then (some ⟨bx, ox, none⟩ : Option Addr) else some ⟨bx, ox + (p + 1), none⟩) = AR ∧ Byt W AR (b.drop (p + 1)) := by
            by_cases hcap : cap = p + 1
            · refine ⟨_, if_pos hcap, ?_⟩
              rw [List.drop_of_length_le (by rw [HNB.out]; omega)]
              exact Byt.empty _ _
            · exact ⟨_, if_neg hcap, hbr⟩
          obtain ⟨AR, hAR, hyr⟩ := hAR
          obtain ⟨V, hV⟩ : ∃ V, unV (n : Int) (w.toNat : Int) (b.drop (p + 1)) = V := ⟨_, rfl⟩
          obtain ⟨er, hE⟩ : ∃ er, unE (n : Int) (w.toNat : Int) (b.drop (p + 1)) = er := ⟨_, rfl⟩
          obtain ⟨ln, hln⟩ : ∃ ln, V.length = ln := ⟨_, rfl⟩
          have HYR := Lib.hid hyr
          rw [hV, hE] at HUN
          have HGOOD : Hid (∀ L, EncofT 1 n b L → er = 0 ∧ V = L.map (plW (riseL L)) ∧ d = riseL L) := fun L h => by
            obtain ⟨_, h2, h3⟩ := HLC.out L h
            obtain ⟨_, h5, h6⟩ := (HPAR.out L h).2.2 p (by omega)
            rw [hw, hE] at h5
            rw [hw, hV] at h6
            exact ⟨h5, h6, h2⟩
          have hVn : er = 0 → V.length = n := fun h => by
            have := (back2 (by rw [hE]; exact h)).1
            rw [hV] at this
            omega
          have hps1 : (0 : Int) ≤ (p : Int) + 1 := by omega
          have hps2 : (p : Int) + 1 ≤ (nb : Int) := by omega
          have hli : (p : Int) < (nb : Int) := by omega
          have HLN := Lib.hid hln
          have hdlm : dl = many := by rw [← HDL.out]; exact hdm
          clear hcp hlr hw hbr hyr hV hE hln hpl hlt hdm hp0 hpb HTK HQ
          go_wp2
          refine wpS_start (fun W' => Below W.heap.size W W') 16 (by kernel_rfl) rfl (fun RG HR => ?_)
          refine wpS_take HR (i := 0) (v := .slice (some ⟨bx, ox, none⟩) nb cap) rfl (by decide +kernel) (by decide +kernel) (by decide +kernel) (fun _ _ _ h => h) (by rfl) (E2.out.drew) (fun W' hW => by go_simp) ?_
          go_simp
          refine wpS_take HR (i := 1) (v := .int .i64 (p : Int)) rfl (by decide +kernel) (by decide +kernel) (by decide +kernel) (fun _ _ _ h => h) (by rfl) (E2.out.drew) (fun W' hW => by go_simp) ?_
          go_simp
          refine wpS_take HR (i := 2) (v := .int .i64 ((p : Int) + 1)) rfl (by decide +kernel) (by decide +kernel) (by decide +kernel) (fun _ _ _ h => h) (by rfl) (E2.out.drew) (fun W' hW => by go_simp) ?_
          go_simp
          refine wpS_take HR (i := 3) (v := .slice AR (nb - (p + 1)) (cap - (p + 1))) rfl (by decide +kernel) (by decide +kernel) (by decide +kernel) (fun _ _ _ h => h) (by rfl) (E2.out.drew) (fun W' hW => by go_simp) ?_
          go_simp
          refine wpS_take HR (i := 4) (v := .int .i64 (n : Int)) rfl (by decide +kernel) (by decide +kernel) (by decide +kernel) (fun _ _ _ h => h) (by rfl) (E2.out.drew) (fun W' hW => by go_simp) ?_
          go_simp
          refine wpS_take HR (i := 5) (v := .slice (some ⟨bx, ox, none⟩) nb cap) rfl (by decide +kernel) (by decide +kernel) (by decide +kernel) (fun _ _ _ h => h) (by rfl) (E2.out.drew) (fun W' hW => by go_simp) ?_
          go_simp
          refine wpS_take HR (i := 6) (v := .int .i64 (p : Int)) rfl (by decide +kernel) (by decide +kernel) (by decide +kernel) (fun _ _ _ h => h) (by rfl) (E2.out.drew) (fun W' hW => by go_simp) ?_
          go_simp
          refine wpS_take HR (i := 7) (v := .pointer (some ⟨bx, ox + p, none⟩)) rfl (by decide +kernel) (by decide +kernel) (by decide +kernel) (fun _ _ _ h => h) (by rfl) (E2.out.drew) (fun W' hW => by go_simp) ?_
          go_simp
          refine wpS_take HR (i := 8) (v := .int .u8 (w.toNat : Int)) rfl (by decide +kernel) (by decide +kernel) (by decide +kernel) (fun _ _ _ h => h) (by rfl) (E2.out.drew) (fun W' hW => by have hc := cell_lo hW HCP.out; go_simp) ?_
          go_simp
          refine wpS_take HR (i := 9) (v := .int .i64 (w.toNat : Int)) rfl (by decide +kernel) (by decide +kernel) (by decide +kernel) (fun _ _ _ h => h) (by rfl) (E2.out.drew) (fun W' hW => by go_simp) ?_
          go_simp
          refine wpS_step1 HR (i := 10) (by decide +kernel) ?_
          refine stepS_call HR rfl (by rfl) (by go_simp; exact ⟨rfl, rfl⟩) ?_
          refine (HUN.out _ _ _ E2.out.drew HYR.out).mono ?_
          rintro e w3 ⟨A8, c8, rfl, hnum, hb3⟩
          rw [HLN.out]
          have HNUM := Lib.hid hnum
          have E3 := Lib.hid (E2.out.drew.trans (hb3.mono E2.out.drew.size) : Below W.heap.size W w3)
          have HWD3 := Lib.hid (HWD.out.keep (w := w2.drew) hb3)
          clear hnum hb3
          refine ⟨_, rfl, E3.out, ?_⟩
          go_simp
          refine wpS_take HR (i := 11) (v := .tuple #[.slice A8 ln c8, .int .i64 er]) rfl (by decide +kernel) (by decide +kernel) (by decide +kernel) (fun _ _ _ h => h) (by rfl) (E3.out) (fun W' hW => by go_simp) ?_
          go_simp
          refine wpS_take HR (i := 12) (v := .slice A8 ln c8) rfl (by decide +kernel) (by decide +kernel) (by decide +kernel) (fun _ _ _ h => h) (by rfl) (E3.out) (fun W' hW => by go_simp) ?_
          go_simp
          refine wpS_take HR (i := 13) (v := .int .i64 er) rfl (by decide +kernel) (by decide +kernel) (by decide +kernel) (fun _ _ _ h => h) (by rfl) (E3.out) (fun W' hW => by go_simp) ?_
          go_simp
          refine wpS_take HR (i := 14) (v := .slice A8 ln c8) rfl (by decide +kernel) (by decide +kernel) (by decide +kernel) (fun _ _ _ h => h) (by rfl) (E3.out) (fun W' hW => by go_simp) ?_
          go_simp
          refine wpS_take HR (i := 15) (v := .int .i64 er) rfl (by decide +kernel) (by decide +kernel) (by decide +kernel) (fun _ _ _ h => h) (by rfl) (E3.out) (fun W' hW => by go_simp) ?_
          go_simp
          refine wpS_done HR (by decide +kernel) ?_
          by_cases her : er = 0
          · subst her
            have hlk : ln = n := by rw [← HLN.out]; exact hVn rfl
            rw [hlk] at HLN ⊢
            clear hlk hVn
            obtain ⟨TT, hTT⟩ : ∃ TT : Nat → List Tx, TT = fun k => (V.take k).map (fun s => d.getD s.toNat []) := ⟨_, rfl⟩
            have HTT := Lib.hid hTT
            have HTL : Hid (∀ k, k ≤ n → (TT k).length = k) := fun k hk => by rw [hTT]; simp only [List.length_map, List.length_take]; have := HLN.out; omega
            have HT0 : Hid (TT 0 = []) := by rw [hTT]; rfl
            clear hTT HUN HCP HYR
            go_wp2
            go_loopw [13, 14] (fun v i wr => ∃ k : Nat, k ≤ n ∧ i = .int .i64 k ∧ OwnS wr w3.heap.size v (TT k) ∧ Below w3.heap.size w3 wr) (fun _ i _ => n - (intOf i).toNat)
            case atStart => exact ⟨0, by omega, rfl, by rw [HT0.out]; exact World.ownsRow_nil w3 _ _ _, Below.refl _ _⟩
            case round =>
              obtain ⟨k, hk, rfl, hown, hwq⟩ := hrel
              obtain ⟨A9, c9, rfl, hi9, hn9, hl9, ha9⟩ := hown.form
              clear ha9 hn9
              have htl := HTL.out k hk
              have HOWN : Hid (OwnS wr w3.heap.size (.slice A9 k c9) (TT k)) := by show OwnS _ _ _ _; rw [htl] at hown; exact hown
              rw [htl] at hl9 ⊢
              have HI9 := Lib.hid hi9
              have HL9 := Lib.hid hl9
              have HWQ := Lib.hid hwq
              have E5 : Hid (Below W.heap.size W wr) := E3.out.trans (hwq.mono E3.out.size)
              by_cases hlt : k < n
              · have hk1 : k < V.length := by rw [HLN.out]; exact hlt
                obtain ⟨bs, os, rfl, hcs⟩ := (HNUM.out.keep hwq) k hk1
                have hst : TT (k + 1) = TT k ++ [d.getD (V[k]).toNat []] := by
                  rw [HTT.out]
                  simp only [List.take_succ_eq_append_getElem hk1, List.map_append, List.map_cons, List.map_nil]
                have hgd : ∀ L, EncofT 1 n b L → (V[k]).toNat < many := fun L h => by
                  obtain ⟨_, h2, h3⟩ := HGOOD.out L h
                  have hkL : k < L.length := by rw [h.2.1]; exact hlt
                  have e : V[k] = plW (riseL L) L[k] := by simp only [h2, List.getElem_map]
                  obtain ⟨h4, _⟩ := plc_of (R := riseL L) (rise_rise L) (x := L[k]) ((rise_mem L _).2 (List.getElem_mem hkL))
                  have h5 := HDL.out
                  rw [h3] at h5
                  rw [e]
                  unfold plW
                  rw [BitVec.toNat_ofNat]
                  have := Nat.mod_le (plc (riseL L) L[k]) (2 ^ 64)
                  omega
                have hv64 := (V[k]).isLt
                generalize V[k] = sv at hcs hst hgd hv64
                obtain ⟨v, hv⟩ : ∃ v, sv.toNat = v := ⟨_, rfl⟩
                rw [hv] at hcs hst hgd hv64
                by_cases hvm : v < many
                · have hvd : v < d.length := by rw [HDL.out, hdlm]; exact hvm
                  obtain ⟨bd, od, hA5, hcd⟩ := (HWD3.out.keep hwq) v hvd
                  have hgv : d.getD v [] = d[v] := by rw [List.getD_eq_getElem?_getD, List.getElem?_eq_getElem hvd]; rfl
                  rw [hgv] at hst
                  obtain ⟨x, hx⟩ : ∃ x, d[v] = x := ⟨_, rfl⟩
                  rw [hx] at hst hcd
                  obtain ⟨sx, hsx⟩ : ∃ sx, str x = sx := ⟨_, rfl⟩
                  rw [hsx] at hcd
                  have HSX := Lib.hid hsx.symm
                  have HST := Lib.hid hst
                  have HSZ : Hid ((TT k).length + [x].length ≤ 1700000000000) := by show _ ≤ _; rw [htl, List.length_singleton]; omega
                  have hvi : ¬ (many : Int) ≤ (v : Int) := by omega
                  have hvi2 : (v : Int) < (many : Int) := by omega
                  have HK : Hid (k < n) := hlt
                  clear hown hi9 hl9 hwq hk1 hst hgd hv64 hv hvd hgv hsx hx htl
                  subst hA5
                  go_wp2_with (refine app_strs w3 rfl _ _ rfl _ (TT k) rfl (World.ownsRow.alloc HOWN.out _) (HWQ.out.alloc HWQ.out.size _) (some ⟨_, 0, none⟩) 1 1 [x] rfl rfl (strs_one _ 9 x sx HSX.out) (by simp) HSZ.out ?_; intro v6 w6 hown6 hbel6; rw [← HST.out] at hown6; have O6 := Lib.hid hown6; have E6 := Lib.hid hbel6; clear hown6 hbel6)
                  go_roundw
                  case rel => exact ⟨k + 1, HK.out, by go_num, O6.out, E6.out⟩
                  case measure => simp [intOf]; have := HK.out; omega
                · have hvi : (many : Int) ≤ (v : Int) := by omega
                  have HNO : Hid (∀ L, EncofT 1 n b L → False) := fun L h => hvm (hgd L h)
                  clear hown hi9 hl9 hwq hk1 hst hgd hv64 hv htl
                  go_wp2
                  go_ret
                  exact PlQ.nul E5.out HNO.out
              · obtain rfl : k = n := by omega
                have HTV : Hid (TT k = V.map (fun s => d.getD s.toNat [])) := by
                  show _ = _
                  rw [HTT.out]
                  simp only
                  rw [List.take_of_length_le (by rw [HLN.out]; exact Nat.le_refl _)]
                have HTLK := Lib.hid htl
                clear hown hi9 hl9 hwq htl
                go_wp2
                go_ret
                refine ⟨A9, c9, TT k, by rw [HTLK.out]; rfl, HI9.out, by rw [HTLK.out]; exact HL9.out, fun x hx => ?_, E5.out, .inl HTLK.out, fun L h => ?_⟩
                · rw [HTV.out] at hx
                  obtain ⟨s, _, rfl⟩ := List.mem_map.1 hx
                  rw [List.getD_eq_getElem?_getD]
                  cases hg : d[s.toNat]? with
                  | none => simp
                  | some y => exact HD64.out y (List.mem_of_getElem? hg)
                · obtain ⟨_, h2, h3⟩ := HGOOD.out L h
                  rw [HTV.out, h2, h3]
                  exact back_texts rfl h.1.1
          · have hei : (er == 0) = false := by rw [beq_eq_false_iff_ne]; exact her
            have hei2 : (er != 0) = true := by simp [her]
            have HER : Hid (¬ er = 0) := her
            clear hVn
            go_wp2
            go_ret
            exact PlQ.nul E3.out fun L h => HER.out (HGOOD.out L h).1
        · have hge : (nb : Int) ≤ (p : Int) := by omega
          have HNO : Hid (∀ L, EncofT 1 n b L → False) := fun L h => by
            obtain ⟨_, _, h3⟩ := HLC.out L h
            obtain ⟨h4, _⟩ := (HPAR.out L h).2.2 p (by omega)
            have := HNB.out
            omega
          subst her1
          go_wp2
          go_ret
          exact PlQ.nul E2.out HNO.out
      · have HER : Hid (¬ ok1 = true) := her1
        obtain rfl : ok1 = false := by simpa using her1
        go_wp2
        go_ret
        exact PlQ.nul E2.out fun L h => HER.out (HLC.out L h).1
end Go.Proofs.YtjmkipbolldhgaaDoor
