/- The walk of stackyardlaw08.ChunkTurns. -/
import Derived.Test.YtfgmdaemcaamiaaDoorChL
import Derived.Test.YtfgmdaemcaamiaaDoorChS
namespace Go.Proofs.YtfgmdaemcaamiaaDoor
open Go.RowKit
set_option linter.unusedVariables false

set_option maxRecDepth 100000 in
set_option maxHeartbeats 8000000 in
theorem chturns_any (kind : Int) (A : Option Addr) (cap : Nat) (l : List Vl) (at_ : Int) (c : UInt8) (W : World) (hl : Vls W A l) (hn : l.length ≤ 4000000000000000000) (hT : TabAt W) :
    Calls Tryd.prog 6 #[.int .i64 kind, .slice A l.length cap, .int .i64 at_, .int .u8 (c.toNat : Int)] W fun e W' => e = .returned (.bool true) ∧ Below W.heap.size W W' := by
  have HSH := Lib.hid (shown8_any W hT)
  have HT := Lib.hid hT
  by_cases hr : colR kind l = true
  · have HE := Lib.hid (fun w (h : Below W.heap.size W w) => enc8_yes kind A cap l w (hl.keep h) hr (hT.keep h))
    unfold LaidI at HE
    have hblen := bodyC_len hr
    have hel := encC_len8 kind l
    have HBL : Hid ((encC kind l).length ≤ 5001004) := by show _ ≤ _; omega
    have HTU : Hid (∀ (i : Nat) (hi : i < (encC kind l).length) k' l', (encC kind l)[i] ≠ c → (encC kind l).set i c ≠ encC k' l') := fun i hi k' l' h => encC_turn hi h
    clear hblen hel hr hl hT
    generalize encC kind l = eb at HE HBL HTU
    generalize l.length = n at *
    obtain ⟨ne, hne⟩ : ∃ ne, eb.length = ne := ⟨_, rfl⟩
    have HNE := Lib.hid hne
    clear hne
    by_cases hin : at_ < 0 ∨ (ne : Int) ≤ at_
    · by_cases h0 : at_ < 0
      · go_enter Tryd.func6, Tryd.ntmps6
        go_wp2_with fail
        go_at_call 8
        refine HSH.out.mono ?_
        rintro e w1 ⟨rfl, hb1⟩
        have HB1 := Lib.hid hb1
        clear hb1
        go_wp2_with fail
        go_at_call 9
        refine (HE.out w1 HB1.out).mono ?_
        rintro e w2 ⟨v2, rfl, ho, hb2⟩
        have HB2 := Lib.hid (below_to HB1.out hb2)
        clear ho hb2
        go_wp2
        go_ret
        exact ⟨rfl, HB2.out⟩
      · have hge : (ne : Int) ≤ at_ := by omega
        go_enter Tryd.func6, Tryd.ntmps6
        go_wp2_with fail
        go_at_call 8
        refine HSH.out.mono ?_
        rintro e w1 ⟨rfl, hb1⟩
        have HB1 := Lib.hid hb1
        clear hb1
        go_wp2_with fail
        go_at_call 9
        refine (HE.out w1 HB1.out).mono ?_
        rintro e w2 ⟨v2, rfl, ho, hb2⟩
        obtain ⟨A2, c2, rfl, hy2, ha2, hc2, hm2⟩ := ho.form
        have HB2 := Lib.hid (below_to HB1.out hb2)
        rw [HNE.out]
        clear ho hb2 hy2 ha2 hc2 hm2
        go_wp2
        go_ret
        exact ⟨rfl, HB2.out⟩
    · obtain ⟨i, rfl⟩ : ∃ i : Nat, at_ = (i : Int) := ⟨at_.toNat, by omega⟩
      have hi : i < eb.length := by rw [HNE.out]; omega
      have hii : (i : Int) < (ne : Int) := by omega
      have hii2 : ¬ (ne : Int) ≤ (i : Int) := by omega
      obtain ⟨x, hx⟩ : ∃ x, eb[i] = x := ⟨_, rfl⟩
      have HX := Lib.hid hx
      have hx256 := x.toNat_lt
      by_cases hxc : x = c
      · subst hxc
        clear hx hin
        go_enter Tryd.func6, Tryd.ntmps6
        go_wp2_with fail
        go_at_call 8
        refine HSH.out.mono ?_
        rintro e w1 ⟨rfl, hb1⟩
        have HB1 := Lib.hid hb1
        clear hb1
        go_wp2_with fail
        go_at_call 9
        refine (HE.out w1 HB1.out).mono ?_
        rintro e w2 ⟨v2, rfl, ho, hb2⟩
        obtain ⟨g, c2, rfl, hg, hc2, hm2, hcell, hfr, hset⟩ := ho.at_ hi
        have HB2 := Lib.hid (below_to HB1.out hb2)
        rw [HX.out] at hcell
        rw [HNE.out]
        clear ho hb2 hset
        go_wp2
        go_ret
        exact ⟨rfl, HB2.out⟩
      · have hxi : ((x.toNat : Int) == (c.toNat : Int)) = false := by
          rw [beq_eq_false_iff_ne]
          intro h
          exact hxc (UInt8.toNat_inj.1 (by omega))
        have HTX : Hid (∀ k' l', eb.set i c ≠ encC k' l') := fun k' l' => HTU.out i hi k' l' (by rw [hx]; exact hxc)
        clear hx hin
        go_enter Tryd.func6, Tryd.ntmps6
        go_wp2_with fail
        go_at_call 8
        refine HSH.out.mono ?_
        rintro e w1 ⟨rfl, hb1⟩
        have HB1 := Lib.hid hb1
        clear hb1
        go_wp2_with fail
        go_at_call 9
        refine (HE.out w1 HB1.out).mono ?_
        rintro e w2 ⟨v2, rfl, ho, hb2⟩
        obtain ⟨g, c2, rfl, hg, hc2, hm2, hcell, hfr, hset⟩ := ho.at_ hi
        have HB2 := Lib.hid (below_to HB1.out hb2)
        have HB3 : Hid (Below W.heap.size W (w2.setCell ⟨g, i, none⟩ (.int .u8 (c.toNat : Int)))) := HB2.out.setCell (by have := HB1.out.size; show W.heap.size ≤ g; omega) _
        have hs := hset c
        obtain ⟨A3, c3, e3, hy3, ha3, hc3, hm3⟩ := hs.form
        rw [List.length_set] at e3
        injection e3 with e4 e5 e6
        subst e4 e6
        have HDE := Lib.hid (cdec_any (some ⟨g, 0, none⟩) c2 (eb.set i c) _ hy3 ha3 hc3 (by unfold maxLen at hm3; omega) (by rw [List.length_set]; have := HBL.out; omega) (HT.out.keep HB3.out))
        unfold DecC at HDE
        rw [List.length_set] at HDE
        rw [HX.out] at hcell
        rw [HNE.out] at HDE hc2 ⊢
        clear ho hb2 hset hs hy3 ha3 hc3 hm3
        go_wp2_with fail
        go_at_call 13
        refine HDE.out.mono ?_
        rintro e w3 ⟨hb3, (⟨k3, l3, A3, c3, hr3, he3, hu3, rfl, hv3, hc3⟩ | ⟨hno, rfl⟩)⟩
        · exact (HTX.out k3 l3 he3.symm).elim
        · have HB4 := Lib.hid (below_to HB3.out hb3)
          clear hb3 hno HDE
          go_wp2
          go_ret
          exact ⟨rfl, HB4.out⟩
  · have HE := Lib.hid (fun w (h : Below W.heap.size W w) => enc8_no kind A cap l w (hl.keep h) hn (by simpa using hr))
    clear hr hl hT
    generalize l.length = n at *
    go_enter Tryd.func6, Tryd.ntmps6
    go_wp2_with fail
    go_at_call 8
    refine HSH.out.mono ?_
    rintro e w1 ⟨rfl, hb1⟩
    have HB1 := Lib.hid hb1
    clear hb1
    go_wp2_with fail
    go_at_call 9
    refine (HE.out w1 HB1.out).mono ?_
    rintro e w2 ⟨rfl, hb2⟩
    have HB2 := Lib.hid (below_to HB1.out hb2)
    clear hb2
    go_wp2
    go_ret
    exact ⟨rfl, HB2.out⟩
/-- A byte, of its number. -/
theorem byt_wf {n : Int} (h : (Lit.int .u8 n).wf = true) : ∃ c : UInt8, n = (c.toNat : Int) := by
  have h1 : IntKind.u8.min = 0 := by decide
  have h2 : IntKind.u8.max = 255 := by decide
  simp only [Lit.wf, h1, h2, Bool.and_eq_true, decide_eq_true_eq] at h
  exact ⟨UInt8.ofNat n.toNat, by rw [UInt8.toNat_ofNat']; omega⟩
end Go.Proofs.YtfgmdaemcaamiaaDoor
