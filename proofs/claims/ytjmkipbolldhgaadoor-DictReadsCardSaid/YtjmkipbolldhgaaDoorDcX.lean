/- The walk of stackyardlaw07.DictReads. -/
import Derived.Test.YtjmkipbolldhgaaDoorDcW
namespace Go.Proofs.YtjmkipbolldhgaaDoor
open Go.RowKit
set_option linter.unusedVariables false

theorem rdec_arg (A : Option Addr) (cap : Nat) (b : List UInt8) (n : Int) (W : World) (h : n < 0 ∨ 4096 < n) :
    Calls Tryd.prog 13 #[.slice A b.length cap, .int .i64 n] W (DecTR W b n) := by
  have HNO : Hid (∀ L, ¬ decT b n L) := fun L hl => by obtain ⟨f, _, h1, h2, _⟩ := hl; omega
  have HREF : Hid (Below W.heap.size W W) := Below.refl _ _
  have HH := Lib.hid h
  by_cases h1 : n < 0
  · generalize b.length = nb at *
    clear h
    go_enter Tryd.func13, Tryd.ntmps13
    go_wp2
    go_ret2
    exact ⟨HREF.out, .inr ⟨HNO.out, by rw [if_pos HH.out]; rfl⟩⟩
  · have h2 : 4096 < n := by omega
    generalize b.length = nb at *
    clear h
    go_enter Tryd.func13, Tryd.ntmps13
    go_wp2
    go_ret2
    exact ⟨HREF.out, .inr ⟨HNO.out, by rw [if_pos HH.out]; rfl⟩⟩
set_option maxHeartbeats 2000000 in
theorem rdec_bad (A : Option Addr) (cap : Nat) (b : List UInt8) (n : Nat) (W : World) (hb : Byt W A b) (hn : n ≤ 4096) (h : ∀ h0 : 0 < b.length, 2 ≤ (b[0]).toNat) :
    Calls Tryd.prog 13 #[.slice A b.length cap, .int .i64 (n : Int)] W (DecTR W b n) := by
  have HH : Hid (¬ ((n : Int) < 0 ∨ 4096 < (n : Int))) := by show ¬ _; omega
  have HREF : Hid (Below W.heap.size W W) := Below.refl _ _
  have HNO : Hid (∀ L, ¬ decT b n L) := fun L hl => by
    obtain ⟨g, hg, h1, h2, _, _, e⟩ := hl
    subst e
    have := h (by unfold encT; simp)
    have e2 : ((encT g L)[0]'(by unfold encT; simp)).toNat = g := by show (UInt8.ofNat g).toNat = g; rw [UInt8.toNat_ofNat']; omega
    omega
  have hle : ¬ (4096 : Int) < (n : Int) := by omega
  have hn0 : ¬ (n : Int) < 0 := by omega
  by_cases h0 : 0 < b.length
  · have h2 := h h0
    obtain ⟨bx, ox, rfl, hca⟩ := hb 0 h0
    generalize b[0] = w at hca h2
    have hca0 : W.cell? ⟨bx, ox, none⟩ = some (.int .u8 (w.toNat : Int)) := hca
    have hps : (0 : Int) < (b.length : Int) := by omega
    have hzi : ((b.length : Int) == 0) = false := by rw [beq_eq_false_iff_ne]; omega
    have hwi : (1 : Int) < (w.toNat : Int) := by omega
    clear hb h hca
    generalize b.length = nb at *
    go_enter Tryd.func13, Tryd.ntmps13
    go_wp2
    go_ret2
    exact ⟨HREF.out, .inr ⟨HNO.out, by rw [if_neg HH.out]; rfl⟩⟩
  · have hz : b.length = 0 := by omega
    rw [hz]
    clear hb h h0
    go_enter Tryd.func13, Tryd.ntmps13
    go_wp2
    go_ret2
    exact ⟨HREF.out, .inr ⟨HNO.out, by rw [if_neg HH.out]; rfl⟩⟩
theorem rdecode_any (A : Option Addr) (cap : Nat) (b : List UInt8) (n : Int) (W : World) (hb : Byt W A b) (hA : A = none → cap = 0) (hc : b.length ≤ cap) (hm : cap ≤ 140737488351232) (hT : TabAt W) :
    Calls Tryd.prog 13 #[.slice A b.length cap, .int .i64 n] W (DecTR W b n) := by
  by_cases h : n < 0 ∨ 4096 < n
  · exact rdec_arg A cap b n W h
  · obtain ⟨k, rfl⟩ : ∃ k : Nat, n = (k : Int) := ⟨n.toNat, by omega⟩
    by_cases h2 : ∀ h0 : 0 < b.length, 2 ≤ (b[0]).toNat
    · exact rdec_bad A cap b k W hb (by omega) h2
    · simp only [Classical.not_forall] at h2
      obtain ⟨h0, h5⟩ := h2
      by_cases h6 : (b[0]).toNat = 0
      · exact rdec_0 A cap b k W hb hA hc hm (by omega) h0 h6 hT
      · exact rdec_1 A cap b k W hb hA hc hm (by omega) h0 (by omega) hT

set_option maxRecDepth 100000 in
set_option maxHeartbeats 2000000 in
theorem dreads_any (A : Option Addr) (cap : Nat) (b : List UInt8) (n : Int) (W : World) (hb : Byt W A b) (hA : A = none → cap = 0) (hc : b.length ≤ cap) (hm : cap ≤ 140737488351232) (hT : TabAt W) :
    Calls Tryd.prog 4 #[.slice A b.length cap, .int .i64 n] W fun e W' => e = .returned (.bool true) ∧ Below W.heap.size W W' := by
  have HSH := Lib.hid (shown7_any W hT)
  obtain ⟨L, er, hLn, h1, h2⟩ : ∃ (L : List Tx) (er : Int), L.length ≤ 4096 ∧ (∀ w1, Below W.heap.size W w1 → Calls Tryd.prog 12 #[.slice A b.length cap, .int .i64 n] w1 (LsT w1 L er)) ∧ (∀ w1, Below W.heap.size W w1 → Calls Tryd.prog 13 #[.slice A b.length cap, .int .i64 n] w1 (LsT w1 L er)) := by
    have k1 := fun w1 (h : Below W.heap.size W w1) => tdecode_any A cap b n w1 (hb.keep h) hA hc (by omega) (by omega) (hT.keep h)
    have k2 := fun w1 (h : Below W.heap.size W w1) => rdecode_any A cap b n w1 (hb.keep h) hA hc hm (hT.keep h)
    by_cases hex : ∃ L, decT b n L
    · obtain ⟨L, hL⟩ := hex
      refine ⟨L, 0, ?_, fun w1 h => (k1 w1 h).mono fun e W' h => h.some hL, fun w1 h => (k2 w1 h).mono fun e W' h => h.some hL⟩
      obtain ⟨f, _, _, _, h3, _⟩ := hL
      exact h3.1
    · refine ⟨[], if n < 0 ∨ 4096 < n then 2 else 70, by simp, fun w1 h => (k1 w1 h).mono fun e W' h => ?_, fun w1 h => (k2 w1 h).mono fun e W' h => ?_⟩
      · exact h.none (fun l hl => hex ⟨l, hl⟩)
      · exact h.none (fun l hl => hex ⟨l, hl⟩)
  have HSM := Lib.hid (fun (A B : Option Addr) (c d : Nat) (w : World) (h : Strs w A L) (h2 : Strs w B L) => same7_any A B c d L L w h h2 (by omega) (by omega))
  simp only [decide_true] at HSM
  unfold LsT at h1 h2
  have H1 := Lib.hid h1
  have H2 := Lib.hid h2
  clear h1 h2 hb hA hT
  generalize L.length = m at *
  generalize b.length = nb at *
  go_enter Tryd.func4, Tryd.ntmps4
  go_wp2_with (first | (go_at_call 7; refine HSH.out.mono ?_; rintro e w1 ⟨rfl, hb⟩; have HB := Lib.hid hb; clear hb) | (go_at_call 12; refine (H1.out w1 HB.out).mono ?_; rintro e w2 ⟨A1, c1, rfl, hs1, hq, hb2⟩; clear hq; have HB2 := Lib.hid (HB.out.trans (hb2.mono HB.out.size)); have HS1 := Lib.hid hs1; clear hb2 hs1) | (go_at_call 13; refine (H2.out w2 HB2.out).mono ?_; rintro e w3 ⟨A2, c2, rfl, hs2, hq, hb3⟩; clear hq; have HB3 := Lib.hid (HB2.out.trans (hb3.mono HB2.out.size)); have HS13 := Lib.hid (HS1.out.keep hb3); have HS2 := Lib.hid hs2; clear hb3 hs2) | (go_at_call 14; refine (HSM.out A1 A2 c1 c2 w3 HS13.out HS2.out).mono ?_; rintro e w4 ⟨rfl, hb4⟩; have HB4 := Lib.hid (HB3.out.trans (hb4.mono HB3.out.size)); clear hb4))
  go_ret
  exact ⟨rfl, HB4.out⟩
end Go.Proofs.YtjmkipbolldhgaaDoor
