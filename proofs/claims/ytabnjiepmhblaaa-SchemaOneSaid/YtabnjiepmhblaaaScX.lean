/- The walk of SchemaLays. -/
import Derived.Test.YtabnjiepmhblaaaScW
import Derived.Test.YtabnjiepmhblaaaScR
import Derived.Test.YtabnjiepmhblaaaScQ
import Derived.Test.YtabnjiepmhblaaaScJ
namespace Go.Proofs.Ytabnjiepmhblaaa
open Go.RowKit Go.Shelf Go.Maps
set_option linter.unusedVariables false

def LayU (W0 W : World) (D : List UInt8) (ec : Int) (e : Ending) (W' : World) : Prop := ∃ A c, e = .returned (.tuple #[.slice A D.length c, .int .i64 ec]) ∧ Byt W' A D ∧ Below W0.heap.size W0 W' ∧ Below W.heap.size W W'
def TakeU (W0 W : World) (R : List Col) (p ec : Int) (e : Ending) (W' : World) : Prop := ∃ A c, e = .returned (.tuple #[.slice A R.length c, .int .i64 p, .int .i64 ec]) ∧ Cols W' A R ∧ Below W0.heap.size W0 W' ∧ Below W.heap.size W W'
theorem MadeT.u {W0 W : World} {D : List UInt8} {e : Ending} {W' : World} (h0 : Below W0.heap.size W0 W) (h : MadeT W D e W') : LayU W0 W D 0 e W' := by
  obtain ⟨v, he, ho, hb⟩ := h
  obtain ⟨A, c, rfl, hy, _, _, _⟩ := ho.form
  exact ⟨A, c, he, hy, h0.trans (hb.mono h0.size), hb⟩
def takeR (l : List UInt8) (at_ : Int) : List Col := match takeS l at_ with | some (r, _) => r | none => []
def takeP (l : List UInt8) (at_ : Int) : Int := match takeS l at_ with | some (_, p) => p | none => 0
def takeE (l : List UInt8) (at_ : Int) : Int := match takeS l at_ with | some _ => 0 | none => 52
theorem TookSc.u {W0 W : World} {l : List UInt8} {at_ : Int} {e : Ending} {W' : World} (h0 : Below W0.heap.size W0 W) (h : TookSc W l at_ e W') : TakeU W0 W (takeR l at_) (takeP l at_) (takeE l at_) e W' := by
  unfold TookSc at h
  unfold takeR takeP takeE
  cases ht : takeS l at_ with
  | none =>
    rw [ht] at h
    exact ⟨none, 0, h.1, fun k hk => by simp at hk, h0.trans (h.2.mono h0.size), h.2⟩
  | some x =>
    obtain ⟨r, p⟩ := x
    rw [ht] at h
    obtain ⟨A, c, he, hc, _, _, hb⟩ := h
    exact ⟨A, c, he, hc, h0.trans (hb.mono h0.size), hb⟩
theorem takeR_len (l : List UInt8) (at_ : Int) : (takeR l at_).length ≤ 16 := by
  unfold takeR takeS
  cases ht : takeO l at_ with
  | none => simp
  | some x =>
    obtain ⟨n, c⟩ := x
    simp only
    by_cases h16 : 16 < n
    · rw [if_pos h16]; simp
    · rw [if_neg h16]
      have h0 := takeO_in ht
      cases h2 : takeCs l (at_ + c) n with
      | none => simp
      | some y =>
        obtain ⟨r, p⟩ := y
        have := (takeCs_form h0.2 h2).1
        simp only
        cases rightC r
        · simp
        · simp; omega
def layD (b : List UInt8) (l : List Col) : List UInt8 := if rightC l then b ++ layC l else []
def layE (l : List Col) : Int := if rightC l then 0 else 50
theorem lay_u (B A : Option Addr) (bcap cap : Nat) (b : List UInt8) (l : List Col) (W0 W : World) (h0 : Below W0.heap.size W0 W) (hy : Byt W B b) (hB : B = none → bcap = 0) (hbl : b.length + 2000 ≤ 140737488355328) (hl : Cols W A l) (hn : l.length ≤ 4000000000000000000) :
    Calls Try.prog 17 #[.slice B b.length bcap, .slice A l.length cap] W (LayU W0 W (layD b l) (layE l)) := by
  unfold layD layE
  cases hr : rightC l with
  | true => exact (lay_ok B A bcap cap b l W hy hB hbl hl hr).mono fun e w' h => by rw [if_pos rfl, if_pos rfl]; exact MadeT.u h0 h
  | false => exact (lay_no B A b.length bcap cap l W hl hn hr).mono fun e w' h => (by rw [if_neg (by simp), if_neg (by simp)]; exact ⟨none, 0, h.1, Byt.empty _ _, h0.trans (h.2.mono h0.size), h.2⟩)
theorem reflay_u (B A : Option Addr) (bcap cap : Nat) (b : List UInt8) (l : List Col) (W0 W : World) (h0 : Below W0.heap.size W0 W) (hy : Byt W B b) (hB : B = none → bcap = 0) (hbl : b.length + 2000 ≤ 140737488355328) (hl : Cols W A l) (hn : l.length ≤ 4000000000000000000) :
    Calls Try.prog 18 #[.slice B b.length bcap, .slice A l.length cap] W (LayU W0 W (layD b l) (layE l)) := by
  unfold layD layE
  cases hr : rightC l with
  | true => exact (reflay_ok B A bcap cap b l W hy hB hbl hl hr).mono fun e w' h => by rw [if_pos rfl, if_pos rfl]; exact MadeT.u h0 h
  | false => exact (reflay_no B A b.length bcap cap l W hl hn hr).mono fun e w' h => (by rw [if_neg (by simp), if_neg (by simp)]; exact ⟨none, 0, h.1, Byt.empty _ _, by rw [← h.2]; exact h0, by rw [← h.2]; exact Below.refl _ _⟩)

set_option maxRecDepth 100000 in
set_option maxHeartbeats 4000000 in
/-- The walk of SchemaLays. -/
theorem lawlays_any (B A : Option Addr) (bcap cap : Nat) (b : List UInt8) (l : List Col) (at_ : Int) (W : World) (hy : Byt W B b) (hB : B = none → bcap = 0) (hbc : b.length ≤ bcap) (hbm : bcap ≤ 140737488351232) (hl : Cols W A l) (hn : l.length ≤ 140737488351232) (h63 : at_ ≤ 9223372036854775807) :
    Calls Try.prog 4 #[.slice B b.length bcap, .slice A l.length cap, .int .i64 at_] W fun e W' => e = .returned (.bool true) ∧ Below W.heap.size W W' := by
  have H0 := Lib.hid (shown5_any W)
  have H1 := Lib.hid (fun w1 (h : Below W.heap.size W w1) => lay_u B A bcap cap b l W w1 h (hy.keep h) hB (by omega) (hl.keep h) (by omega))
  have H2 := Lib.hid (fun w1 (h : Below W.heap.size W w1) => reflay_u B A bcap cap b l W w1 h (hy.keep h) hB (by omega) (hl.keep h) (by omega))
  have H3 := Lib.hid (fun w1 (h : Below W.heap.size W w1) => (takes_any B bcap at_ b w1 (hy.keep h) hB hbc (by omega) (by omega)).mono fun e w' => TookSc.u h)
  have H4 := Lib.hid (fun w1 (h : Below W.heap.size W w1) => (reftakes_any B bcap at_ b w1 (hy.keep h) hB hbc hbm h63).mono fun e w' => TookSc.u h)
  have hlen := takeR_len b at_
  generalize layD b l = D at *
  generalize layE l = ec at *
  generalize takeR b at_ = R at *
  generalize takeP b at_ = P at *
  generalize takeE b at_ = E at *
  have H5 := Lib.hid (fun w1 X Y c d (h1 : Cols w1 X R) (h2 : Cols w1 Y R) => same_any X Y c d R R w1 h1 h2 (by omega) (by omega))
  clear hy hl
  generalize b.length = n at *
  generalize l.length = m at *
  go_enter Try.func4, Try.ntmps4
  go_wp2_with (first | (go_at_call 8; refine H0.out.mono ?_; rintro e w1 ⟨rfl, hb⟩; have B1 := Lib.hid hb; clear hb H0) | (go_at_call 17; refine (H1.out _ B1.out).mono ?_; rintro e w2 ⟨A2, c2, rfl, y2, hb, _⟩; have B2 := Lib.hid hb; have Y2 := Lib.hid y2; clear hb y2 H1) | (go_at_call 18; refine (H2.out _ B2.out).mono ?_; rintro e w3 ⟨A3, c3, rfl, y3, hb, hs⟩; have B3 := Lib.hid hb; have Y23 := Lib.hid (Y2.out.keep hs); have Y3 := Lib.hid y3; clear hb y3 hs Y2 H2) | (go_at_call 19; refine (H3.out _ B3.out).mono ?_; rintro e w4 ⟨A4, c4, rfl, y4, hb, hs⟩; have B4 := Lib.hid hb; have Y24 := Lib.hid (Y23.out.keep hs); have Y34 := Lib.hid (Y3.out.keep hs); have Y4 := Lib.hid y4; clear hb y4 hs Y23 Y3 H3) | (go_at_call 20; refine (H4.out _ B4.out).mono ?_; rintro e w5 ⟨A5, c5, rfl, y5, hb, hs⟩; have B5 := Lib.hid hb; have Y45 := Lib.hid (Y4.out.keep hs); have Y5 := Lib.hid y5; have hcv2 := conv (Y24.out.keep hs) c2; have hcv3 := conv (Y34.out.keep hs) c3; clear hb y5 hs Y24 Y34 Y4 H4) | (go_at_call 21; refine (H5.out _ _ _ _ _ Y45.out Y5.out).mono ?_; rintro e w6 ⟨rfl, hb⟩; have B6 := Lib.hid (B5.out.trans (hb.mono B5.out.size)); clear hb H5))
  go_ret
  exact ⟨rfl, B6.out⟩
theorem int_le {a : Int} (h : (Lit.int .i64 a).wf = true) : a ≤ 9223372036854775807 := by
  simp [Lit.wf, IntKind.min, IntKind.max, IntKind.signed, IntKind.bits] at h
  omega
theorem walkLays (B : Option Addr) (bcap : Nat) (b : List UInt8) {W : World} (hy : Byt W B b) (hB : B = none → bcap = 0) (hbc : b.length ≤ bcap) (hbm : bcap ≤ 140737488351232) (A : Option Addr) (cap : Nat) (l : List Col) (hl : Cols W A l) (_ : A = none → cap = 0) (hc : l.length ≤ cap) (hm : cap ≤ 140737488351232) (at_ : Int) (ha : (Lit.int .i64 at_).wf = true) (W' : World) (e : W' = W) :
    Calls Try.prog 4 #[.slice B b.length bcap, .slice A l.length cap, .int .i64 at_] W' fun e w => e = .returned (.bool true) ∧ Below W'.heap.size W' w := by
  subst e
  exact lawlays_any B A bcap cap b l at_ _ hy hB hbc hbm hl (by omega) (int_le ha)
end Go.Proofs.Ytabnjiepmhblaaa
