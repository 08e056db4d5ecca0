/- The walk of SchemaTexts. -/
import Derived.Test.YtabnjiepmhblaaaDoorTxG
import Derived.Test.YtabnjiepmhblaaaDoorScQ
namespace Go.Proofs.YtabnjiepmhblaaaDoor
open Go.RowKit Go.Shelf Go.Maps
set_option linter.unusedVariables false

theorem on_ {W w1 : World} {P : Ending → Prop} {e : Ending} {w' : World} (h : Below W.heap.size W w1) (k : P e ∧ Below w1.heap.size w1 w') : P e ∧ Below W.heap.size W w' := ⟨k.1, h.trans (k.2.mono h.size)⟩
theorem ParsedS.up {W w1 W' : World} {l : List UInt8} {e : Ending} (h : Below W.heap.size W w1) (k : ParsedS w1 l e W') : ParsedS W l e W' := by
  unfold ParsedS at *
  cases hp : parseL l with
  | none =>
    rw [hp] at k
    exact ⟨k.1, h.trans (k.2.mono h.size)⟩
  | some r =>
    rw [hp] at k
    obtain ⟨A, cap, e1, e2, e3, e4⟩ := k
    exact ⟨A, cap, e1, e2, e3, h.trans (e4.mono h.size)⟩

set_option maxHeartbeats 4000000 in
theorem lawtexts_any (A : Option Addr) (cap : Nat) (l : List Col) (s : ByteArray) (W : World) (hl : Cols W A l) (hn : l.length ≤ 140737488351232) (hs : s.size ≤ 3000000000) (hm : ∃ m0 : Int, W.cell? ⟨0, 0, none⟩ = some (.int .i64 m0)) :
    Calls Tryd.prog 3 #[.slice A l.length cap, .string s] W fun e W' => e = .returned (.bool true) ∧ Below W.heap.size W W' := by
  obtain ⟨m0, hm⟩ := hm
  have hb0 : 0 < W.heap.size := World.block_lt_of_cell? W _ hm
  have H0 := Lib.hid (shown5_any W)
  obtain ⟨sb, ev, h1, h2⟩ : ∃ (sb : ByteArray) (ev : Int), (∀ w1, Below W.heap.size W w1 → Calls Tryd.prog 6 #[.slice A l.length cap] w1 fun e w' => e = .returned (.tuple #[.string sb, .int .i64 ev]) ∧ Below W.heap.size W w') ∧
      (∀ w1, Below W.heap.size W w1 → Calls Tryd.prog 7 #[.slice A l.length cap] w1 fun e w' => e = .returned (.tuple #[.string sb, .int .i64 ev]) ∧ Below W.heap.size W w') := by
    cases hr : rightC l with
    | true => exact ⟨⟨(showL l).toArray⟩, 0, fun w1 h => (show_ok A cap l w1 (hl.keep h) hr).mono fun e w' => on_ (P := fun e => e = _) h, fun w1 h => (refshow_ok A cap l w1 (hl.keep h) hr).mono fun e w' => on_ (P := fun e => e = _) h⟩
    | false => exact ⟨⟨#[]⟩, 50, fun w1 h => (show_no A cap l w1 (hl.keep h) (by omega) hr).mono fun e w' => on_ (P := fun e => e = _) h, fun w1 h => (refshow_no A cap l w1 (hl.keep h) (by omega) hr).mono fun e w' ⟨he, hw⟩ => ⟨he, hw ▸ h⟩⟩
  have H1 := Lib.hid h1
  have H2 := Lib.hid h2
  have h3 := fun w1 (h : Below W.heap.size W w1) => (parse_any s m0 w1 (by omega) ((h.cell (p := ⟨0, 0, none⟩) hb0).trans hm)).mono fun e w' => ParsedS.up h
  have h4 := fun w1 (h : Below W.heap.size W w1) => refparse_any s w1 hs
  unfold ParsedS at h3 h4
  generalize l.length = n at *
  cases hp : parseL s.data.toList with
  | none =>
    simp only [hp] at h3 h4
    have H3 := Lib.hid h3
    have H4 := Lib.hid h4
    have h5 : ∀ w, Calls Tryd.prog 10 #[.slice none 0 0, .slice none 0 0] w fun e w' => e = .returned (.bool true) ∧ Below w.heap.size w w' := fun w => same_any none none 0 0 [] [] w (fun k h => absurd h (by simp)) (fun k h => absurd h (by simp)) (by simp) (by simp)
    have H5 := Lib.hid h5
    clear h5
    clear h1 h2 h3 h4 hl hm hp hs
    go_enter Tryd.func3, Tryd.ntmps3
    go_wp2_with (first | (go_at_call 5; refine H0.out.mono ?_; rintro e w1 ⟨rfl, hb⟩; have B1 := Lib.hid hb; clear hb H0) | (go_at_call 6; refine (H1.out _ B1.out).mono ?_; rintro e w2 ⟨rfl, hb⟩; have B2 := Lib.hid hb; clear hb H1) | (go_at_call 7; refine (H2.out _ B2.out).mono ?_; rintro e w3 ⟨rfl, hb⟩; have B3 := Lib.hid hb; clear hb H2) | (go_at_call 8; refine (H3.out _ B3.out).mono ?_; rintro e w4 ⟨rfl, hb⟩; have B4 := Lib.hid hb; clear hb H3) | (go_at_call 9; refine (H4.out _ B4.out).mono ?_; rintro e w5 ⟨rfl, hb⟩; have B5 := Lib.hid (B4.out.trans (hb.mono B4.out.size)); clear hb H4) | (go_at_call 10; refine (H5.out _).mono ?_; rintro e w6 ⟨rfl, hb⟩; have B6 := Lib.hid (B5.out.trans (hb.mono B5.out.size)); clear hb H5))
    go_ret
    exact ⟨rfl, B6.out⟩
  | some r =>
    simp only [hp] at h3 h4
    have hrl := rightC_lens (parseL_show (by rw [sz_list]; omega) hp).1
    have H3 := Lib.hid h3
    have H4 := Lib.hid h4
    have h5 : ∀ A B c1 c2 w, Cols w A r → Cols w B r → Calls Tryd.prog 10 #[.slice A r.length c1, .slice B r.length c2] w fun e w' => e = .returned (.bool true) ∧ Below w.heap.size w w' := fun A B c1 c2 w h1 h2 => by
      have := same_any A B c1 c2 r r w h1 h2 (by omega) (by omega)
      rwa [show decide (r = r) = true by simp] at this
    have H5 := Lib.hid h5
    clear h5
    clear h1 h2 h3 h4 hl hm hp hs hrl
    go_enter Tryd.func3, Tryd.ntmps3
    go_wp2_with (first | (go_at_call 5; refine H0.out.mono ?_; rintro e w1 ⟨rfl, hb⟩; have B1 := Lib.hid hb; clear hb H0) | (go_at_call 6; refine (H1.out _ B1.out).mono ?_; rintro e w2 ⟨rfl, hb⟩; have B2 := Lib.hid hb; clear hb H1) | (go_at_call 7; refine (H2.out _ B2.out).mono ?_; rintro e w3 ⟨rfl, hb⟩; have B3 := Lib.hid hb; clear hb H2) | (go_at_call 8; refine (H3.out _ B3.out).mono ?_; rintro e w4 ⟨A4, c4, rfl, hc4, _, hb⟩; have B4 := Lib.hid hb; have C4 := Lib.hid hc4; clear hb hc4 H3) | (go_at_call 9; refine (H4.out _ B4.out).mono ?_; rintro e w5 ⟨A5, c5, rfl, hc5, _, hb⟩; have B5 := Lib.hid (B4.out.trans (hb.mono B4.out.size)); have C5 := Lib.hid hc5; have C4b := Lib.hid (C4.out.keep hb); clear hb hc5 H4) | (go_at_call 10; refine (H5.out _ _ _ _ _ C4b.out C5.out).mono ?_; rintro e w6 ⟨rfl, hb⟩; have B6 := Lib.hid (B5.out.trans (hb.mono B5.out.size)); clear hb H5))
    go_ret
    exact ⟨rfl, B6.out⟩
end Go.Proofs.YtabnjiepmhblaaaDoor
