/- The walk of stackyardlaw20.shown (29): true, and nothing that was there is turned. -/
import Derived.Test.YtplfigikjlfmjaaNetDel
import Derived.Test.YtplfigikjlfmjaaSeal
namespace Go.Proofs.Ytplfigikjlfmjaa
open Go.RowKit
set_option linter.unusedVariables false

def cut0 : List Value := List.replicate 49 (.bool false)
theorem isnet_new (w w' : World) (n : Int) (hb : Below w.heap.size w w') (h : Blk w' w.heap.size 55 (NetC (.slice none 0 0) n cut0 0)) : IsNet w w' w.heap.size (.slice none 0 0) 0 [] n 0 cut0 :=
  ⟨h, rfl, World.ownsRow_nil _ _ _ _, hb, Nat.le_refl _⟩
theorem seal_empty : sealed ⟨#[]⟩ = ⟨#[0, 0, 0, 0]⟩ := by decide +kernel
def twoC : List Value := msgC 1 2 ⟨#[97]⟩ ++ msgC 2 1 ⟨#[98]⟩

/-- How many messages a network has, in a world to come. -/
theorem isnet_many {w0 w : World} {g : Nat} {v : Value} {k : Nat} {xs : List Value} {n lost : Int} {cut : List Value} (h : IsNet w0 w g v k xs n lost cut) (hn : 1 ≤ n) (W : World) (hb : Below w.heap.size w W) :
    Calls Try.prog 9 #[.pointer (some ⟨g, 0, none⟩)] W fun e w' => e = .returned (.int .i64 k) ∧ W = w' := by
  obtain ⟨A, c, rfl⟩ := own_form h.own
  have h1 := h.later hb
  exact many_any g k c n A W (by rw [h1.blk.at_]; rfl) (by rw [h1.blk.at_]; rfl) hn

set_option maxHeartbeats 4000000 in
set_option maxRecDepth 100000 in
theorem shown20_any (w : World) : Calls Try.prog 5 #[] w fun e w' => e = .returned (.bool true) ∧ Below w.heap.size w w' := by
  have hnew := new_any 2 w (by decide) (by decide)
  have hs1 := fun g v k xs cut (w1 : World) (h : IsNet w w1 g v k xs 2 0 cut) => send_12 w g v k xs 2 0 cut ⟨#[97]⟩ w1 h (by decide)
  have hs2 := fun g v k xs cut (w1 : World) (h : IsNet w w1 g v k xs 2 0 cut) => send_21 w g v k xs 2 0 cut ⟨#[98]⟩ w1 h (by decide)
  have htk := fun g v (w1 : World) (h : IsNet w w1 g v 2 twoC 2 0 cut0) => take_any_net w g v 2 twoC 2 0 cut0 0 1 2 ⟨#[97]⟩ w1 h (by decide) (by decide) rfl rfl rfl (by intro u hu; simp [twoC, msgC] at hu; rcases hu with rfl | rfl | rfl | rfl | rfl | rfl <;> rfl)
  have hse := fun (w1 : World) => seal_any ⟨#[]⟩ w1 (by decide)
  rw [seal_empty] at hse
  go_enter Try.func5, Try.ntmps5
  go_wp2_with (first | (go_at_call 6; refine hnew.mono ?_; rintro e w1 ⟨rfl, hb1, hB1⟩; have hN1 := isnet_new w w1 2 hb1 hB1) | (go_at_call 13; refine (hs1 _ _ _ _ _ _ hN1 rfl (by decide) (by decide)).mono ?_; rintro e w2 ⟨rfl, v2, hN2⟩; clear hN1) | (go_at_call 13; refine (hs2 _ _ _ _ _ _ hN2 rfl (by decide) (by decide)).mono ?_; rintro e w3 ⟨rfl, v3, hN3⟩; clear hN2) | (go_at_call 14; refine (htk _ _ _ hN3).mono ?_; rintro e w4 ⟨rfl, v4, hN4⟩; clear hN3; have hb4 : Below w4.heap.size w4 (w4.alloc (Obj.cells #[Value.int IntKind.i64 1, Value.int IntKind.i64 2, Value.string { data := #[97] }] 41)) := (Below.refl _ _).alloc (Nat.le_refl _) _; have hm : Calls Try.prog 9 #[.pointer (some ⟨w.heap.size, 0, none⟩)] (w4.alloc (Obj.cells #[Value.int IntKind.i64 1, Value.int IntKind.i64 2, Value.string { data := #[97] }] 41)) fun e w' => e = .returned (.int .i64 1) ∧ (w4.alloc (Obj.cells #[Value.int IntKind.i64 1, Value.int IntKind.i64 2, Value.string { data := #[97] }] 41)) = w' := isnet_many hN4 (by decide) _ hb4) | (go_at_call 9; refine hm.mono ?_; rintro e w5 ⟨rfl, rfl⟩) | (go_at_call 15; refine (hse _).mono ?_; rintro e w6 ⟨rfl, hb6⟩))
  go_ret
  exact ⟨rfl, hN4.bel.trans ((hb4.mono hN4.bel.size).trans (hb6.mono (Nat.le_trans hN4.bel.size hb4.size)))⟩
end Go.Proofs.Ytplfigikjlfmjaa
