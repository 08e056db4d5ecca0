/- The walk of value.Lay (14). -/
import Derived.Test.YtabnjiepmhblaaaMk
import Derived.Test.YtabnjiepmhblaaaText
import Derived.Test.YtabnjiepmhblaaaV4S
import Derived.Outline
namespace Go.Proofs.Ytabnjiepmhblaaa.V4
open Go.RowKit
set_option linter.unusedVariables false

/-- A value's bytes. -/
def encV (k n : Int) (s : List UInt8) : List UInt8 :=
  UInt8.ofNat k.toNat :: (if k = 1 then num (zig n) else if k = 2 then [UInt8.ofNat n.toNat] else if k = 3 then num s.length ++ s else [])

def MadeL (w : World) (l : List UInt8) (e : Ending) (w' : World) : Prop := ∃ v, e = .returned (.tuple #[v, .int .i64 0]) ∧ Own w' w.heap.size v l ∧ Below w.heap.size w w'

set_option maxHeartbeats 2000000 in
set_option maxRecDepth 100000 in
theorem lay_int (A : Option Addr) (cap : Nat) (l : List UInt8) (n : Int) (w : World) (hb : Byt w A l) (hA : A = none → cap = 0) (hl : l.length + 10 ≤ 140737488355328) (h0 : -9223372036854775808 ≤ n) (h1 : n ≤ 9223372036854775807) :
    Calls Try.prog 44 #[.slice A l.length cap, .agg #[.int .i64 1, .int .i64 n, .string ⟨#[]⟩]] w (MadeL w (l ++ encV 1 n [])) := by
  have hr := fun w => right_any 1 n ⟨#[]⟩ w (by unfold maxLen; decide)
  have e : rightB 1 n (ByteArray.toList ⟨#[]⟩) = true := by rw [ByteArray.toList_eq]; rfl
  rw [e] at hr
  have hnl := num_len (zig n)
  have hsg := fun w => signed_any none 0 n [] w (Byt.empty _ _) (fun _ => rfl) (by simp) h0 h1
  clear e
  go_enter Try.func44, Try.ntmps44
  go_wp2_with (first | (go_at_call 52; refine (hr _).mono ?_; rintro e w3 ⟨rfl, hb3⟩; obtain ⟨p1, p3⟩ := one_kept [.int .i64 1, .int .i64 n, .string ⟨#[]⟩] hb3; have a0 : w3.cell? ⟨w.heap.size, 0, none⟩ = some (.int .i64 1) := p1.at_ 0; have a2 : w3.cell? ⟨w.heap.size, 2, none⟩ = some (.string ⟨#[]⟩) := p1.at_ 2; have hlt := lt_of_block p1; clear hr hb3) | (at_make; refine mk_row w3 rfl (.tmp 11) (.tmp 18) rfl _ _ l.length (l.length + 1 + 0) rfl rfl rfl (by omega) (by omega) (by omega) (Below.refl _ _) ?_; intro w5 hown5 hbel5; have b0 : w5.cell? ⟨w.heap.size, 0, none⟩ = some (.int .i64 1) := (p1.below hbel5 hlt).at_ 0; clear a0 a2) | (refine cp_byt (o := ⟨some 22, _, _, _, _, _⟩) w3 rfl (.tmp 20) (.tmp 21) rfl _ (List.replicate l.length 0) l rfl hown5 hbel5 A l.length cap rfl rfl ((hb.keep p3).keep hbel5) (by simp) ?_; intro w6 hown6 hbel6; have c0 : w6.cell? ⟨w.heap.size, 0, none⟩ = some (.int .i64 1) := (p1.below hbel6 hlt).at_ 0; have hown6l : Own w6 _ _ l := (by simpa using hown6); clear b0 hown5 hbel5) | (at_builtin; refine app_byt (o := ⟨some 28, _, _, _, _, _⟩) w3 rfl (.tmp 23) (.tmp 27) rfl _ l rfl (hown6l.alloc _) (hbel6.alloc hbel6.size _) (some ⟨w6.heap.size, 0, none⟩) 1 1 [1] rfl rfl (byt_one w6 1 _ rfl) (by simp) (by simp; omega) ?_; intro v7 w7 hown7 hbel7 _; have d0 : w7.cell? ⟨w.heap.size, 0, none⟩ = some (.int .i64 1) := (p1.below hbel7 hlt).at_ 0; have d1 : w7.cell? ⟨w.heap.size, 1, none⟩ = some (.int .i64 n) := (p1.below hbel7 hlt).at_ 1; have d2 : w7.cell? ⟨w.heap.size, 2, none⟩ = some (.string ⟨#[]⟩) := (p1.below hbel7 hlt).at_ 2; have hform7 := hown7.form; clear c0 hown6 hown6l hbel6) | (go_at_call 55; refine (hsg _).mono ?_; rintro e w8 ⟨v8, rfl, hown8, hbel8⟩; obtain ⟨A8, c8, rfl, hbyt8, hn8, _, _⟩ := hown8.form; have hown9 := hown7.below hbel8; have hbel9 := hbel7.trans (hbel8.mono hbel7.size)) | (at_builtin; refine app_byt (o := ⟨some 37, _, _, _, _, _⟩) w3 rfl (.tmp 33) (.tmp 36) rfl _ (l ++ [1]) rfl hown9 hbel9 A8 _ c8 ([] ++ num (zig n)) rfl rfl hbyt8 hn8 (by simp; omega) ?_; intro v10 w10 hown10 hbel10 _))
  go_ret2
  have e1 : l ++ [1] ++ ([] ++ num (zig n)) = l ++ encV 1 n [] := by simp [encV]
  rw [e1] at hown10
  exact ⟨_, rfl, hown10.base p3.size, p3.trans (hbel10.mono p3.size)⟩
end Go.Proofs.Ytabnjiepmhblaaa.V4
