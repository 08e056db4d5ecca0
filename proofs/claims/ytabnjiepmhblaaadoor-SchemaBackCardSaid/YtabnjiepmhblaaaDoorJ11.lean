/- Joined texts: The walk of value.Lay (14). The walk of value.Lay (14), on values of the other kinds, and on none. The walk of the document's Lay (15). The walk of the document's Lay (15). -/
import Derived.Test.YtabnjiepmhblaaaDoorJ10
import Derived.Test.YtabnjiepmhblaaaDoorJ4
import Derived.Outline
import Derived.Test.YtabnjiepmhblaaaDoorJ3
/-! The walk of value.Lay (14). -/
namespace Go.Proofs.YtabnjiepmhblaaaDoor.V4
open Go.RowKit
set_option linter.unusedVariables false

/-- A value's bytes. -/
def encV (k n : Int) (s : List UInt8) : List UInt8 :=
  UInt8.ofNat k.toNat :: (if k = 1 then num (zig n) else if k = 2 then [UInt8.ofNat n.toNat] else if k = 3 then num s.length ++ s else [])

def MadeL (w : World) (l : List UInt8) (e : Ending) (w' : World) : Prop := ∃ v, e = .returned (.tuple #[v, .int .i64 0]) ∧ Own w' w.heap.size v l ∧ Below w.heap.size w w'

set_option maxHeartbeats 2000000 in
set_option maxRecDepth 100000 in
theorem lay_int (A : Option Addr) (cap : Nat) (l : List UInt8) (n : Int) (w : World) (hb : Byt w A l) (hA : A = none → cap = 0) (hl : l.length + 10 ≤ 140737488355328) (h0 : -9223372036854775808 ≤ n) (h1 : n ≤ 9223372036854775807) :
    Calls Tryd.prog 33 #[.slice A l.length cap, .agg #[.int .i64 1, .int .i64 n, .string ⟨#[]⟩]] w (MadeL w (l ++ encV 1 n [])) := by
  have hr := fun w => right_any 1 n ⟨#[]⟩ w (by unfold maxLen; decide)
  have e : rightB 1 n (ByteArray.toList ⟨#[]⟩) = true := by rw [ByteArray.toList_eq]; rfl
  rw [e] at hr
  have hnl := num_len (zig n)
  have hsg := fun w => signed_any none 0 n [] w (Byt.empty _ _) (fun _ => rfl) (by simp) h0 h1
  clear e
  go_enter Tryd.func33, Tryd.ntmps33
  go_wp2_with (first | (go_at_call 47; refine (hr _).mono ?_; rintro e w3 ⟨rfl, hb3⟩; obtain ⟨p1, p3⟩ := one_kept [.int .i64 1, .int .i64 n, .string ⟨#[]⟩] hb3; have a0 : w3.cell? ⟨w.heap.size, 0, none⟩ = some (.int .i64 1) := p1.at_ 0; have a2 : w3.cell? ⟨w.heap.size, 2, none⟩ = some (.string ⟨#[]⟩) := p1.at_ 2; have hlt := lt_of_block p1; clear hr hb3) | (at_make; refine mk_row w3 rfl (.tmp 11) (.tmp 18) rfl _ _ l.length (l.length + 1 + 0) rfl rfl rfl (by omega) (by omega) (by omega) (Below.refl _ _) ?_; intro w5 hown5 hbel5; have b0 : w5.cell? ⟨w.heap.size, 0, none⟩ = some (.int .i64 1) := (p1.below hbel5 hlt).at_ 0; clear a0 a2) | (refine cp_byt (o := ⟨some 22, _, _, _, _, _⟩) w3 rfl (.tmp 20) (.tmp 21) rfl _ (List.replicate l.length 0) l rfl hown5 hbel5 A l.length cap rfl rfl ((hb.keep p3).keep hbel5) (by simp) ?_; intro w6 hown6 hbel6; have c0 : w6.cell? ⟨w.heap.size, 0, none⟩ = some (.int .i64 1) := (p1.below hbel6 hlt).at_ 0; have hown6l : Own w6 _ _ l := (by simpa using hown6); clear b0 hown5 hbel5) | (at_builtin; refine app_byt (o := ⟨some 28, _, _, _, _, _⟩) w3 rfl (.tmp 23) (.tmp 27) rfl _ l rfl (hown6l.alloc _) (hbel6.alloc hbel6.size _) (some ⟨w6.heap.size, 0, none⟩) 1 1 [1] rfl rfl (byt_one w6 1 _ rfl) (by simp) (by simp; omega) ?_; intro v7 w7 hown7 hbel7 _; have d0 : w7.cell? ⟨w.heap.size, 0, none⟩ = some (.int .i64 1) := (p1.below hbel7 hlt).at_ 0; have d1 : w7.cell? ⟨w.heap.size, 1, none⟩ = some (.int .i64 n) := (p1.below hbel7 hlt).at_ 1; have d2 : w7.cell? ⟨w.heap.size, 2, none⟩ = some (.string ⟨#[]⟩) := (p1.below hbel7 hlt).at_ 2; have hform7 := hown7.form; clear c0 hown6 hown6l hbel6) | (go_at_call 48; refine (hsg _).mono ?_; rintro e w8 ⟨v8, rfl, hown8, hbel8⟩; obtain ⟨A8, c8, rfl, hbyt8, hn8, _, _⟩ := hown8.form; have hown9 := hown7.below hbel8; have hbel9 := hbel7.trans (hbel8.mono hbel7.size)) | (at_builtin; refine app_byt (o := ⟨some 37, _, _, _, _, _⟩) w3 rfl (.tmp 33) (.tmp 36) rfl _ (l ++ [1]) rfl hown9 hbel9 A8 _ c8 ([] ++ num (zig n)) rfl rfl hbyt8 hn8 (by simp; omega) ?_; intro v10 w10 hown10 hbel10 _))
  go_ret2
  have e1 : l ++ [1] ++ ([] ++ num (zig n)) = l ++ encV 1 n [] := by simp [encV]
  rw [e1] at hown10
  exact ⟨_, rfl, hown10.base p3.size, p3.trans (hbel10.mono p3.size)⟩
end Go.Proofs.YtabnjiepmhblaaaDoor.V4

/-! The walk of value.Lay (14), on values of the other kinds, and on none. -/
namespace Go.Proofs.YtabnjiepmhblaaaDoor.V4
open Go.RowKit
set_option linter.unusedVariables false

set_option maxHeartbeats 2000000 in
set_option maxRecDepth 100000 in
theorem lay_null (A : Option Addr) (cap : Nat) (l : List UInt8) (w : World) (hb : Byt w A l) (hA : A = none → cap = 0) (hl : l.length + 2000 ≤ 140737488355328) :
    Calls Tryd.prog 33 #[.slice A l.length cap, .agg #[.int .i64 0, .int .i64 0, .string ⟨#[]⟩]] w (MadeL w (l ++ encV 0 0 (⟨#[]⟩ : ByteArray).data.toList)) := by
  have hr := fun w => right_any 0 0 ⟨#[]⟩ w (by unfold maxLen; decide)
  have e : rightB 0 0 (ByteArray.toList ⟨#[]⟩) = true := by rw [ByteArray.toList_eq]; rfl
  rw [e] at hr
  clear e
  go_enter Tryd.func33, Tryd.ntmps33
  go_wp2_with (first | (go_at_call 47; refine (hr _).mono ?_; rintro e w3 ⟨rfl, hb3⟩; obtain ⟨p1, p3⟩ := one_kept [.int .i64 0, .int .i64 0, .string ⟨#[]⟩] hb3; have a0 : w3.cell? ⟨w.heap.size, 0, none⟩ = some (.int .i64 0) := p1.at_ 0; have a2 : w3.cell? ⟨w.heap.size, 2, none⟩ = some (.string ⟨#[]⟩) := p1.at_ 2; have hlt := lt_of_block p1; clear hr hb3) | (at_make; refine mk_row w3 rfl (.tmp 11) (.tmp 18) rfl _ _ l.length (l.length + 1 + 0) rfl rfl rfl (by omega) (by omega) (by omega) (Below.refl _ _) ?_; intro w5 hown5 hbel5; have b0 : w5.cell? ⟨w.heap.size, 0, none⟩ = some (.int .i64 0) := (p1.below hbel5 hlt).at_ 0; clear a0 a2) | (refine cp_byt (o := ⟨some 22, _, _, _, _, _⟩) w3 rfl (.tmp 20) (.tmp 21) rfl _ (List.replicate l.length 0) l rfl hown5 hbel5 A l.length cap rfl rfl ((hb.keep p3).keep hbel5) (by simp) ?_; intro w6 hown6 hbel6; have c0 : w6.cell? ⟨w.heap.size, 0, none⟩ = some (.int .i64 0) := (p1.below hbel6 hlt).at_ 0; have hown6l : Own w6 _ _ l := (by simpa using hown6); clear b0 hown5 hbel5) | (at_builtin; refine app_byt (o := ⟨some 28, _, _, _, _, _⟩) w3 rfl (.tmp 23) (.tmp 27) rfl _ l rfl (hown6l.alloc _) (hbel6.alloc hbel6.size _) (some ⟨w6.heap.size, 0, none⟩) 1 1 [0] rfl rfl (byt_one w6 0 _ rfl) (by simp) (by simp; omega) ?_; intro v7 w7 hown7 hbel7 _; have d0 : w7.cell? ⟨w.heap.size, 0, none⟩ = some (.int .i64 0) := (p1.below hbel7 hlt).at_ 0; have d1 : w7.cell? ⟨w.heap.size, 1, none⟩ = some (.int .i64 0) := (p1.below hbel7 hlt).at_ 1; have d2 : w7.cell? ⟨w.heap.size, 2, none⟩ = some (.string ⟨#[]⟩) := (p1.below hbel7 hlt).at_ 2; have hform7 := hown7.form; clear c0 hown6 hown6l hbel6))
  go_ret2
  have e1 : l ++ [0] = l ++ encV 0 0 (⟨#[]⟩ : ByteArray).data.toList := by simp [encV]
  rw [e1] at hown7
  exact ⟨_, rfl, hown7.base p3.size, p3.trans (hbel7.mono p3.size)⟩

set_option maxHeartbeats 2000000 in
set_option maxRecDepth 100000 in
theorem lay_bool0 (A : Option Addr) (cap : Nat) (l : List UInt8) (w : World) (hb : Byt w A l) (hA : A = none → cap = 0) (hl : l.length + 2000 ≤ 140737488355328) :
    Calls Tryd.prog 33 #[.slice A l.length cap, .agg #[.int .i64 2, .int .i64 0, .string ⟨#[]⟩]] w (MadeL w (l ++ encV 2 0 (⟨#[]⟩ : ByteArray).data.toList)) := by
  have hr := fun w => right_any 2 0 ⟨#[]⟩ w (by unfold maxLen; decide)
  have e : rightB 2 0 (ByteArray.toList ⟨#[]⟩) = true := by rw [ByteArray.toList_eq]; rfl
  rw [e] at hr
  clear e
  go_enter Tryd.func33, Tryd.ntmps33
  go_wp2_with (first | (go_at_call 47; refine (hr _).mono ?_; rintro e w3 ⟨rfl, hb3⟩; obtain ⟨p1, p3⟩ := one_kept [.int .i64 2, .int .i64 0, .string ⟨#[]⟩] hb3; have a0 : w3.cell? ⟨w.heap.size, 0, none⟩ = some (.int .i64 2) := p1.at_ 0; have a2 : w3.cell? ⟨w.heap.size, 2, none⟩ = some (.string ⟨#[]⟩) := p1.at_ 2; have hlt := lt_of_block p1; clear hr hb3) | (at_make; refine mk_row w3 rfl (.tmp 11) (.tmp 18) rfl _ _ l.length (l.length + 1 + 0) rfl rfl rfl (by omega) (by omega) (by omega) (Below.refl _ _) ?_; intro w5 hown5 hbel5; have b0 : w5.cell? ⟨w.heap.size, 0, none⟩ = some (.int .i64 2) := (p1.below hbel5 hlt).at_ 0; clear a0 a2) | (refine cp_byt (o := ⟨some 22, _, _, _, _, _⟩) w3 rfl (.tmp 20) (.tmp 21) rfl _ (List.replicate l.length 0) l rfl hown5 hbel5 A l.length cap rfl rfl ((hb.keep p3).keep hbel5) (by simp) ?_; intro w6 hown6 hbel6; have c0 : w6.cell? ⟨w.heap.size, 0, none⟩ = some (.int .i64 2) := (p1.below hbel6 hlt).at_ 0; have hown6l : Own w6 _ _ l := (by simpa using hown6); clear b0 hown5 hbel5) | (at_builtin; refine app_byt (o := ⟨some 28, _, _, _, _, _⟩) w3 rfl (.tmp 23) (.tmp 27) rfl _ l rfl (hown6l.alloc _) (hbel6.alloc hbel6.size _) (some ⟨w6.heap.size, 0, none⟩) 1 1 [2] rfl rfl (byt_one w6 2 _ rfl) (by simp) (by simp; omega) ?_; intro v7 w7 hown7 hbel7 _; have d0 : w7.cell? ⟨w.heap.size, 0, none⟩ = some (.int .i64 2) := (p1.below hbel7 hlt).at_ 0; have d1 : w7.cell? ⟨w.heap.size, 1, none⟩ = some (.int .i64 0) := (p1.below hbel7 hlt).at_ 1; have d2 : w7.cell? ⟨w.heap.size, 2, none⟩ = some (.string ⟨#[]⟩) := (p1.below hbel7 hlt).at_ 2; have hform7 := hown7.form; clear c0 hown6 hown6l hbel6) | (at_builtin; refine app_byt (o := ⟨some 45, _, _, _, _, _⟩) w3 rfl (.tmp 40) (.tmp 44) rfl _ (l ++ [2]) rfl (hown7.alloc _) (hbel7.alloc hbel7.size _) (some ⟨w7.heap.size, 0, none⟩) 1 1 [0] rfl rfl (byt_one w7 0 _ rfl) (by simp) (by simp; omega) ?_; intro v8 w8 hown8 hbel8 _))
  go_ret2
  have e1 : l ++ [2] ++ [0] = l ++ encV 2 0 (⟨#[]⟩ : ByteArray).data.toList := by simp [encV]
  rw [e1] at hown8
  exact ⟨_, rfl, hown8.base p3.size, p3.trans (hbel8.mono p3.size)⟩

set_option maxHeartbeats 2000000 in
set_option maxRecDepth 100000 in
theorem lay_bool1 (A : Option Addr) (cap : Nat) (l : List UInt8) (w : World) (hb : Byt w A l) (hA : A = none → cap = 0) (hl : l.length + 2000 ≤ 140737488355328) :
    Calls Tryd.prog 33 #[.slice A l.length cap, .agg #[.int .i64 2, .int .i64 1, .string ⟨#[]⟩]] w (MadeL w (l ++ encV 2 1 (⟨#[]⟩ : ByteArray).data.toList)) := by
  have hr := fun w => right_any 2 1 ⟨#[]⟩ w (by unfold maxLen; decide)
  have e : rightB 2 1 (ByteArray.toList ⟨#[]⟩) = true := by rw [ByteArray.toList_eq]; rfl
  rw [e] at hr
  clear e
  go_enter Tryd.func33, Tryd.ntmps33
  go_wp2_with (first | (go_at_call 47; refine (hr _).mono ?_; rintro e w3 ⟨rfl, hb3⟩; obtain ⟨p1, p3⟩ := one_kept [.int .i64 2, .int .i64 1, .string ⟨#[]⟩] hb3; have a0 : w3.cell? ⟨w.heap.size, 0, none⟩ = some (.int .i64 2) := p1.at_ 0; have a2 : w3.cell? ⟨w.heap.size, 2, none⟩ = some (.string ⟨#[]⟩) := p1.at_ 2; have hlt := lt_of_block p1; clear hr hb3) | (at_make; refine mk_row w3 rfl (.tmp 11) (.tmp 18) rfl _ _ l.length (l.length + 1 + 0) rfl rfl rfl (by omega) (by omega) (by omega) (Below.refl _ _) ?_; intro w5 hown5 hbel5; have b0 : w5.cell? ⟨w.heap.size, 0, none⟩ = some (.int .i64 2) := (p1.below hbel5 hlt).at_ 0; clear a0 a2) | (refine cp_byt (o := ⟨some 22, _, _, _, _, _⟩) w3 rfl (.tmp 20) (.tmp 21) rfl _ (List.replicate l.length 0) l rfl hown5 hbel5 A l.length cap rfl rfl ((hb.keep p3).keep hbel5) (by simp) ?_; intro w6 hown6 hbel6; have c0 : w6.cell? ⟨w.heap.size, 0, none⟩ = some (.int .i64 2) := (p1.below hbel6 hlt).at_ 0; have hown6l : Own w6 _ _ l := (by simpa using hown6); clear b0 hown5 hbel5) | (at_builtin; refine app_byt (o := ⟨some 28, _, _, _, _, _⟩) w3 rfl (.tmp 23) (.tmp 27) rfl _ l rfl (hown6l.alloc _) (hbel6.alloc hbel6.size _) (some ⟨w6.heap.size, 0, none⟩) 1 1 [2] rfl rfl (byt_one w6 2 _ rfl) (by simp) (by simp; omega) ?_; intro v7 w7 hown7 hbel7 _; have d0 : w7.cell? ⟨w.heap.size, 0, none⟩ = some (.int .i64 2) := (p1.below hbel7 hlt).at_ 0; have d1 : w7.cell? ⟨w.heap.size, 1, none⟩ = some (.int .i64 1) := (p1.below hbel7 hlt).at_ 1; have d2 : w7.cell? ⟨w.heap.size, 2, none⟩ = some (.string ⟨#[]⟩) := (p1.below hbel7 hlt).at_ 2; have hform7 := hown7.form; clear c0 hown6 hown6l hbel6) | (at_builtin; refine app_byt (o := ⟨some 45, _, _, _, _, _⟩) w3 rfl (.tmp 40) (.tmp 44) rfl _ (l ++ [2]) rfl (hown7.alloc _) (hbel7.alloc hbel7.size _) (some ⟨w7.heap.size, 0, none⟩) 1 1 [1] rfl rfl (byt_one w7 1 _ rfl) (by simp) (by simp; omega) ?_; intro v8 w8 hown8 hbel8 _))
  go_ret2
  have e1 : l ++ [2] ++ [1] = l ++ encV 2 1 (⟨#[]⟩ : ByteArray).data.toList := by simp [encV]
  rw [e1] at hown8
  exact ⟨_, rfl, hown8.base p3.size, p3.trans (hbel8.mono p3.size)⟩

set_option maxHeartbeats 2000000 in
set_option maxRecDepth 100000 in
theorem lay_text (A : Option Addr) (cap : Nat) (l : List UInt8) (s : ByteArray) (hs : s.size ≤ 1024) (w : World) (hb : Byt w A l) (hA : A = none → cap = 0) (hl : l.length + 2000 ≤ 140737488355328) :
    Calls Tryd.prog 33 #[.slice A l.length cap, .agg #[.int .i64 3, .int .i64 0, .string s]] w (MadeL w (l ++ encV 3 0 (s : ByteArray).data.toList)) := by
  have ht := fun (A7 : Option Addr) (c7 : Nat) (w7 : World) (hb7 : Byt w7 A7 (l ++ [3])) (hA7 : A7 = none → c7 = 0) => text_any A7 c7 s (l ++ [3]) w7 (by omega) hb7 hA7 (by simp; omega)
  have hsn : (s.size : Int) ≤ 1024 := by omega
  have hr := fun w => right_any 3 0 s w (by unfold maxLen; omega)
  have e : rightB 3 0 (ByteArray.toList s) = true := by simp [rightB, tol_len]; omega
  rw [e] at hr
  clear e
  go_enter Tryd.func33, Tryd.ntmps33
  go_wp2_with (first | (go_at_call 47; refine (hr _).mono ?_; rintro e w3 ⟨rfl, hb3⟩; obtain ⟨p1, p3⟩ := one_kept [.int .i64 3, .int .i64 0, .string s] hb3; have a0 : w3.cell? ⟨w.heap.size, 0, none⟩ = some (.int .i64 3) := p1.at_ 0; have a2 : w3.cell? ⟨w.heap.size, 2, none⟩ = some (.string s) := p1.at_ 2; have hlt := lt_of_block p1; clear hr hb3) | (at_make; refine mk_row w3 rfl (.tmp 11) (.tmp 18) rfl _ _ l.length (l.length + 1 + s.size) rfl rfl rfl (by omega) (by omega) (by omega) (Below.refl _ _) ?_; intro w5 hown5 hbel5; have b0 : w5.cell? ⟨w.heap.size, 0, none⟩ = some (.int .i64 3) := (p1.below hbel5 hlt).at_ 0; clear a0 a2) | (refine cp_byt (o := ⟨some 22, _, _, _, _, _⟩) w3 rfl (.tmp 20) (.tmp 21) rfl _ (List.replicate l.length 0) l rfl hown5 hbel5 A l.length cap rfl rfl ((hb.keep p3).keep hbel5) (by simp) ?_; intro w6 hown6 hbel6; have c0 : w6.cell? ⟨w.heap.size, 0, none⟩ = some (.int .i64 3) := (p1.below hbel6 hlt).at_ 0; have hown6l : Own w6 _ _ l := (by simpa using hown6); clear b0 hown5 hbel5) | (at_builtin; refine app_byt (o := ⟨some 28, _, _, _, _, _⟩) w3 rfl (.tmp 23) (.tmp 27) rfl _ l rfl (hown6l.alloc _) (hbel6.alloc hbel6.size _) (some ⟨w6.heap.size, 0, none⟩) 1 1 [3] rfl rfl (byt_one w6 3 _ rfl) (by simp) (by simp; omega) ?_; intro v7 w7 hown7 hbel7 _; have d0 : w7.cell? ⟨w.heap.size, 0, none⟩ = some (.int .i64 3) := (p1.below hbel7 hlt).at_ 0; have d1 : w7.cell? ⟨w.heap.size, 1, none⟩ = some (.int .i64 0) := (p1.below hbel7 hlt).at_ 1; have d2 : w7.cell? ⟨w.heap.size, 2, none⟩ = some (.string s) := (p1.below hbel7 hlt).at_ 2; have hform7 := hown7.form; clear c0 hown6 hown6l hbel6) | (go_at_call 26; obtain ⟨A7, c7, rfl, hbyt7, hn7, _, _⟩ := hform7; refine (ht _ _ _ hbyt7 hn7).mono ?_; rintro e w8 ⟨v8, rfl, hown8, hbel8⟩))
  go_ret2
  have e1 : l ++ [3] ++ num s.size ++ s.data.toList = l ++ encV 3 0 s.data.toList := by simp [encV]
  rw [e1] at hown8
  have hb8 := hbel7.trans (hbel8.mono hbel7.size)
  exact ⟨_, rfl, (hown8.base hbel7.size).base p3.size, p3.trans (hb8.mono p3.size)⟩

def NoLay (w : World) (e : Ending) (w' : World) : Prop := e = .returned (.tuple #[.slice none 0 0, .int .i64 2]) ∧ Below w.heap.size w w'
set_option maxHeartbeats 2000000 in
set_option maxRecDepth 100000 in
theorem lay_no (A : Option Addr) (cap : Nat) (l : List UInt8) (k n : Int) (s : ByteArray) (w : World) (hs : s.size ≤ maxLen) (hr0 : rightB k n s.toList = false) :
    Calls Tryd.prog 33 #[.slice A l.length cap, .agg #[.int .i64 k, .int .i64 n, .string s]] w (NoLay w) := by
  have hr := fun w => right_any k n s w hs
  rw [hr0] at hr
  clear hr0
  go_enter Tryd.func33, Tryd.ntmps33
  go_wp2_with (go_at_call 47; refine (hr _).mono ?_; rintro e w3 ⟨rfl, hb3⟩; obtain ⟨p1, p3⟩ := one_kept [.int .i64 k, .int .i64 n, .string s] hb3)
  go_ret2
  exact ⟨rfl, p3⟩
end Go.Proofs.YtabnjiepmhblaaaDoor.V4

/-! The walk of the document's Lay (15). -/
namespace Go.Proofs.YtabnjiepmhblaaaDoor.V4
open Go.RowKit
set_option linter.unusedVariables false

theorem byt_grown {w w' : World} {g : Nat} {l : List UInt8} {b : Option Nat} (h : Byt w (some ⟨g, 0, none⟩) l) (hg : w.grownBy w' b) (hne : ¬ b = some g) : Byt w' (some ⟨g, 0, none⟩) l := by
  intro k hk
  obtain ⟨b', o', e, hc⟩ := h k hk
  simp only [Option.some.injEq, Addr.mk.injEq, and_true] at e
  obtain ⟨rfl, rfl⟩ := e
  refine ⟨g, 0, rfl, ?_⟩
  have hlt := World.block_lt_of_cell? w _ hc
  have hb := hg.block g hlt (fun e => hne e.symm)
  simp only [World.cell?] at hc ⊢
  rw [hb]
  exact hc


end Go.Proofs.YtabnjiepmhblaaaDoor.V4

/-! The walk of the document's Lay (15). -/
namespace Go.Proofs.YtabnjiepmhblaaaDoor.V4
open Go.RowKit
set_option linter.unusedVariables false



end Go.Proofs.YtabnjiepmhblaaaDoor.V4
