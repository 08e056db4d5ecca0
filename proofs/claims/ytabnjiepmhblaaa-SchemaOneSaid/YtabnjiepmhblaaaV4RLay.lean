/- The walk of the document's Lay (15). -/
import Derived.Test.YtabnjiepmhblaaaV4LayB
import Derived.Test.YtabnjiepmhblaaaRegB
namespace Go.Proofs.Ytabnjiepmhblaaa.V4
open Go.RowKit
set_option linter.unusedVariables false

theorem byt_grown {w w' : World} {g : Nat} {l : List UInt8} {b : Option Nat} (h : Byt w (some ⟨g, 0, none⟩) l) (hg : w.grownBy w' b) (hne : ¬ b = some g) : Byt w' (some ⟨g, 0, none⟩) l := by
  intro k hk
  obtain ⟨b', o', e, hc⟩ := h k hk
  simp only [Option.some.injEq, Addr.mk.injEq, and_true] at e
  obtain ⟨rfl, rfl⟩ := e
  refine ⟨g, 0, rfl, ?_⟩
  have hlt := World.block_lt_of_cell? w _ hc
  have hb := hg.block g hlt (fun e => hne e.symm)
  simp only [World.cell?] at hc ⊢
  rw [hb]
  exact hc


set_option maxHeartbeats 4000000 in
set_option maxRecDepth 100000 in
theorem reflay_null (A : Option Addr) (cap : Nat) (l : List UInt8) (w : World) (hb : Byt w A l) (hA : A = none → cap = 0) (hl : l.length + 2000 ≤ 140737488355328) :
    Calls Try.prog 45 #[.slice A l.length cap, .agg #[.int .i64 0, .int .i64 0, .string ⟨#[]⟩]] w (MadeL w (l ++ encV 0 0 (⟨#[]⟩ : ByteArray).data.toList)) := by
  have hr := fun w => refright_any 0 0 ⟨#[]⟩ w (by unfold maxLen; decide)
  have e : rightB 0 0 (ByteArray.toList ⟨#[]⟩) = true := by rw [ByteArray.toList_eq]; rfl
  rw [e] at hr
  clear e
  go_enter Try.func45, Try.ntmps45
  go_wp2_with (go_at_call 31; refine (hr _).mono ?_; rintro e w3 ⟨rfl, hb3⟩; obtain ⟨p1, p3⟩ := one_kept [.int .i64 0, .int .i64 0, .string ⟨#[]⟩] hb3; clear hb3 hr)
  have hlt := lt_of_block p1
  have c0 : ∀ W, Below w3.heap.size w3 W → W.cell? ⟨w.heap.size, 0, none⟩ = some (.int .i64 0) := fun W hW => (p1.below hW hlt).at_ 0
  have c1 : ∀ W, Below w3.heap.size w3 W → W.cell? ⟨w.heap.size, 1, none⟩ = some (.int .i64 0) := fun W hW => (p1.below hW hlt).at_ 1
  have c2 : ∀ W, Below w3.heap.size w3 W → W.cell? ⟨w.heap.size, 2, none⟩ = some (.string ⟨#[]⟩) := fun W hW => (p1.below hW hlt).at_ 2
  have C0 := Lib.hid c0
  have C1 := Lib.hid c1
  have C2 := Lib.hid c2
  have hb3 := hb.keep p3
  have HP := Lib.hid p3
  clear c0 c1 c2 hb p1 p3
  have hS0 : Below w3.heap.size w3 w3.drew := (Below.refl _ _).drew
  refine wpS_start (fun W => Below w3.heap.size w3 W) 12 (by kernel_rfl) rfl (fun R HR => ?_)
  refine wpS_take HR (i := 0) rfl (by decide +kernel) (by decide +kernel) (by decide +kernel) (fun _ _ _ h => h) (by rfl) hS0 (fun W hW => by rfl) ?_
  go_simp
  refine wpS_take HR (i := 1) (v := .int .i64 l.length) rfl (by decide +kernel) (by decide +kernel) (by decide +kernel) (fun _ _ _ h => h) (by rfl) hS0 (fun W hW => by go_simp) ?_
  go_simp
  refine wpS_take HR (i := 2) (v := .int .i64 ((l.length : Int) + 1)) rfl (by decide +kernel) (by decide +kernel) (by decide +kernel) (fun _ _ _ h => h) (by rfl) hS0 (fun W hW => by go_simp; rw [IntKind.wrap_i64]; omega) ?_
  go_simp
  refine wpS_take HR (i := 4) rfl (by decide +kernel) (by decide +kernel) (by decide +kernel) (fun _ _ _ h => h) (by rfl) hS0 (fun W hW => by rfl) ?_
  go_simp
  refine wpS_take HR (i := 6) rfl (by decide +kernel) (by decide +kernel) (by decide +kernel) (fun _ _ _ h => h) (by rfl) hS0 (fun W hW => by rfl) ?_
  go_simp
  refine wpS_take HR (i := 7) (v := .int .i64 0) rfl (by decide +kernel) (by decide +kernel) (by decide +kernel) (fun _ _ _ h => h) (by rfl) hS0 (fun W hW => by have q := C0.out W hW; go_simp) ?_
  go_simp
  refine wpS_take HR (i := 8) (v := .int .u8 0) rfl (by decide +kernel) (by decide +kernel) (by decide +kernel) (fun _ _ _ h => h) (by rfl) hS0 (fun W hW => by go_simp; rfl) ?_
  go_simp
  refine wpS_two HR (i := 3) (k := 9) rfl rfl (by decide +kernel) rfl rfl ?_ ?_
  ·
    intro K hK; refine mk_byt w3 rfl (.const (.int .i64 0)) (.tmp 14) rfl _ (l.length + 1) rfl rfl (by omega) (by omega) hS0 ?_; intro w5 hown5 hbel5; refine wpList_nil (hK _ _ hbel5 ?_); clear hK K
    go_simp
    refine wpS_two HR (i := 5) (k := 9) rfl rfl (by decide +kernel) rfl rfl ?_ ?_
    ·
      intro K hK; refine app_byt w3 rfl (.tmp 15) (.tmp 16) rfl _ [] rfl hown5 hbel5 A l.length cap l rfl rfl (hb3.keep hbel5) hA (by simp; omega) ?_; intro v6 w6 hown6 hb6 hg6; have hbel6 : Below w3.heap.size w3 w6 := hb6; refine wpList_nil (hK _ _ hbel6 ?_); clear hK K
      go_simp
      refine wpS_one HR (i := 9) rfl (by decide +kernel) rfl ?_
      intro K hK; refine wpList_plain rfl (fun K' hK' => ?_); go_simp; refine hK' _ _ (wpList_nil (hK _ _ (hbel6.alloc hbel6.size _) ?_)); clear hK K hK' K'
      have hbelb := hbel6.alloc hbel6.size (.cells #[.int .u8 0] 5)
      refine wpS_one HR (i := 10) rfl (by decide +kernel) rfl ?_
      intro K hK; refine app_byt w3 rfl (.tmp 17) (.tmp 21) rfl _ ([] ++ l) rfl (hown6.alloc _) hbelb (some ⟨w6.heap.size, 0, none⟩) 1 1 [0] rfl rfl (byt_one w6 0 _ rfl) (by simp) (by simp; omega) ?_; intro v7 w7 hown7 hbel7 _; refine wpList_nil (hK _ _ hbel7 ?_); clear hK K
      go_simp
      refine wpS_take HR (i := 11) rfl (by decide +kernel) (by decide +kernel) (by decide +kernel) (fun _ _ _ h => h) (by rfl) hbel7 (fun W hW => by rfl) ?_
      go_simp
      refine wpS_done HR (by decide +kernel) ?_
      have d0 := C0.out w7 hbel7
      go_wp2_with fail
      go_ret2
      have e1 : [] ++ l ++ [0] = l ++ encV 0 0 (⟨#[]⟩ : ByteArray).data.toList := by simp [encV]
      rw [e1] at hown7
      exact ⟨_, rfl, hown7.base HP.out.size, HP.out.trans (hbel7.mono HP.out.size)⟩
    ·
      intro K hK; refine wpList_plain rfl (fun K' hK' => ?_); go_simp; refine hK' _ _ (wpList_nil (hK _ _ (hbel5.alloc hbel5.size _) ?_)); clear hK K hK' K'
      have hbelb := hbel5.alloc hbel5.size (.cells #[.int .u8 0] 5)
      refine wpS_one HR (i := 5) rfl (by decide +kernel) rfl ?_
      intro K hK; refine app_byt w3 rfl (.tmp 15) (.tmp 16) rfl _ [] rfl (hown5.alloc _) hbelb A l.length cap l rfl rfl (hb3.keep hbelb) hA (by simp; omega) ?_; intro v6 w6 hown6 hb6 hg6; have hbel6 : Below w3.heap.size w3 w6 := hb6; refine wpList_nil (hK _ _ hbel6 ?_); clear hK K
      go_simp
      refine wpS_one HR (i := 10) rfl (by decide +kernel) rfl ?_
      intro K hK; refine app_byt w3 rfl (.tmp 17) (.tmp 21) rfl _ ([] ++ l) rfl hown6 hbel6 (some ⟨w5.heap.size, 0, none⟩) 1 1 [0] rfl rfl (byt_grown (byt_one w5 0 _ rfl) hg6.1 (fun e => by have := (World.ownsRow.lt hown5 _ e).2; omega)) (by simp) (by simp; omega) ?_; intro v7 w7 hown7 hbel7 _; refine wpList_nil (hK _ _ hbel7 ?_); clear hK K
      go_simp
      refine wpS_take HR (i := 11) rfl (by decide +kernel) (by decide +kernel) (by decide +kernel) (fun _ _ _ h => h) (by rfl) hbel7 (fun W hW => by rfl) ?_
      go_simp
      refine wpS_done HR (by decide +kernel) ?_
      have d0 := C0.out w7 hbel7
      go_wp2_with fail
      go_ret2
      have e1 : [] ++ l ++ [0] = l ++ encV 0 0 (⟨#[]⟩ : ByteArray).data.toList := by simp [encV]
      rw [e1] at hown7
      exact ⟨_, rfl, hown7.base HP.out.size, HP.out.trans (hbel7.mono HP.out.size)⟩
  ·
    intro K hK; refine wpList_plain rfl (fun K' hK' => ?_); go_simp; refine hK' _ _ (wpList_nil (hK _ _ (hS0.alloc hS0.size _) ?_)); clear hK K hK' K'
    have hbelb := hS0.alloc hS0.size (.cells #[.int .u8 0] 5)
    refine wpS_one HR (i := 3) rfl (by decide +kernel) rfl ?_
    intro K hK; refine mk_byt (w3.drew.alloc (.cells #[.int .u8 0] 5)) rfl (.const (.int .i64 0)) (.tmp 14) rfl _ (l.length + 1) rfl rfl (by omega) (by omega) (Below.refl _ _) ?_; intro w5 hown5 hb5; have hbel5 := hbelb.trans (hb5.mono hbelb.size); refine wpList_nil (hK _ _ hbel5 ?_); clear hK K
    go_simp
    have hown5s : Own w5 (w3.drew.alloc (.cells #[.int .u8 0] 5)).heap.size (.slice (some ⟨w3.heap.size + 1, 0, none⟩) 0 (l.length + 1)) [] := by simpa using hown5
    refine wpS_one HR (i := 5) rfl (by decide +kernel) rfl ?_
    intro K hK; refine app_byt (w3.drew.alloc (.cells #[.int .u8 0] 5)) rfl (.tmp 15) (.tmp 16) rfl _ [] rfl hown5s hb5 A l.length cap l rfl rfl (hb3.keep hbel5) hA (by simp; omega) ?_; intro v6 w6 hown6 hb6 hg6; have hbel6 : Below w3.heap.size w3 w6 := hbelb.trans (hb6.mono hbelb.size); refine wpList_nil (hK _ _ hbel6 ?_); clear hK K
    go_simp
    refine wpS_one HR (i := 10) rfl (by decide +kernel) rfl ?_
    intro K hK; refine app_byt w3 rfl (.tmp 17) (.tmp 21) rfl _ ([] ++ l) rfl (hown6.base hbelb.size) hbel6 (some ⟨w3.drew.heap.size, 0, none⟩) 1 1 [0] rfl rfl ((byt_one w3.drew 0 _ rfl).keep hb6) (by simp) (by simp; omega) ?_; intro v7 w7 hown7 hbel7 _; refine wpList_nil (hK _ _ hbel7 ?_); clear hK K
    go_simp
    refine wpS_take HR (i := 11) rfl (by decide +kernel) (by decide +kernel) (by decide +kernel) (fun _ _ _ h => h) (by rfl) hbel7 (fun W hW => by rfl) ?_
    go_simp
    refine wpS_done HR (by decide +kernel) ?_
    have d0 := C0.out w7 hbel7
    go_wp2_with fail
    go_ret2
    have e1 : [] ++ l ++ [0] = l ++ encV 0 0 (⟨#[]⟩ : ByteArray).data.toList := by simp [encV]
    rw [e1] at hown7
    exact ⟨_, rfl, hown7.base HP.out.size, HP.out.trans (hbel7.mono HP.out.size)⟩

set_option maxHeartbeats 4000000 in
set_option maxRecDepth 100000 in
theorem reflay_bool0 (A : Option Addr) (cap : Nat) (l : List UInt8) (w : World) (hb : Byt w A l) (hA : A = none → cap = 0) (hl : l.length + 2000 ≤ 140737488355328) :
    Calls Try.prog 45 #[.slice A l.length cap, .agg #[.int .i64 2, .int .i64 0, .string ⟨#[]⟩]] w (MadeL w (l ++ encV 2 0 (⟨#[]⟩ : ByteArray).data.toList)) := by
  have hr := fun w => refright_any 2 0 ⟨#[]⟩ w (by unfold maxLen; decide)
  have e : rightB 2 0 (ByteArray.toList ⟨#[]⟩) = true := by rw [ByteArray.toList_eq]; rfl
  rw [e] at hr
  clear e
  go_enter Try.func45, Try.ntmps45
  go_wp2_with (go_at_call 31; refine (hr _).mono ?_; rintro e w3 ⟨rfl, hb3⟩; obtain ⟨p1, p3⟩ := one_kept [.int .i64 2, .int .i64 0, .string ⟨#[]⟩] hb3; clear hb3 hr)
  have hlt := lt_of_block p1
  have c0 : ∀ W, Below w3.heap.size w3 W → W.cell? ⟨w.heap.size, 0, none⟩ = some (.int .i64 2) := fun W hW => (p1.below hW hlt).at_ 0
  have c1 : ∀ W, Below w3.heap.size w3 W → W.cell? ⟨w.heap.size, 1, none⟩ = some (.int .i64 0) := fun W hW => (p1.below hW hlt).at_ 1
  have c2 : ∀ W, Below w3.heap.size w3 W → W.cell? ⟨w.heap.size, 2, none⟩ = some (.string ⟨#[]⟩) := fun W hW => (p1.below hW hlt).at_ 2
  have C0 := Lib.hid c0
  have C1 := Lib.hid c1
  have C2 := Lib.hid c2
  have hb3 := hb.keep p3
  have HP := Lib.hid p3
  clear c0 c1 c2 hb p1 p3
  have hS0 : Below w3.heap.size w3 w3.drew := (Below.refl _ _).drew
  refine wpS_start (fun W => Below w3.heap.size w3 W) 12 (by kernel_rfl) rfl (fun R HR => ?_)
  refine wpS_take HR (i := 0) rfl (by decide +kernel) (by decide +kernel) (by decide +kernel) (fun _ _ _ h => h) (by rfl) hS0 (fun W hW => by rfl) ?_
  go_simp
  refine wpS_take HR (i := 1) (v := .int .i64 l.length) rfl (by decide +kernel) (by decide +kernel) (by decide +kernel) (fun _ _ _ h => h) (by rfl) hS0 (fun W hW => by go_simp) ?_
  go_simp
  refine wpS_take HR (i := 2) (v := .int .i64 ((l.length : Int) + 1)) rfl (by decide +kernel) (by decide +kernel) (by decide +kernel) (fun _ _ _ h => h) (by rfl) hS0 (fun W hW => by go_simp; rw [IntKind.wrap_i64]; omega) ?_
  go_simp
  refine wpS_take HR (i := 4) rfl (by decide +kernel) (by decide +kernel) (by decide +kernel) (fun _ _ _ h => h) (by rfl) hS0 (fun W hW => by rfl) ?_
  go_simp
  refine wpS_take HR (i := 6) rfl (by decide +kernel) (by decide +kernel) (by decide +kernel) (fun _ _ _ h => h) (by rfl) hS0 (fun W hW => by rfl) ?_
  go_simp
  refine wpS_take HR (i := 7) (v := .int .i64 2) rfl (by decide +kernel) (by decide +kernel) (by decide +kernel) (fun _ _ _ h => h) (by rfl) hS0 (fun W hW => by have q := C0.out W hW; go_simp) ?_
  go_simp
  refine wpS_take HR (i := 8) (v := .int .u8 2) rfl (by decide +kernel) (by decide +kernel) (by decide +kernel) (fun _ _ _ h => h) (by rfl) hS0 (fun W hW => by go_simp; rfl) ?_
  go_simp
  refine wpS_two HR (i := 3) (k := 9) rfl rfl (by decide +kernel) rfl rfl ?_ ?_
  ·
    intro K hK; refine mk_byt w3 rfl (.const (.int .i64 0)) (.tmp 14) rfl _ (l.length + 1) rfl rfl (by omega) (by omega) hS0 ?_; intro w5 hown5 hbel5; refine wpList_nil (hK _ _ hbel5 ?_); clear hK K
    go_simp
    refine wpS_two HR (i := 5) (k := 9) rfl rfl (by decide +kernel) rfl rfl ?_ ?_
    ·
      intro K hK; refine app_byt w3 rfl (.tmp 15) (.tmp 16) rfl _ [] rfl hown5 hbel5 A l.length cap l rfl rfl (hb3.keep hbel5) hA (by simp; omega) ?_; intro v6 w6 hown6 hb6 hg6; have hbel6 : Below w3.heap.size w3 w6 := hb6; refine wpList_nil (hK _ _ hbel6 ?_); clear hK K
      go_simp
      refine wpS_one HR (i := 9) rfl (by decide +kernel) rfl ?_
      intro K hK; refine wpList_plain rfl (fun K' hK' => ?_); go_simp; refine hK' _ _ (wpList_nil (hK _ _ (hbel6.alloc hbel6.size _) ?_)); clear hK K hK' K'
      have hbelb := hbel6.alloc hbel6.size (.cells #[.int .u8 2] 5)
      refine wpS_one HR (i := 10) rfl (by decide +kernel) rfl ?_
      intro K hK; refine app_byt w3 rfl (.tmp 17) (.tmp 21) rfl _ ([] ++ l) rfl (hown6.alloc _) hbelb (some ⟨w6.heap.size, 0, none⟩) 1 1 [2] rfl rfl (byt_one w6 2 _ rfl) (by simp) (by simp; omega) ?_; intro v7 w7 hown7 hbel7 _; refine wpList_nil (hK _ _ hbel7 ?_); clear hK K
      go_simp
      refine wpS_take HR (i := 11) rfl (by decide +kernel) (by decide +kernel) (by decide +kernel) (fun _ _ _ h => h) (by rfl) hbel7 (fun W hW => by rfl) ?_
      go_simp
      refine wpS_done HR (by decide +kernel) ?_
      have d0 := C0.out w7 hbel7
      have d1 := C1.out w7 hbel7
      go_wp2_with (at_builtin; refine app_byt (o := ⟨some 38, _, _, _, _, _⟩) w3 rfl (.tmp 33) (.tmp 37) rfl _ ([] ++ l ++ [2]) rfl (hown7.alloc _) (hbel7.alloc hbel7.size _) (some ⟨w7.heap.size, 0, none⟩) 1 1 [0] rfl rfl (byt_one w7 0 _ rfl) (by simp) (by simp; omega) ?_; intro v8 w8 hown8 hbel8 _)
      go_ret2
      have e1 : [] ++ l ++ [2] ++ [0] = l ++ encV 2 0 (⟨#[]⟩ : ByteArray).data.toList := by simp [encV]
      rw [e1] at hown8
      exact ⟨_, rfl, hown8.base HP.out.size, HP.out.trans (hbel8.mono HP.out.size)⟩
    ·
      intro K hK; refine wpList_plain rfl (fun K' hK' => ?_); go_simp; refine hK' _ _ (wpList_nil (hK _ _ (hbel5.alloc hbel5.size _) ?_)); clear hK K hK' K'
      have hbelb := hbel5.alloc hbel5.size (.cells #[.int .u8 2] 5)
      refine wpS_one HR (i := 5) rfl (by decide +kernel) rfl ?_
      intro K hK; refine app_byt w3 rfl (.tmp 15) (.tmp 16) rfl _ [] rfl (hown5.alloc _) hbelb A l.length cap l rfl rfl (hb3.keep hbelb) hA (by simp; omega) ?_; intro v6 w6 hown6 hb6 hg6; have hbel6 : Below w3.heap.size w3 w6 := hb6; refine wpList_nil (hK _ _ hbel6 ?_); clear hK K
      go_simp
      refine wpS_one HR (i := 10) rfl (by decide +kernel) rfl ?_
      intro K hK; refine app_byt w3 rfl (.tmp 17) (.tmp 21) rfl _ ([] ++ l) rfl hown6 hbel6 (some ⟨w5.heap.size, 0, none⟩) 1 1 [2] rfl rfl (byt_grown (byt_one w5 2 _ rfl) hg6.1 (fun e => by have := (World.ownsRow.lt hown5 _ e).2; omega)) (by simp) (by simp; omega) ?_; intro v7 w7 hown7 hbel7 _; refine wpList_nil (hK _ _ hbel7 ?_); clear hK K
      go_simp
      refine wpS_take HR (i := 11) rfl (by decide +kernel) (by decide +kernel) (by decide +kernel) (fun _ _ _ h => h) (by rfl) hbel7 (fun W hW => by rfl) ?_
      go_simp
      refine wpS_done HR (by decide +kernel) ?_
      have d0 := C0.out w7 hbel7
      have d1 := C1.out w7 hbel7
      go_wp2_with (at_builtin; refine app_byt (o := ⟨some 38, _, _, _, _, _⟩) w3 rfl (.tmp 33) (.tmp 37) rfl _ ([] ++ l ++ [2]) rfl (hown7.alloc _) (hbel7.alloc hbel7.size _) (some ⟨w7.heap.size, 0, none⟩) 1 1 [0] rfl rfl (byt_one w7 0 _ rfl) (by simp) (by simp; omega) ?_; intro v8 w8 hown8 hbel8 _)
      go_ret2
      have e1 : [] ++ l ++ [2] ++ [0] = l ++ encV 2 0 (⟨#[]⟩ : ByteArray).data.toList := by simp [encV]
      rw [e1] at hown8
      exact ⟨_, rfl, hown8.base HP.out.size, HP.out.trans (hbel8.mono HP.out.size)⟩
  ·
    intro K hK; refine wpList_plain rfl (fun K' hK' => ?_); go_simp; refine hK' _ _ (wpList_nil (hK _ _ (hS0.alloc hS0.size _) ?_)); clear hK K hK' K'
    have hbelb := hS0.alloc hS0.size (.cells #[.int .u8 2] 5)
    refine wpS_one HR (i := 3) rfl (by decide +kernel) rfl ?_
    intro K hK; refine mk_byt (w3.drew.alloc (.cells #[.int .u8 2] 5)) rfl (.const (.int .i64 0)) (.tmp 14) rfl _ (l.length + 1) rfl rfl (by omega) (by omega) (Below.refl _ _) ?_; intro w5 hown5 hb5; have hbel5 := hbelb.trans (hb5.mono hbelb.size); refine wpList_nil (hK _ _ hbel5 ?_); clear hK K
    go_simp
    have hown5s : Own w5 (w3.drew.alloc (.cells #[.int .u8 2] 5)).heap.size (.slice (some ⟨w3.heap.size + 1, 0, none⟩) 0 (l.length + 1)) [] := by simpa using hown5
    refine wpS_one HR (i := 5) rfl (by decide +kernel) rfl ?_
    intro K hK; refine app_byt (w3.drew.alloc (.cells #[.int .u8 2] 5)) rfl (.tmp 15) (.tmp 16) rfl _ [] rfl hown5s hb5 A l.length cap l rfl rfl (hb3.keep hbel5) hA (by simp; omega) ?_; intro v6 w6 hown6 hb6 hg6; have hbel6 : Below w3.heap.size w3 w6 := hbelb.trans (hb6.mono hbelb.size); refine wpList_nil (hK _ _ hbel6 ?_); clear hK K
    go_simp
    refine wpS_one HR (i := 10) rfl (by decide +kernel) rfl ?_
    intro K hK; refine app_byt w3 rfl (.tmp 17) (.tmp 21) rfl _ ([] ++ l) rfl (hown6.base hbelb.size) hbel6 (some ⟨w3.drew.heap.size, 0, none⟩) 1 1 [2] rfl rfl ((byt_one w3.drew 2 _ rfl).keep hb6) (by simp) (by simp; omega) ?_; intro v7 w7 hown7 hbel7 _; refine wpList_nil (hK _ _ hbel7 ?_); clear hK K
    go_simp
    refine wpS_take HR (i := 11) rfl (by decide +kernel) (by decide +kernel) (by decide +kernel) (fun _ _ _ h => h) (by rfl) hbel7 (fun W hW => by rfl) ?_
    go_simp
    refine wpS_done HR (by decide +kernel) ?_
    have d0 := C0.out w7 hbel7
    have d1 := C1.out w7 hbel7
    go_wp2_with (at_builtin; refine app_byt (o := ⟨some 38, _, _, _, _, _⟩) w3 rfl (.tmp 33) (.tmp 37) rfl _ ([] ++ l ++ [2]) rfl (hown7.alloc _) (hbel7.alloc hbel7.size _) (some ⟨w7.heap.size, 0, none⟩) 1 1 [0] rfl rfl (byt_one w7 0 _ rfl) (by simp) (by simp; omega) ?_; intro v8 w8 hown8 hbel8 _)
    go_ret2
    have e1 : [] ++ l ++ [2] ++ [0] = l ++ encV 2 0 (⟨#[]⟩ : ByteArray).data.toList := by simp [encV]
    rw [e1] at hown8
    exact ⟨_, rfl, hown8.base HP.out.size, HP.out.trans (hbel8.mono HP.out.size)⟩

set_option maxHeartbeats 4000000 in
set_option maxRecDepth 100000 in
theorem reflay_bool1 (A : Option Addr) (cap : Nat) (l : List UInt8) (w : World) (hb : Byt w A l) (hA : A = none → cap = 0) (hl : l.length + 2000 ≤ 140737488355328) :
    Calls Try.prog 45 #[.slice A l.length cap, .agg #[.int .i64 2, .int .i64 1, .string ⟨#[]⟩]] w (MadeL w (l ++ encV 2 1 (⟨#[]⟩ : ByteArray).data.toList)) := by
  have hr := fun w => refright_any 2 1 ⟨#[]⟩ w (by unfold maxLen; decide)
  have e : rightB 2 1 (ByteArray.toList ⟨#[]⟩) = true := by rw [ByteArray.toList_eq]; rfl
  rw [e] at hr
  clear e
  go_enter Try.func45, Try.ntmps45
  go_wp2_with (go_at_call 31; refine (hr _).mono ?_; rintro e w3 ⟨rfl, hb3⟩; obtain ⟨p1, p3⟩ := one_kept [.int .i64 2, .int .i64 1, .string ⟨#[]⟩] hb3; clear hb3 hr)
  have hlt := lt_of_block p1
  have c0 : ∀ W, Below w3.heap.size w3 W → W.cell? ⟨w.heap.size, 0, none⟩ = some (.int .i64 2) := fun W hW => (p1.below hW hlt).at_ 0
  have c1 : ∀ W, Below w3.heap.size w3 W → W.cell? ⟨w.heap.size, 1, none⟩ = some (.int .i64 1) := fun W hW => (p1.below hW hlt).at_ 1
  have c2 : ∀ W, Below w3.heap.size w3 W → W.cell? ⟨w.heap.size, 2, none⟩ = some (.string ⟨#[]⟩) := fun W hW => (p1.below hW hlt).at_ 2
  have C0 := Lib.hid c0
  have C1 := Lib.hid c1
  have C2 := Lib.hid c2
  have hb3 := hb.keep p3
  have HP := Lib.hid p3
  clear c0 c1 c2 hb p1 p3
  have hS0 : Below w3.heap.size w3 w3.drew := (Below.refl _ _).drew
  refine wpS_start (fun W => Below w3.heap.size w3 W) 12 (by kernel_rfl) rfl (fun R HR => ?_)
  refine wpS_take HR (i := 0) rfl (by decide +kernel) (by decide +kernel) (by decide +kernel) (fun _ _ _ h => h) (by rfl) hS0 (fun W hW => by rfl) ?_
  go_simp
  refine wpS_take HR (i := 1) (v := .int .i64 l.length) rfl (by decide +kernel) (by decide +kernel) (by decide +kernel) (fun _ _ _ h => h) (by rfl) hS0 (fun W hW => by go_simp) ?_
  go_simp
  refine wpS_take HR (i := 2) (v := .int .i64 ((l.length : Int) + 1)) rfl (by decide +kernel) (by decide +kernel) (by decide +kernel) (fun _ _ _ h => h) (by rfl) hS0 (fun W hW => by go_simp; rw [IntKind.wrap_i64]; omega) ?_
  go_simp
  refine wpS_take HR (i := 4) rfl (by decide +kernel) (by decide +kernel) (by decide +kernel) (fun _ _ _ h => h) (by rfl) hS0 (fun W hW => by rfl) ?_
  go_simp
  refine wpS_take HR (i := 6) rfl (by decide +kernel) (by decide +kernel) (by decide +kernel) (fun _ _ _ h => h) (by rfl) hS0 (fun W hW => by rfl) ?_
  go_simp
  refine wpS_take HR (i := 7) (v := .int .i64 2) rfl (by decide +kernel) (by decide +kernel) (by decide +kernel) (fun _ _ _ h => h) (by rfl) hS0 (fun W hW => by have q := C0.out W hW; go_simp) ?_
  go_simp
  refine wpS_take HR (i := 8) (v := .int .u8 2) rfl (by decide +kernel) (by decide +kernel) (by decide +kernel) (fun _ _ _ h => h) (by rfl) hS0 (fun W hW => by go_simp; rfl) ?_
  go_simp
  refine wpS_two HR (i := 3) (k := 9) rfl rfl (by decide +kernel) rfl rfl ?_ ?_
  ·
    intro K hK; refine mk_byt w3 rfl (.const (.int .i64 0)) (.tmp 14) rfl _ (l.length + 1) rfl rfl (by omega) (by omega) hS0 ?_; intro w5 hown5 hbel5; refine wpList_nil (hK _ _ hbel5 ?_); clear hK K
    go_simp
    refine wpS_two HR (i := 5) (k := 9) rfl rfl (by decide +kernel) rfl rfl ?_ ?_
    ·
      intro K hK; refine app_byt w3 rfl (.tmp 15) (.tmp 16) rfl _ [] rfl hown5 hbel5 A l.length cap l rfl rfl (hb3.keep hbel5) hA (by simp; omega) ?_; intro v6 w6 hown6 hb6 hg6; have hbel6 : Below w3.heap.size w3 w6 := hb6; refine wpList_nil (hK _ _ hbel6 ?_); clear hK K
      go_simp
      refine wpS_one HR (i := 9) rfl (by decide +kernel) rfl ?_
      intro K hK; refine wpList_plain rfl (fun K' hK' => ?_); go_simp; refine hK' _ _ (wpList_nil (hK _ _ (hbel6.alloc hbel6.size _) ?_)); clear hK K hK' K'
      have hbelb := hbel6.alloc hbel6.size (.cells #[.int .u8 2] 5)
      refine wpS_one HR (i := 10) rfl (by decide +kernel) rfl ?_
      intro K hK; refine app_byt w3 rfl (.tmp 17) (.tmp 21) rfl _ ([] ++ l) rfl (hown6.alloc _) hbelb (some ⟨w6.heap.size, 0, none⟩) 1 1 [2] rfl rfl (byt_one w6 2 _ rfl) (by simp) (by simp; omega) ?_; intro v7 w7 hown7 hbel7 _; refine wpList_nil (hK _ _ hbel7 ?_); clear hK K
      go_simp
      refine wpS_take HR (i := 11) rfl (by decide +kernel) (by decide +kernel) (by decide +kernel) (fun _ _ _ h => h) (by rfl) hbel7 (fun W hW => by rfl) ?_
      go_simp
      refine wpS_done HR (by decide +kernel) ?_
      have d0 := C0.out w7 hbel7
      have d1 := C1.out w7 hbel7
      go_wp2_with (at_builtin; refine app_byt (o := ⟨some 38, _, _, _, _, _⟩) w3 rfl (.tmp 33) (.tmp 37) rfl _ ([] ++ l ++ [2]) rfl (hown7.alloc _) (hbel7.alloc hbel7.size _) (some ⟨w7.heap.size, 0, none⟩) 1 1 [1] rfl rfl (byt_one w7 1 _ rfl) (by simp) (by simp; omega) ?_; intro v8 w8 hown8 hbel8 _)
      go_ret2
      have e1 : [] ++ l ++ [2] ++ [1] = l ++ encV 2 1 (⟨#[]⟩ : ByteArray).data.toList := by simp [encV]
      rw [e1] at hown8
      exact ⟨_, rfl, hown8.base HP.out.size, HP.out.trans (hbel8.mono HP.out.size)⟩
    ·
      intro K hK; refine wpList_plain rfl (fun K' hK' => ?_); go_simp; refine hK' _ _ (wpList_nil (hK _ _ (hbel5.alloc hbel5.size _) ?_)); clear hK K hK' K'
      have hbelb := hbel5.alloc hbel5.size (.cells #[.int .u8 2] 5)
      refine wpS_one HR (i := 5) rfl (by decide +kernel) rfl ?_
      intro K hK; refine app_byt w3 rfl (.tmp 15) (.tmp 16) rfl _ [] rfl (hown5.alloc _) hbelb A l.length cap l rfl rfl (hb3.keep hbelb) hA (by simp; omega) ?_; intro v6 w6 hown6 hb6 hg6; have hbel6 : Below w3.heap.size w3 w6 := hb6; refine wpList_nil (hK _ _ hbel6 ?_); clear hK K
      go_simp
      refine wpS_one HR (i := 10) rfl (by decide +kernel) rfl ?_
      intro K hK; refine app_byt w3 rfl (.tmp 17) (.tmp 21) rfl _ ([] ++ l) rfl hown6 hbel6 (some ⟨w5.heap.size, 0, none⟩) 1 1 [2] rfl rfl (byt_grown (byt_one w5 2 _ rfl) hg6.1 (fun e => by have := (World.ownsRow.lt hown5 _ e).2; omega)) (by simp) (by simp; omega) ?_; intro v7 w7 hown7 hbel7 _; refine wpList_nil (hK _ _ hbel7 ?_); clear hK K
      go_simp
      refine wpS_take HR (i := 11) rfl (by decide +kernel) (by decide +kernel) (by decide +kernel) (fun _ _ _ h => h) (by rfl) hbel7 (fun W hW => by rfl) ?_
      go_simp
      refine wpS_done HR (by decide +kernel) ?_
      have d0 := C0.out w7 hbel7
      have d1 := C1.out w7 hbel7
      go_wp2_with (at_builtin; refine app_byt (o := ⟨some 38, _, _, _, _, _⟩) w3 rfl (.tmp 33) (.tmp 37) rfl _ ([] ++ l ++ [2]) rfl (hown7.alloc _) (hbel7.alloc hbel7.size _) (some ⟨w7.heap.size, 0, none⟩) 1 1 [1] rfl rfl (byt_one w7 1 _ rfl) (by simp) (by simp; omega) ?_; intro v8 w8 hown8 hbel8 _)
      go_ret2
      have e1 : [] ++ l ++ [2] ++ [1] = l ++ encV 2 1 (⟨#[]⟩ : ByteArray).data.toList := by simp [encV]
      rw [e1] at hown8
      exact ⟨_, rfl, hown8.base HP.out.size, HP.out.trans (hbel8.mono HP.out.size)⟩
  ·
    intro K hK; refine wpList_plain rfl (fun K' hK' => ?_); go_simp; refine hK' _ _ (wpList_nil (hK _ _ (hS0.alloc hS0.size _) ?_)); clear hK K hK' K'
    have hbelb := hS0.alloc hS0.size (.cells #[.int .u8 2] 5)
    refine wpS_one HR (i := 3) rfl (by decide +kernel) rfl ?_
    intro K hK; refine mk_byt (w3.drew.alloc (.cells #[.int .u8 2] 5)) rfl (.const (.int .i64 0)) (.tmp 14) rfl _ (l.length + 1) rfl rfl (by omega) (by omega) (Below.refl _ _) ?_; intro w5 hown5 hb5; have hbel5 := hbelb.trans (hb5.mono hbelb.size); refine wpList_nil (hK _ _ hbel5 ?_); clear hK K
    go_simp
    have hown5s : Own w5 (w3.drew.alloc (.cells #[.int .u8 2] 5)).heap.size (.slice (some ⟨w3.heap.size + 1, 0, none⟩) 0 (l.length + 1)) [] := by simpa using hown5
    refine wpS_one HR (i := 5) rfl (by decide +kernel) rfl ?_
    intro K hK; refine app_byt (w3.drew.alloc (.cells #[.int .u8 2] 5)) rfl (.tmp 15) (.tmp 16) rfl _ [] rfl hown5s hb5 A l.length cap l rfl rfl (hb3.keep hbel5) hA (by simp; omega) ?_; intro v6 w6 hown6 hb6 hg6; have hbel6 : Below w3.heap.size w3 w6 := hbelb.trans (hb6.mono hbelb.size); refine wpList_nil (hK _ _ hbel6 ?_); clear hK K
    go_simp
    refine wpS_one HR (i := 10) rfl (by decide +kernel) rfl ?_
    intro K hK; refine app_byt w3 rfl (.tmp 17) (.tmp 21) rfl _ ([] ++ l) rfl (hown6.base hbelb.size) hbel6 (some ⟨w3.drew.heap.size, 0, none⟩) 1 1 [2] rfl rfl ((byt_one w3.drew 2 _ rfl).keep hb6) (by simp) (by simp; omega) ?_; intro v7 w7 hown7 hbel7 _; refine wpList_nil (hK _ _ hbel7 ?_); clear hK K
    go_simp
    refine wpS_take HR (i := 11) rfl (by decide +kernel) (by decide +kernel) (by decide +kernel) (fun _ _ _ h => h) (by rfl) hbel7 (fun W hW => by rfl) ?_
    go_simp
    refine wpS_done HR (by decide +kernel) ?_
    have d0 := C0.out w7 hbel7
    have d1 := C1.out w7 hbel7
    go_wp2_with (at_builtin; refine app_byt (o := ⟨some 38, _, _, _, _, _⟩) w3 rfl (.tmp 33) (.tmp 37) rfl _ ([] ++ l ++ [2]) rfl (hown7.alloc _) (hbel7.alloc hbel7.size _) (some ⟨w7.heap.size, 0, none⟩) 1 1 [1] rfl rfl (byt_one w7 1 _ rfl) (by simp) (by simp; omega) ?_; intro v8 w8 hown8 hbel8 _)
    go_ret2
    have e1 : [] ++ l ++ [2] ++ [1] = l ++ encV 2 1 (⟨#[]⟩ : ByteArray).data.toList := by simp [encV]
    rw [e1] at hown8
    exact ⟨_, rfl, hown8.base HP.out.size, HP.out.trans (hbel8.mono HP.out.size)⟩
end Go.Proofs.Ytabnjiepmhblaaa.V4
