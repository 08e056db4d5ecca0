/- The walk of the document's Lay (15). -/
import Derived.Test.YtabnjiepmhblaaaV4LayB
import Derived.Test.YtabnjiepmhblaaaV4RLay
namespace Go.Proofs.Ytabnjiepmhblaaa.V4
open Go.RowKit
set_option linter.unusedVariables false



set_option maxHeartbeats 4000000 in
set_option maxRecDepth 100000 in
theorem reflay_int (A : Option Addr) (cap : Nat) (l : List UInt8) (n : Int) (h0 : -9223372036854775808 ≤ n) (h1 : n ≤ 9223372036854775807) (w : World) (hb : Byt w A l) (hA : A = none → cap = 0) (hl : l.length + 2000 ≤ 140737488355328) :
    Calls Try.prog 45 #[.slice A l.length cap, .agg #[.int .i64 1, .int .i64 n, .string ⟨#[]⟩]] w (MadeL w (l ++ encV 1 n (⟨#[]⟩ : ByteArray).data.toList)) := by
  have hr := fun w => refright_any 1 n ⟨#[]⟩ w (by unfold maxLen; decide)
  have e : rightB 1 n (ByteArray.toList ⟨#[]⟩) = true := by rw [ByteArray.toList_eq]; rfl
  rw [e] at hr
  clear e
  go_enter Try.func45, Try.ntmps45
  go_wp2_with (go_at_call 31; refine (hr _).mono ?_; rintro e w3 ⟨rfl, hb3⟩; obtain ⟨p1, p3⟩ := one_kept [.int .i64 1, .int .i64 n, .string ⟨#[]⟩] hb3; clear hb3 hr)
  have hlt := lt_of_block p1
  have c0 : ∀ W, Below w3.heap.size w3 W → W.cell? ⟨w.heap.size, 0, none⟩ = some (.int .i64 1) := fun W hW => (p1.below hW hlt).at_ 0
  have c1 : ∀ W, Below w3.heap.size w3 W → W.cell? ⟨w.heap.size, 1, none⟩ = some (.int .i64 n) := fun W hW => (p1.below hW hlt).at_ 1
  have c2 : ∀ W, Below w3.heap.size w3 W → W.cell? ⟨w.heap.size, 2, none⟩ = some (.string ⟨#[]⟩) := fun W hW => (p1.below hW hlt).at_ 2
  have C0 := Lib.hid c0
  have C1 := Lib.hid c1
  have C2 := Lib.hid c2
  have hb3 := hb.keep p3
  have HP := Lib.hid p3
  clear c0 c1 c2 hb p1 p3
  have hS0 : Below w3.heap.size w3 w3.drew := (Below.refl _ _).drew
  refine wpS_start (fun W => Below w3.heap.size w3 W) 12 (by kernel_rfl) rfl (fun R HR => ?_)
  refine wpS_take HR (i := 0) rfl (by decide +kernel) (by decide +kernel) (by decide +kernel) (fun _ _ _ h => h) (by rfl) hS0 (fun W hW => by rfl) ?_
  go_simp
  refine wpS_take HR (i := 1) (v := .int .i64 l.length) rfl (by decide +kernel) (by decide +kernel) (by decide +kernel) (fun _ _ _ h => h) (by rfl) hS0 (fun W hW => by go_simp) ?_
  go_simp
  refine wpS_take HR (i := 2) (v := .int .i64 ((l.length : Int) + 1)) rfl (by decide +kernel) (by decide +kernel) (by decide +kernel) (fun _ _ _ h => h) (by rfl) hS0 (fun W hW => by go_simp; rw [IntKind.wrap_i64]; omega) ?_
  go_simp
  refine wpS_take HR (i := 4) rfl (by decide +kernel) (by decide +kernel) (by decide +kernel) (fun _ _ _ h => h) (by rfl) hS0 (fun W hW => by rfl) ?_
  go_simp
  refine wpS_take HR (i := 6) rfl (by decide +kernel) (by decide +kernel) (by decide +kernel) (fun _ _ _ h => h) (by rfl) hS0 (fun W hW => by rfl) ?_
  go_simp
  refine wpS_take HR (i := 7) (v := .int .i64 1) rfl (by decide +kernel) (by decide +kernel) (by decide +kernel) (fun _ _ _ h => h) (by rfl) hS0 (fun W hW => by have q := C0.out W hW; go_simp) ?_
  go_simp
  refine wpS_take HR (i := 8) (v := .int .u8 1) rfl (by decide +kernel) (by decide +kernel) (by decide +kernel) (fun _ _ _ h => h) (by rfl) hS0 (fun W hW => by go_simp; rfl) ?_
  go_simp
  refine wpS_two HR (i := 3) (k := 9) rfl rfl (by decide +kernel) rfl rfl ?_ ?_
  ·
    intro K hK; refine mk_byt w3 rfl (.const (.int .i64 0)) (.tmp 14) rfl _ (l.length + 1) rfl rfl (by omega) (by omega) hS0 ?_; intro w5 hown5 hbel5; refine wpList_nil (hK _ _ hbel5 ?_); clear hK K
    go_simp
    refine wpS_two HR (i := 5) (k := 9) rfl rfl (by decide +kernel) rfl rfl ?_ ?_
    ·
      intro K hK; refine app_byt w3 rfl (.tmp 15) (.tmp 16) rfl _ [] rfl hown5 hbel5 A l.length cap l rfl rfl (hb3.keep hbel5) hA (by simp; omega) ?_; intro v6 w6 hown6 hb6 hg6; have hbel6 : Below w3.heap.size w3 w6 := hb6; refine wpList_nil (hK _ _ hbel6 ?_); clear hK K
      go_simp
      refine wpS_one HR (i := 9) rfl (by decide +kernel) rfl ?_
      intro K hK; refine wpList_plain rfl (fun K' hK' => ?_); go_simp; refine hK' _ _ (wpList_nil (hK _ _ (hbel6.alloc hbel6.size _) ?_)); clear hK K hK' K'
      have hbelb := hbel6.alloc hbel6.size (.cells #[.int .u8 1] 5)
      refine wpS_one HR (i := 10) rfl (by decide +kernel) rfl ?_
      intro K hK; refine app_byt w3 rfl (.tmp 17) (.tmp 21) rfl _ ([] ++ l) rfl (hown6.alloc _) hbelb (some ⟨w6.heap.size, 0, none⟩) 1 1 [1] rfl rfl (byt_one w6 1 _ rfl) (by simp) (by simp; omega) ?_; intro v7 w7 hown7 hbel7 _; refine wpList_nil (hK _ _ hbel7 ?_); clear hK K
      go_simp
      refine wpS_take HR (i := 11) rfl (by decide +kernel) (by decide +kernel) (by decide +kernel) (fun _ _ _ h => h) (by rfl) hbel7 (fun W hW => by rfl) ?_
      go_simp
      refine wpS_done HR (by decide +kernel) ?_
      have d0 := C0.out w7 hbel7
      have d1 := C1.out w7 hbel7
      have hform7 := hown7.form
      go_wp2_with (go_at_call 56; obtain ⟨A7, c7, rfl, hbyt7, hn7, _, _⟩ := hform7; refine (refsigned_any A7 c7 n ([] ++ l ++ [1]) w7 hbyt7 hn7 (by simp; omega) h0 h1).mono ?_; rintro e w8 ⟨v8, rfl, hown8, hbel8⟩)
      go_ret2
      have e1 : [] ++ l ++ [1] ++ num (zig n) = l ++ encV 1 n (⟨#[]⟩ : ByteArray).data.toList := by simp [encV]
      rw [e1] at hown8
      have hb8 := hbel7.trans (hbel8.mono hbel7.size)
      exact ⟨_, rfl, (hown8.base hbel7.size).base HP.out.size, HP.out.trans (hb8.mono HP.out.size)⟩
    ·
      intro K hK; refine wpList_plain rfl (fun K' hK' => ?_); go_simp; refine hK' _ _ (wpList_nil (hK _ _ (hbel5.alloc hbel5.size _) ?_)); clear hK K hK' K'
      have hbelb := hbel5.alloc hbel5.size (.cells #[.int .u8 1] 5)
      refine wpS_one HR (i := 5) rfl (by decide +kernel) rfl ?_
      intro K hK; refine app_byt w3 rfl (.tmp 15) (.tmp 16) rfl _ [] rfl (hown5.alloc _) hbelb A l.length cap l rfl rfl (hb3.keep hbelb) hA (by simp; omega) ?_; intro v6 w6 hown6 hb6 hg6; have hbel6 : Below w3.heap.size w3 w6 := hb6; refine wpList_nil (hK _ _ hbel6 ?_); clear hK K
      go_simp
      refine wpS_one HR (i := 10) rfl (by decide +kernel) rfl ?_
      intro K hK; refine app_byt w3 rfl (.tmp 17) (.tmp 21) rfl _ ([] ++ l) rfl hown6 hbel6 (some ⟨w5.heap.size, 0, none⟩) 1 1 [1] rfl rfl (byt_grown (byt_one w5 1 _ rfl) hg6.1 (fun e => by have := (World.ownsRow.lt hown5 _ e).2; omega)) (by simp) (by simp; omega) ?_; intro v7 w7 hown7 hbel7 _; refine wpList_nil (hK _ _ hbel7 ?_); clear hK K
      go_simp
      refine wpS_take HR (i := 11) rfl (by decide +kernel) (by decide +kernel) (by decide +kernel) (fun _ _ _ h => h) (by rfl) hbel7 (fun W hW => by rfl) ?_
      go_simp
      refine wpS_done HR (by decide +kernel) ?_
      have d0 := C0.out w7 hbel7
      have d1 := C1.out w7 hbel7
      have hform7 := hown7.form
      go_wp2_with (go_at_call 56; obtain ⟨A7, c7, rfl, hbyt7, hn7, _, _⟩ := hform7; refine (refsigned_any A7 c7 n ([] ++ l ++ [1]) w7 hbyt7 hn7 (by simp; omega) h0 h1).mono ?_; rintro e w8 ⟨v8, rfl, hown8, hbel8⟩)
      go_ret2
      have e1 : [] ++ l ++ [1] ++ num (zig n) = l ++ encV 1 n (⟨#[]⟩ : ByteArray).data.toList := by simp [encV]
      rw [e1] at hown8
      have hb8 := hbel7.trans (hbel8.mono hbel7.size)
      exact ⟨_, rfl, (hown8.base hbel7.size).base HP.out.size, HP.out.trans (hb8.mono HP.out.size)⟩
  ·
    intro K hK; refine wpList_plain rfl (fun K' hK' => ?_); go_simp; refine hK' _ _ (wpList_nil (hK _ _ (hS0.alloc hS0.size _) ?_)); clear hK K hK' K'
    have hbelb := hS0.alloc hS0.size (.cells #[.int .u8 1] 5)
    refine wpS_one HR (i := 3) rfl (by decide +kernel) rfl ?_
    intro K hK; refine mk_byt (w3.drew.alloc (.cells #[.int .u8 1] 5)) rfl (.const (.int .i64 0)) (.tmp 14) rfl _ (l.length + 1) rfl rfl (by omega) (by omega) (Below.refl _ _) ?_; intro w5 hown5 hb5; have hbel5 := hbelb.trans (hb5.mono hbelb.size); refine wpList_nil (hK _ _ hbel5 ?_); clear hK K
    go_simp
    have hown5s : Own w5 (w3.drew.alloc (.cells #[.int .u8 1] 5)).heap.size (.slice (some ⟨w3.heap.size + 1, 0, none⟩) 0 (l.length + 1)) [] := by simpa using hown5
    refine wpS_one HR (i := 5) rfl (by decide +kernel) rfl ?_
    intro K hK; refine app_byt (w3.drew.alloc (.cells #[.int .u8 1] 5)) rfl (.tmp 15) (.tmp 16) rfl _ [] rfl hown5s hb5 A l.length cap l rfl rfl (hb3.keep hbel5) hA (by simp; omega) ?_; intro v6 w6 hown6 hb6 hg6; have hbel6 : Below w3.heap.size w3 w6 := hbelb.trans (hb6.mono hbelb.size); refine wpList_nil (hK _ _ hbel6 ?_); clear hK K
    go_simp
    refine wpS_one HR (i := 10) rfl (by decide +kernel) rfl ?_
    intro K hK; refine app_byt w3 rfl (.tmp 17) (.tmp 21) rfl _ ([] ++ l) rfl (hown6.base hbelb.size) hbel6 (some ⟨w3.drew.heap.size, 0, none⟩) 1 1 [1] rfl rfl ((byt_one w3.drew 1 _ rfl).keep hb6) (by simp) (by simp; omega) ?_; intro v7 w7 hown7 hbel7 _; refine wpList_nil (hK _ _ hbel7 ?_); clear hK K
    go_simp
    refine wpS_take HR (i := 11) rfl (by decide +kernel) (by decide +kernel) (by decide +kernel) (fun _ _ _ h => h) (by rfl) hbel7 (fun W hW => by rfl) ?_
    go_simp
    refine wpS_done HR (by decide +kernel) ?_
    have d0 := C0.out w7 hbel7
    have d1 := C1.out w7 hbel7
    have hform7 := hown7.form
    go_wp2_with (go_at_call 56; obtain ⟨A7, c7, rfl, hbyt7, hn7, _, _⟩ := hform7; refine (refsigned_any A7 c7 n ([] ++ l ++ [1]) w7 hbyt7 hn7 (by simp; omega) h0 h1).mono ?_; rintro e w8 ⟨v8, rfl, hown8, hbel8⟩)
    go_ret2
    have e1 : [] ++ l ++ [1] ++ num (zig n) = l ++ encV 1 n (⟨#[]⟩ : ByteArray).data.toList := by simp [encV]
    rw [e1] at hown8
    have hb8 := hbel7.trans (hbel8.mono hbel7.size)
    exact ⟨_, rfl, (hown8.base hbel7.size).base HP.out.size, HP.out.trans (hb8.mono HP.out.size)⟩

set_option maxHeartbeats 4000000 in
set_option maxRecDepth 100000 in
theorem reflay_text (A : Option Addr) (cap : Nat) (l : List UInt8) (s : ByteArray) (hs : s.size ≤ 1024) (w : World) (hb : Byt w A l) (hA : A = none → cap = 0) (hl : l.length + 2000 ≤ 140737488355328) :
    Calls Try.prog 45 #[.slice A l.length cap, .agg #[.int .i64 3, .int .i64 0, .string s]] w (MadeL w (l ++ encV 3 0 (s : ByteArray).data.toList)) := by
  have hr := fun w => refright_any 3 0 s w (by unfold maxLen; omega)
  have e : rightB 3 0 (ByteArray.toList s) = true := by simp [rightB, tol_len]; omega
  rw [e] at hr
  clear e
  go_enter Try.func45, Try.ntmps45
  go_wp2_with (go_at_call 31; refine (hr _).mono ?_; rintro e w3 ⟨rfl, hb3⟩; obtain ⟨p1, p3⟩ := one_kept [.int .i64 3, .int .i64 0, .string s] hb3; clear hb3 hr)
  have hlt := lt_of_block p1
  have c0 : ∀ W, Below w3.heap.size w3 W → W.cell? ⟨w.heap.size, 0, none⟩ = some (.int .i64 3) := fun W hW => (p1.below hW hlt).at_ 0
  have c1 : ∀ W, Below w3.heap.size w3 W → W.cell? ⟨w.heap.size, 1, none⟩ = some (.int .i64 0) := fun W hW => (p1.below hW hlt).at_ 1
  have c2 : ∀ W, Below w3.heap.size w3 W → W.cell? ⟨w.heap.size, 2, none⟩ = some (.string s) := fun W hW => (p1.below hW hlt).at_ 2
  have C0 := Lib.hid c0
  have C1 := Lib.hid c1
  have C2 := Lib.hid c2
  have hb3 := hb.keep p3
  have HP := Lib.hid p3
  clear c0 c1 c2 hb p1 p3
  have hS0 : Below w3.heap.size w3 w3.drew := (Below.refl _ _).drew
  refine wpS_start (fun W => Below w3.heap.size w3 W) 12 (by kernel_rfl) rfl (fun R HR => ?_)
  refine wpS_take HR (i := 0) rfl (by decide +kernel) (by decide +kernel) (by decide +kernel) (fun _ _ _ h => h) (by rfl) hS0 (fun W hW => by rfl) ?_
  go_simp
  refine wpS_take HR (i := 1) (v := .int .i64 l.length) rfl (by decide +kernel) (by decide +kernel) (by decide +kernel) (fun _ _ _ h => h) (by rfl) hS0 (fun W hW => by go_simp) ?_
  go_simp
  refine wpS_take HR (i := 2) (v := .int .i64 ((l.length : Int) + 1)) rfl (by decide +kernel) (by decide +kernel) (by decide +kernel) (fun _ _ _ h => h) (by rfl) hS0 (fun W hW => by go_simp; rw [IntKind.wrap_i64]; omega) ?_
  go_simp
  refine wpS_take HR (i := 4) rfl (by decide +kernel) (by decide +kernel) (by decide +kernel) (fun _ _ _ h => h) (by rfl) hS0 (fun W hW => by rfl) ?_
  go_simp
  refine wpS_take HR (i := 6) rfl (by decide +kernel) (by decide +kernel) (by decide +kernel) (fun _ _ _ h => h) (by rfl) hS0 (fun W hW => by rfl) ?_
  go_simp
  refine wpS_take HR (i := 7) (v := .int .i64 3) rfl (by decide +kernel) (by decide +kernel) (by decide +kernel) (fun _ _ _ h => h) (by rfl) hS0 (fun W hW => by have q := C0.out W hW; go_simp) ?_
  go_simp
  refine wpS_take HR (i := 8) (v := .int .u8 3) rfl (by decide +kernel) (by decide +kernel) (by decide +kernel) (fun _ _ _ h => h) (by rfl) hS0 (fun W hW => by go_simp; rfl) ?_
  go_simp
  refine wpS_two HR (i := 3) (k := 9) rfl rfl (by decide +kernel) rfl rfl ?_ ?_
  ·
    intro K hK; refine mk_byt w3 rfl (.const (.int .i64 0)) (.tmp 14) rfl _ (l.length + 1) rfl rfl (by omega) (by omega) hS0 ?_; intro w5 hown5 hbel5; refine wpList_nil (hK _ _ hbel5 ?_); clear hK K
    go_simp
    refine wpS_two HR (i := 5) (k := 9) rfl rfl (by decide +kernel) rfl rfl ?_ ?_
    ·
      intro K hK; refine app_byt w3 rfl (.tmp 15) (.tmp 16) rfl _ [] rfl hown5 hbel5 A l.length cap l rfl rfl (hb3.keep hbel5) hA (by simp; omega) ?_; intro v6 w6 hown6 hb6 hg6; have hbel6 : Below w3.heap.size w3 w6 := hb6; refine wpList_nil (hK _ _ hbel6 ?_); clear hK K
      go_simp
      refine wpS_one HR (i := 9) rfl (by decide +kernel) rfl ?_
      intro K hK; refine wpList_plain rfl (fun K' hK' => ?_); go_simp; refine hK' _ _ (wpList_nil (hK _ _ (hbel6.alloc hbel6.size _) ?_)); clear hK K hK' K'
      have hbelb := hbel6.alloc hbel6.size (.cells #[.int .u8 3] 5)
      refine wpS_one HR (i := 10) rfl (by decide +kernel) rfl ?_
      intro K hK; refine app_byt w3 rfl (.tmp 17) (.tmp 21) rfl _ ([] ++ l) rfl (hown6.alloc _) hbelb (some ⟨w6.heap.size, 0, none⟩) 1 1 [3] rfl rfl (byt_one w6 3 _ rfl) (by simp) (by simp; omega) ?_; intro v7 w7 hown7 hbel7 _; refine wpList_nil (hK _ _ hbel7 ?_); clear hK K
      go_simp
      refine wpS_take HR (i := 11) rfl (by decide +kernel) (by decide +kernel) (by decide +kernel) (fun _ _ _ h => h) (by rfl) hbel7 (fun W hW => by rfl) ?_
      go_simp
      refine wpS_done HR (by decide +kernel) ?_
      have d0 := C0.out w7 hbel7
      have d2 := C2.out w7 hbel7
      have hform7 := hown7.form
      go_wp2_with (go_at_call 39; obtain ⟨A7, c7, rfl, hbyt7, hn7, _, _⟩ := hform7; refine (reftext_any A7 c7 s ([] ++ l ++ [3]) w7 (by omega) hbyt7 hn7 (by simp; omega)).mono ?_; rintro e w8 ⟨v8, rfl, hown8, hbel8⟩)
      go_ret2
      have e1 : [] ++ l ++ [3] ++ num s.size ++ s.data.toList = l ++ encV 3 0 s.data.toList := by simp [encV]
      rw [e1] at hown8
      have hb8 := hbel7.trans (hbel8.mono hbel7.size)
      exact ⟨_, rfl, (hown8.base hbel7.size).base HP.out.size, HP.out.trans (hb8.mono HP.out.size)⟩
    ·
      intro K hK; refine wpList_plain rfl (fun K' hK' => ?_); go_simp; refine hK' _ _ (wpList_nil (hK _ _ (hbel5.alloc hbel5.size _) ?_)); clear hK K hK' K'
      have hbelb := hbel5.alloc hbel5.size (.cells #[.int .u8 3] 5)
      refine wpS_one HR (i := 5) rfl (by decide +kernel) rfl ?_
      intro K hK; refine app_byt w3 rfl (.tmp 15) (.tmp 16) rfl _ [] rfl (hown5.alloc _) hbelb A l.length cap l rfl rfl (hb3.keep hbelb) hA (by simp; omega) ?_; intro v6 w6 hown6 hb6 hg6; have hbel6 : Below w3.heap.size w3 w6 := hb6; refine wpList_nil (hK _ _ hbel6 ?_); clear hK K
      go_simp
      refine wpS_one HR (i := 10) rfl (by decide +kernel) rfl ?_
      intro K hK; refine app_byt w3 rfl (.tmp 17) (.tmp 21) rfl _ ([] ++ l) rfl hown6 hbel6 (some ⟨w5.heap.size, 0, none⟩) 1 1 [3] rfl rfl (byt_grown (byt_one w5 3 _ rfl) hg6.1 (fun e => by have := (World.ownsRow.lt hown5 _ e).2; omega)) (by simp) (by simp; omega) ?_; intro v7 w7 hown7 hbel7 _; refine wpList_nil (hK _ _ hbel7 ?_); clear hK K
      go_simp
      refine wpS_take HR (i := 11) rfl (by decide +kernel) (by decide +kernel) (by decide +kernel) (fun _ _ _ h => h) (by rfl) hbel7 (fun W hW => by rfl) ?_
      go_simp
      refine wpS_done HR (by decide +kernel) ?_
      have d0 := C0.out w7 hbel7
      have d2 := C2.out w7 hbel7
      have hform7 := hown7.form
      go_wp2_with (go_at_call 39; obtain ⟨A7, c7, rfl, hbyt7, hn7, _, _⟩ := hform7; refine (reftext_any A7 c7 s ([] ++ l ++ [3]) w7 (by omega) hbyt7 hn7 (by simp; omega)).mono ?_; rintro e w8 ⟨v8, rfl, hown8, hbel8⟩)
      go_ret2
      have e1 : [] ++ l ++ [3] ++ num s.size ++ s.data.toList = l ++ encV 3 0 s.data.toList := by simp [encV]
      rw [e1] at hown8
      have hb8 := hbel7.trans (hbel8.mono hbel7.size)
      exact ⟨_, rfl, (hown8.base hbel7.size).base HP.out.size, HP.out.trans (hb8.mono HP.out.size)⟩
  ·
    intro K hK; refine wpList_plain rfl (fun K' hK' => ?_); go_simp; refine hK' _ _ (wpList_nil (hK _ _ (hS0.alloc hS0.size _) ?_)); clear hK K hK' K'
    have hbelb := hS0.alloc hS0.size (.cells #[.int .u8 3] 5)
    refine wpS_one HR (i := 3) rfl (by decide +kernel) rfl ?_
    intro K hK; refine mk_byt (w3.drew.alloc (.cells #[.int .u8 3] 5)) rfl (.const (.int .i64 0)) (.tmp 14) rfl _ (l.length + 1) rfl rfl (by omega) (by omega) (Below.refl _ _) ?_; intro w5 hown5 hb5; have hbel5 := hbelb.trans (hb5.mono hbelb.size); refine wpList_nil (hK _ _ hbel5 ?_); clear hK K
    go_simp
    have hown5s : Own w5 (w3.drew.alloc (.cells #[.int .u8 3] 5)).heap.size (.slice (some ⟨w3.heap.size + 1, 0, none⟩) 0 (l.length + 1)) [] := by simpa using hown5
    refine wpS_one HR (i := 5) rfl (by decide +kernel) rfl ?_
    intro K hK; refine app_byt (w3.drew.alloc (.cells #[.int .u8 3] 5)) rfl (.tmp 15) (.tmp 16) rfl _ [] rfl hown5s hb5 A l.length cap l rfl rfl (hb3.keep hbel5) hA (by simp; omega) ?_; intro v6 w6 hown6 hb6 hg6; have hbel6 : Below w3.heap.size w3 w6 := hbelb.trans (hb6.mono hbelb.size); refine wpList_nil (hK _ _ hbel6 ?_); clear hK K
    go_simp
    refine wpS_one HR (i := 10) rfl (by decide +kernel) rfl ?_
    intro K hK; refine app_byt w3 rfl (.tmp 17) (.tmp 21) rfl _ ([] ++ l) rfl (hown6.base hbelb.size) hbel6 (some ⟨w3.drew.heap.size, 0, none⟩) 1 1 [3] rfl rfl ((byt_one w3.drew 3 _ rfl).keep hb6) (by simp) (by simp; omega) ?_; intro v7 w7 hown7 hbel7 _; refine wpList_nil (hK _ _ hbel7 ?_); clear hK K
    go_simp
    refine wpS_take HR (i := 11) rfl (by decide +kernel) (by decide +kernel) (by decide +kernel) (fun _ _ _ h => h) (by rfl) hbel7 (fun W hW => by rfl) ?_
    go_simp
    refine wpS_done HR (by decide +kernel) ?_
    have d0 := C0.out w7 hbel7
    have d2 := C2.out w7 hbel7
    have hform7 := hown7.form
    go_wp2_with (go_at_call 39; obtain ⟨A7, c7, rfl, hbyt7, hn7, _, _⟩ := hform7; refine (reftext_any A7 c7 s ([] ++ l ++ [3]) w7 (by omega) hbyt7 hn7 (by simp; omega)).mono ?_; rintro e w8 ⟨v8, rfl, hown8, hbel8⟩)
    go_ret2
    have e1 : [] ++ l ++ [3] ++ num s.size ++ s.data.toList = l ++ encV 3 0 s.data.toList := by simp [encV]
    rw [e1] at hown8
    have hb8 := hbel7.trans (hbel8.mono hbel7.size)
    exact ⟨_, rfl, (hown8.base hbel7.size).base HP.out.size, HP.out.trans (hb8.mono HP.out.size)⟩

set_option maxHeartbeats 2000000 in
set_option maxRecDepth 100000 in
theorem reflay_no (A : Option Addr) (cap : Nat) (l : List UInt8) (k n : Int) (s : ByteArray) (w : World) (hs : s.size ≤ maxLen) (hr0 : rightB k n s.toList = false) :
    Calls Try.prog 45 #[.slice A l.length cap, .agg #[.int .i64 k, .int .i64 n, .string s]] w (NoLay w) := by
  have hr := fun w => refright_any k n s w hs
  rw [hr0] at hr
  clear hr0
  go_enter Try.func45, Try.ntmps45
  go_wp2_with (go_at_call 31; refine (hr _).mono ?_; rintro e w3 ⟨rfl, hb3⟩; obtain ⟨p1, p3⟩ := one_kept [.int .i64 k, .int .i64 n, .string s] hb3)
  go_ret2
  exact ⟨rfl, p3⟩
end Go.Proofs.Ytabnjiepmhblaaa.V4
