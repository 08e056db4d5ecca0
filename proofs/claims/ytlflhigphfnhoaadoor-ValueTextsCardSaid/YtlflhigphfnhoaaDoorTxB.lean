/- Several texts in one (a claim holds 60 files). -/
import Derived.Test.YtlflhigphfnhoaaDoorTxA
import Derived.Test.YtlflhigphfnhoaaDoorShown4
/- The walk of the document's Parse (21), but for quoted texts. -/
namespace Go.Proofs.YtlflhigphfnhoaaDoor
open Go.RowKit
set_option linter.unusedVariables false

theorem num41_all (s : ByteArray) (w : World) (hs : s.size ≤ 140737488351232) : Calls Tryd.prog 41 #[.string s] w fun e w' => e = .returned (.int .i64 (nOf s.data.toList)) ∧ Below w.heap.size w w' := by
  rcases Nat.eq_zero_or_pos s.size with h | h
  · have : s = ⟨#[]⟩ := by
      exact ba_data (l := []) (List.length_eq_zero_iff.1 (by rw [txt_len', h]))
    subst this
    have e : nOf (ByteArray.data ⟨#[]⟩).toList = 0 := by simp [nOf, nFold, wrap64]
    rw [e]
    exact number_empty w
  · exact num41_any s w hs h
set_option maxHeartbeats 4000000 in
set_option maxRecDepth 100000 in
theorem rparse_null (w : World) : Calls Tryd.prog 21 #[.string ⟨#[110, 117, 108, 108]⟩] w fun e w' => e = .returned (parR ⟨#[110, 117, 108, 108]⟩) ∧ Below w.heap.size w w' := by
  have H : Hid (parR ⟨#[110, 117, 108, 108]⟩ = .tuple #[.agg #[.int .i64 0, .int .i64 0, .string ⟨#[]⟩], .int .i64 0]) := parR_some (by unfold parO; rw [ByteArray.toList_eq]; rfl)
  have hn := fun W => num41_all ⟨#[110, 117, 108, 108]⟩ W (by decide)
  generalize nOf _ = X at hn
  go_enter Tryd.func21, Tryd.ntmps21
  go_wp2_with (go_at_call 41; refine (hn _).mono ?_; rintro e w1 ⟨rfl, hb1⟩; obtain ⟨p1, p3⟩ := one_kept [.int .i64 0, .int .i64 0, .string ⟨#[]⟩] hb1; have hlt := Lib.hid (lt_of_block p1); have P := p1.later (Obj.cells #[Value.int IntKind.i64 1, Value.int IntKind.i64 X, Value.string { data := #[] }] 23); have B := Blk.born w1 23 [.int .i64 1, .int .i64 X, .string ⟨#[]⟩]; have q3 := p3.alloc p3.size (Obj.cells #[Value.int IntKind.i64 1, Value.int IntKind.i64 X, Value.string { data := #[] }] 23); have f0 := P.free 0; have f1 := P.free 1; have f2 := P.free 2; have c0 := P.at_ 0; have c1 := P.at_ 1; have c2 := P.at_ 2; have g0 := B.free 0; have g1 := B.free 1; have g2 := B.free 2; have d0 := B.at_ 0; have d1 := B.at_ 1; have d2 := B.at_ 2)
  obtain ⟨W, hW⟩ : ∃ W, W = (((w1.alloc (Obj.cells #[Value.int IntKind.i64 1, Value.int IntKind.i64 X, Value.string { data := #[] }] 23)).setCell ⟨w.heap.size, 0, none⟩ (.int .i64 0)).setCell ⟨w.heap.size, 1, none⟩ (.int .i64 0)).setCell ⟨w.heap.size, 2, none⟩ (.string ⟨#[]⟩) := ⟨_, rfl⟩
  have hWb : Blk W w.heap.size 23 [.int .i64 0, .int .i64 0, .string ⟨#[]⟩] := by rw [hW]; exact ((P.store 0 _).store 1 _).store 2 _
  have hbW : Below w.heap.size w W := by rw [hW]; exact ((q3.setCell (p := ⟨w.heap.size, 0, none⟩) (Nat.le_refl _) _).setCell (p := ⟨w.heap.size, 1, none⟩) (Nat.le_refl _) _).setCell (p := ⟨w.heap.size, 2, none⟩) (Nat.le_refl _) _
  rw [← hW]
  have e0 : W.cell? ⟨w.heap.size, 0, none⟩ = some (.int .i64 0) := hWb.at_ 0
  have e1 : W.cell? ⟨w.heap.size, 1, none⟩ = some (.int .i64 0) := hWb.at_ 1
  have e2 : W.cell? ⟨w.heap.size, 2, none⟩ = some (.string ⟨#[]⟩) := hWb.at_ 2
  exact bodyPost_ret (v := .tuple #[.agg #[.int .i64 0, .int .i64 0, .string ⟨#[]⟩], .int .i64 0]) (by simp [results, Tryd.results21, go_sem, e0, e1, e2]) rfl ⟨by rw [H.out], hbW⟩
set_option maxHeartbeats 4000000 in
set_option maxRecDepth 100000 in
theorem rparse_false (w : World) : Calls Tryd.prog 21 #[.string ⟨#[102, 97, 108, 115, 101]⟩] w fun e w' => e = .returned (parR ⟨#[102, 97, 108, 115, 101]⟩) ∧ Below w.heap.size w w' := by
  have H : Hid (parR ⟨#[102, 97, 108, 115, 101]⟩ = .tuple #[.agg #[.int .i64 2, .int .i64 0, .string ⟨#[]⟩], .int .i64 0]) := parR_some (by unfold parO; rw [ByteArray.toList_eq]; rfl)
  have hn := fun W => num41_all ⟨#[102, 97, 108, 115, 101]⟩ W (by decide)
  generalize nOf _ = X at hn
  go_enter Tryd.func21, Tryd.ntmps21
  go_wp2_with (go_at_call 41; refine (hn _).mono ?_; rintro e w1 ⟨rfl, hb1⟩; obtain ⟨p1, p3⟩ := one_kept [.int .i64 0, .int .i64 0, .string ⟨#[]⟩] hb1; have hlt := Lib.hid (lt_of_block p1); have P := p1.later (Obj.cells #[Value.int IntKind.i64 1, Value.int IntKind.i64 X, Value.string { data := #[] }] 23); have B := Blk.born w1 23 [.int .i64 1, .int .i64 X, .string ⟨#[]⟩]; have q3 := p3.alloc p3.size (Obj.cells #[Value.int IntKind.i64 1, Value.int IntKind.i64 X, Value.string { data := #[] }] 23); have f0 := P.free 0; have f1 := P.free 1; have f2 := P.free 2; have c0 := P.at_ 0; have c1 := P.at_ 1; have c2 := P.at_ 2; have g0 := B.free 0; have g1 := B.free 1; have g2 := B.free 2; have d0 := B.at_ 0; have d1 := B.at_ 1; have d2 := B.at_ 2; have P2 := p1.later (Obj.cells #[Value.int IntKind.i64 2, Value.int IntKind.i64 0, Value.string { data := #[] }] 23); have q4 := p3.alloc p3.size (Obj.cells #[Value.int IntKind.i64 2, Value.int IntKind.i64 0, Value.string { data := #[] }] 23); have h0 := P2.free 0; have h1 := P2.free 1; have h2 := P2.free 2; have i0 := P2.at_ 0; have i1 := P2.at_ 1; have i2 := P2.at_ 2)
  obtain ⟨W, hW⟩ : ∃ W, W = (((w1.alloc (Obj.cells #[Value.int IntKind.i64 2, Value.int IntKind.i64 0, Value.string { data := #[] }] 23)).setCell ⟨w.heap.size, 0, none⟩ (.int .i64 2)).setCell ⟨w.heap.size, 1, none⟩ (.int .i64 0)).setCell ⟨w.heap.size, 2, none⟩ (.string ⟨#[]⟩) := ⟨_, rfl⟩
  have hWb : Blk W w.heap.size 23 [.int .i64 2, .int .i64 0, .string ⟨#[]⟩] := by rw [hW]; exact ((P2.store 0 _).store 1 _).store 2 _
  have hbW : Below w.heap.size w W := by rw [hW]; exact ((q4.setCell (p := ⟨w.heap.size, 0, none⟩) (Nat.le_refl _) _).setCell (p := ⟨w.heap.size, 1, none⟩) (Nat.le_refl _) _).setCell (p := ⟨w.heap.size, 2, none⟩) (Nat.le_refl _) _
  rw [← hW]
  have e0 : W.cell? ⟨w.heap.size, 0, none⟩ = some (.int .i64 2) := hWb.at_ 0
  have e1 : W.cell? ⟨w.heap.size, 1, none⟩ = some (.int .i64 0) := hWb.at_ 1
  have e2 : W.cell? ⟨w.heap.size, 2, none⟩ = some (.string ⟨#[]⟩) := hWb.at_ 2
  exact bodyPost_ret (v := .tuple #[.agg #[.int .i64 2, .int .i64 0, .string ⟨#[]⟩], .int .i64 0]) (by simp [results, Tryd.results21, go_sem, e0, e1, e2]) rfl ⟨by rw [H.out], hbW⟩
set_option maxHeartbeats 4000000 in
set_option maxRecDepth 100000 in
theorem rparse_true (w : World) : Calls Tryd.prog 21 #[.string ⟨#[116, 114, 117, 101]⟩] w fun e w' => e = .returned (parR ⟨#[116, 114, 117, 101]⟩) ∧ Below w.heap.size w w' := by
  have H : Hid (parR ⟨#[116, 114, 117, 101]⟩ = .tuple #[.agg #[.int .i64 2, .int .i64 1, .string ⟨#[]⟩], .int .i64 0]) := parR_some (by unfold parO; rw [ByteArray.toList_eq]; rfl)
  have hn := fun W => num41_all ⟨#[116, 114, 117, 101]⟩ W (by decide)
  generalize nOf _ = X at hn
  go_enter Tryd.func21, Tryd.ntmps21
  go_wp2_with (go_at_call 41; refine (hn _).mono ?_; rintro e w1 ⟨rfl, hb1⟩; obtain ⟨p1, p3⟩ := one_kept [.int .i64 0, .int .i64 0, .string ⟨#[]⟩] hb1; have hlt := Lib.hid (lt_of_block p1); have P := p1.later (Obj.cells #[Value.int IntKind.i64 1, Value.int IntKind.i64 X, Value.string { data := #[] }] 23); have B := Blk.born w1 23 [.int .i64 1, .int .i64 X, .string ⟨#[]⟩]; have q3 := p3.alloc p3.size (Obj.cells #[Value.int IntKind.i64 1, Value.int IntKind.i64 X, Value.string { data := #[] }] 23); have f0 := P.free 0; have f1 := P.free 1; have f2 := P.free 2; have c0 := P.at_ 0; have c1 := P.at_ 1; have c2 := P.at_ 2; have g0 := B.free 0; have g1 := B.free 1; have g2 := B.free 2; have d0 := B.at_ 0; have d1 := B.at_ 1; have d2 := B.at_ 2; have P2 := p1.later (Obj.cells #[Value.int IntKind.i64 2, Value.int IntKind.i64 1, Value.string { data := #[] }] 23); have q4 := p3.alloc p3.size (Obj.cells #[Value.int IntKind.i64 2, Value.int IntKind.i64 1, Value.string { data := #[] }] 23); have h0 := P2.free 0; have h1 := P2.free 1; have h2 := P2.free 2; have i0 := P2.at_ 0; have i1 := P2.at_ 1; have i2 := P2.at_ 2)
  obtain ⟨W, hW⟩ : ∃ W, W = (((w1.alloc (Obj.cells #[Value.int IntKind.i64 2, Value.int IntKind.i64 1, Value.string { data := #[] }] 23)).setCell ⟨w.heap.size, 0, none⟩ (.int .i64 2)).setCell ⟨w.heap.size, 1, none⟩ (.int .i64 1)).setCell ⟨w.heap.size, 2, none⟩ (.string ⟨#[]⟩) := ⟨_, rfl⟩
  have hWb : Blk W w.heap.size 23 [.int .i64 2, .int .i64 1, .string ⟨#[]⟩] := by rw [hW]; exact ((P2.store 0 _).store 1 _).store 2 _
  have hbW : Below w.heap.size w W := by rw [hW]; exact ((q4.setCell (p := ⟨w.heap.size, 0, none⟩) (Nat.le_refl _) _).setCell (p := ⟨w.heap.size, 1, none⟩) (Nat.le_refl _) _).setCell (p := ⟨w.heap.size, 2, none⟩) (Nat.le_refl _) _
  rw [← hW]
  have e0 : W.cell? ⟨w.heap.size, 0, none⟩ = some (.int .i64 2) := hWb.at_ 0
  have e1 : W.cell? ⟨w.heap.size, 1, none⟩ = some (.int .i64 1) := hWb.at_ 1
  have e2 : W.cell? ⟨w.heap.size, 2, none⟩ = some (.string ⟨#[]⟩) := hWb.at_ 2
  exact bodyPost_ret (v := .tuple #[.agg #[.int .i64 2, .int .i64 1, .string ⟨#[]⟩], .int .i64 0]) (by simp [results, Tryd.results21, go_sem, e0, e1, e2]) rfl ⟨by rw [H.out], hbW⟩
set_option maxHeartbeats 4000000 in
set_option maxRecDepth 100000 in
theorem rparse_same (s : ByteArray) (w : World) (hs : s.size ≤ 140737488351232) (h1 : s.toList ≠ [110, 117, 108, 108]) (h2 : s.toList ≠ [102, 97, 108, 115, 101]) (h3 : s.toList ≠ [116, 114, 117, 101]) (hq : ¬ (2 ≤ s.size ∧ s.toList.head? = some 39)) (hi : (⟨(Lib.itoa (nOf s.data.toList)).toArray⟩ : ByteArray) = s) (hqq : (2 ≤ (s.size : Int)) → ∃ h : 0 < s.size, (((s[0]'h).toNat : Int) == 39) = false) : Calls Tryd.prog 21 #[.string s] w fun e w' => e = .returned (parR s) ∧ Below w.heap.size w w' := by
  have n1 : (s.toList == [110, 117, 108, 108]) = false := by rw [beq_eq_false_iff_ne]; exact h1
  have n2 : (s.toList == [102, 97, 108, 115, 101]) = false := by rw [beq_eq_false_iff_ne]; exact h2
  have n3 : (s.toList == [116, 114, 117, 101]) = false := by rw [beq_eq_false_iff_ne]; exact h3
  have H0 := par_num s h1 h2 h3 hq
  rw [if_pos hi] at H0
  have H1 := parR_some H0
  have hn := fun W => num41_all s W hs
  have hb := nof_in s.data.toList
  have hS := fun W => refshow_int (nOf s.data.toList) W hb.1 hb.2
  have t2 : (ByteArray.toList (⟨(Lib.itoa (nOf s.data.toList)).toArray⟩ : ByteArray) == s.toList) = true := by
    rw [beq_iff_eq, hi]
  generalize (⟨(Lib.itoa (nOf s.data.toList)).toArray⟩ : ByteArray) = S at hS t2
  generalize nOf s.data.toList = X at hn hS H1
  have H := Lib.hid H1
  have HH := Lib.hid (And.intro h1 (And.intro h2 (And.intro h3 (And.intro hq hi))))
  clear H0 H1 h1 h2 h3 hq hi hb
  by_cases hsz : (2 : Int) ≤ (s.size : Int)
  · obtain ⟨hlt0, t1⟩ := hqq hsz
    go_enter Tryd.func21, Tryd.ntmps21
    go_wp2_with (first | (go_at_call 41; refine (hn _).mono ?_; rintro e w1 ⟨rfl, hb1⟩; obtain ⟨p1, p3⟩ := one_kept [.int .i64 0, .int .i64 0, .string ⟨#[]⟩] hb1; have hlt := Lib.hid (lt_of_block p1); have P := p1.later (Obj.cells #[Value.int IntKind.i64 1, Value.int IntKind.i64 X, Value.string { data := #[] }] 23); have B := Blk.born w1 23 [.int .i64 1, .int .i64 X, .string ⟨#[]⟩]; have q3 := p3.alloc p3.size (Obj.cells #[Value.int IntKind.i64 1, Value.int IntKind.i64 X, Value.string { data := #[] }] 23); have f0 := P.free 0; have f1 := P.free 1; have f2 := P.free 2; have c0 := P.at_ 0; have c1 := P.at_ 1; have c2 := P.at_ 2; have g0 := B.free 0; have g1 := B.free 1; have g2 := B.free 2; have d0 := B.at_ 0; have d1 := B.at_ 1; have d2 := B.at_ 2) | (go_at_call 19; refine (hS _).mono ?_; rintro e w2 ⟨rfl, hb2⟩; have P5 := P.below hb2 (lt_of_block P); have B5 := B.below hb2 (lt_of_block B); have q5 := q3.trans (hb2.mono q3.size); have x0 := P5.free 0; have x1 := P5.free 1; have x2 := P5.free 2; have y0 := P5.at_ 0; have y1 := P5.at_ 1; have y2 := P5.at_ 2; have z0 := B5.at_ 0; have z1 := B5.at_ 1; have z2 := B5.at_ 2))
    obtain ⟨W, hW⟩ : ∃ W, W = ((w2.setCell ⟨w.heap.size, 0, none⟩ (.int .i64 1)).setCell ⟨w.heap.size, 1, none⟩ (.int .i64 X)).setCell ⟨w.heap.size, 2, none⟩ (.string ⟨#[]⟩) := ⟨_, rfl⟩
    have hWb : Blk W w.heap.size 23 [.int .i64 1, .int .i64 X, .string ⟨#[]⟩] := by rw [hW]; exact ((P5.store 0 _).store 1 _).store 2 _
    have hbW : Below w.heap.size w W := by rw [hW]; exact ((q5.setCell (p := ⟨w.heap.size, 0, none⟩) (Nat.le_refl _) _).setCell (p := ⟨w.heap.size, 1, none⟩) (Nat.le_refl _) _).setCell (p := ⟨w.heap.size, 2, none⟩) (Nat.le_refl _) _
    rw [← hW]
    have e0 : W.cell? ⟨w.heap.size, 0, none⟩ = some (.int .i64 1) := hWb.at_ 0
    have e1 : W.cell? ⟨w.heap.size, 1, none⟩ = some (.int .i64 X) := hWb.at_ 1
    have e2 : W.cell? ⟨w.heap.size, 2, none⟩ = some (.string ⟨#[]⟩) := hWb.at_ 2
    exact bodyPost_ret (v := .tuple #[.agg #[.int .i64 1, .int .i64 X, .string ⟨#[]⟩], .int .i64 0]) (by simp [results, Tryd.results21, go_sem, e0, e1, e2]) rfl ⟨by rw [H.out], hbW⟩
  · go_enter Tryd.func21, Tryd.ntmps21
    go_wp2_with (first | (go_at_call 41; refine (hn _).mono ?_; rintro e w1 ⟨rfl, hb1⟩; obtain ⟨p1, p3⟩ := one_kept [.int .i64 0, .int .i64 0, .string ⟨#[]⟩] hb1; have hlt := Lib.hid (lt_of_block p1); have P := p1.later (Obj.cells #[Value.int IntKind.i64 1, Value.int IntKind.i64 X, Value.string { data := #[] }] 23); have B := Blk.born w1 23 [.int .i64 1, .int .i64 X, .string ⟨#[]⟩]; have q3 := p3.alloc p3.size (Obj.cells #[Value.int IntKind.i64 1, Value.int IntKind.i64 X, Value.string { data := #[] }] 23); have f0 := P.free 0; have f1 := P.free 1; have f2 := P.free 2; have c0 := P.at_ 0; have c1 := P.at_ 1; have c2 := P.at_ 2; have g0 := B.free 0; have g1 := B.free 1; have g2 := B.free 2; have d0 := B.at_ 0; have d1 := B.at_ 1; have d2 := B.at_ 2) | (go_at_call 19; refine (hS _).mono ?_; rintro e w2 ⟨rfl, hb2⟩; have P5 := P.below hb2 (lt_of_block P); have B5 := B.below hb2 (lt_of_block B); have q5 := q3.trans (hb2.mono q3.size); have x0 := P5.free 0; have x1 := P5.free 1; have x2 := P5.free 2; have y0 := P5.at_ 0; have y1 := P5.at_ 1; have y2 := P5.at_ 2; have z0 := B5.at_ 0; have z1 := B5.at_ 1; have z2 := B5.at_ 2))
    obtain ⟨W, hW⟩ : ∃ W, W = ((w2.setCell ⟨w.heap.size, 0, none⟩ (.int .i64 1)).setCell ⟨w.heap.size, 1, none⟩ (.int .i64 X)).setCell ⟨w.heap.size, 2, none⟩ (.string ⟨#[]⟩) := ⟨_, rfl⟩
    have hWb : Blk W w.heap.size 23 [.int .i64 1, .int .i64 X, .string ⟨#[]⟩] := by rw [hW]; exact ((P5.store 0 _).store 1 _).store 2 _
    have hbW : Below w.heap.size w W := by rw [hW]; exact ((q5.setCell (p := ⟨w.heap.size, 0, none⟩) (Nat.le_refl _) _).setCell (p := ⟨w.heap.size, 1, none⟩) (Nat.le_refl _) _).setCell (p := ⟨w.heap.size, 2, none⟩) (Nat.le_refl _) _
    rw [← hW]
    have e0 : W.cell? ⟨w.heap.size, 0, none⟩ = some (.int .i64 1) := hWb.at_ 0
    have e1 : W.cell? ⟨w.heap.size, 1, none⟩ = some (.int .i64 X) := hWb.at_ 1
    have e2 : W.cell? ⟨w.heap.size, 2, none⟩ = some (.string ⟨#[]⟩) := hWb.at_ 2
    exact bodyPost_ret (v := .tuple #[.agg #[.int .i64 1, .int .i64 X, .string ⟨#[]⟩], .int .i64 0]) (by simp [results, Tryd.results21, go_sem, e0, e1, e2]) rfl ⟨by rw [H.out], hbW⟩
set_option maxHeartbeats 4000000 in
set_option maxRecDepth 100000 in
theorem rparse_other (s : ByteArray) (w : World) (hs : s.size ≤ 140737488351232) (h1 : s.toList ≠ [110, 117, 108, 108]) (h2 : s.toList ≠ [102, 97, 108, 115, 101]) (h3 : s.toList ≠ [116, 114, 117, 101]) (hq : ¬ (2 ≤ s.size ∧ s.toList.head? = some 39)) (hi : ¬ (⟨(Lib.itoa (nOf s.data.toList)).toArray⟩ : ByteArray) = s) (hqq : (2 ≤ (s.size : Int)) → ∃ h : 0 < s.size, (((s[0]'h).toNat : Int) == 39) = false) : Calls Tryd.prog 21 #[.string s] w fun e w' => e = .returned (parR s) ∧ Below w.heap.size w w' := by
  have n1 : (s.toList == [110, 117, 108, 108]) = false := by rw [beq_eq_false_iff_ne]; exact h1
  have n2 : (s.toList == [102, 97, 108, 115, 101]) = false := by rw [beq_eq_false_iff_ne]; exact h2
  have n3 : (s.toList == [116, 114, 117, 101]) = false := by rw [beq_eq_false_iff_ne]; exact h3
  have H0 := par_num s h1 h2 h3 hq
  rw [if_neg hi] at H0
  have H1 := parR_none H0
  have hn := fun W => num41_all s W hs
  have hb := nof_in s.data.toList
  have hS := fun W => refshow_int (nOf s.data.toList) W hb.1 hb.2
  have t2 : (ByteArray.toList (⟨(Lib.itoa (nOf s.data.toList)).toArray⟩ : ByteArray) == s.toList) = false := by
    rw [beq_eq_false_iff_ne]; intro e; exact hi (tol_inj e)
  generalize (⟨(Lib.itoa (nOf s.data.toList)).toArray⟩ : ByteArray) = S at hS t2
  generalize nOf s.data.toList = X at hn hS H1
  have H := Lib.hid H1
  have HH := Lib.hid (And.intro h1 (And.intro h2 (And.intro h3 (And.intro hq hi))))
  clear H0 H1 h1 h2 h3 hq hi hb
  by_cases hsz : (2 : Int) ≤ (s.size : Int)
  · obtain ⟨hlt0, t1⟩ := hqq hsz
    go_enter Tryd.func21, Tryd.ntmps21
    go_wp2_with (first | (go_at_call 41; refine (hn _).mono ?_; rintro e w1 ⟨rfl, hb1⟩; obtain ⟨p1, p3⟩ := one_kept [.int .i64 0, .int .i64 0, .string ⟨#[]⟩] hb1; have hlt := Lib.hid (lt_of_block p1); have P := p1.later (Obj.cells #[Value.int IntKind.i64 1, Value.int IntKind.i64 X, Value.string { data := #[] }] 23); have B := Blk.born w1 23 [.int .i64 1, .int .i64 X, .string ⟨#[]⟩]; have q3 := p3.alloc p3.size (Obj.cells #[Value.int IntKind.i64 1, Value.int IntKind.i64 X, Value.string { data := #[] }] 23); have f0 := P.free 0; have f1 := P.free 1; have f2 := P.free 2; have c0 := P.at_ 0; have c1 := P.at_ 1; have c2 := P.at_ 2; have g0 := B.free 0; have g1 := B.free 1; have g2 := B.free 2; have d0 := B.at_ 0; have d1 := B.at_ 1; have d2 := B.at_ 2) | (go_at_call 19; refine (hS _).mono ?_; rintro e w2 ⟨rfl, hb2⟩; have P5 := P.below hb2 (lt_of_block P); have B5 := B.below hb2 (lt_of_block B); have q5 := q3.trans (hb2.mono q3.size); have x0 := P5.free 0; have x1 := P5.free 1; have x2 := P5.free 2; have y0 := P5.at_ 0; have y1 := P5.at_ 1; have y2 := P5.at_ 2; have z0 := B5.at_ 0; have z1 := B5.at_ 1; have z2 := B5.at_ 2))
    obtain ⟨W, hW⟩ : ∃ W, W = ((w2.setCell ⟨w.heap.size, 0, none⟩ (.int .i64 0)).setCell ⟨w.heap.size, 1, none⟩ (.int .i64 0)).setCell ⟨w.heap.size, 2, none⟩ (.string ⟨#[]⟩) := ⟨_, rfl⟩
    have hWb : Blk W w.heap.size 23 [.int .i64 0, .int .i64 0, .string ⟨#[]⟩] := by rw [hW]; exact ((P5.store 0 _).store 1 _).store 2 _
    have hbW : Below w.heap.size w W := by rw [hW]; exact ((q5.setCell (p := ⟨w.heap.size, 0, none⟩) (Nat.le_refl _) _).setCell (p := ⟨w.heap.size, 1, none⟩) (Nat.le_refl _) _).setCell (p := ⟨w.heap.size, 2, none⟩) (Nat.le_refl _) _
    rw [← hW]
    have e0 : W.cell? ⟨w.heap.size, 0, none⟩ = some (.int .i64 0) := hWb.at_ 0
    have e1 : W.cell? ⟨w.heap.size, 1, none⟩ = some (.int .i64 0) := hWb.at_ 1
    have e2 : W.cell? ⟨w.heap.size, 2, none⟩ = some (.string ⟨#[]⟩) := hWb.at_ 2
    exact bodyPost_ret (v := .tuple #[.agg #[.int .i64 0, .int .i64 0, .string ⟨#[]⟩], .int .i64 40]) (by simp [results, Tryd.results21, go_sem, e0, e1, e2]) rfl ⟨by rw [H.out], hbW⟩
  · go_enter Tryd.func21, Tryd.ntmps21
    go_wp2_with (first | (go_at_call 41; refine (hn _).mono ?_; rintro e w1 ⟨rfl, hb1⟩; obtain ⟨p1, p3⟩ := one_kept [.int .i64 0, .int .i64 0, .string ⟨#[]⟩] hb1; have hlt := Lib.hid (lt_of_block p1); have P := p1.later (Obj.cells #[Value.int IntKind.i64 1, Value.int IntKind.i64 X, Value.string { data := #[] }] 23); have B := Blk.born w1 23 [.int .i64 1, .int .i64 X, .string ⟨#[]⟩]; have q3 := p3.alloc p3.size (Obj.cells #[Value.int IntKind.i64 1, Value.int IntKind.i64 X, Value.string { data := #[] }] 23); have f0 := P.free 0; have f1 := P.free 1; have f2 := P.free 2; have c0 := P.at_ 0; have c1 := P.at_ 1; have c2 := P.at_ 2; have g0 := B.free 0; have g1 := B.free 1; have g2 := B.free 2; have d0 := B.at_ 0; have d1 := B.at_ 1; have d2 := B.at_ 2) | (go_at_call 19; refine (hS _).mono ?_; rintro e w2 ⟨rfl, hb2⟩; have P5 := P.below hb2 (lt_of_block P); have B5 := B.below hb2 (lt_of_block B); have q5 := q3.trans (hb2.mono q3.size); have x0 := P5.free 0; have x1 := P5.free 1; have x2 := P5.free 2; have y0 := P5.at_ 0; have y1 := P5.at_ 1; have y2 := P5.at_ 2; have z0 := B5.at_ 0; have z1 := B5.at_ 1; have z2 := B5.at_ 2))
    obtain ⟨W, hW⟩ : ∃ W, W = ((w2.setCell ⟨w.heap.size, 0, none⟩ (.int .i64 0)).setCell ⟨w.heap.size, 1, none⟩ (.int .i64 0)).setCell ⟨w.heap.size, 2, none⟩ (.string ⟨#[]⟩) := ⟨_, rfl⟩
    have hWb : Blk W w.heap.size 23 [.int .i64 0, .int .i64 0, .string ⟨#[]⟩] := by rw [hW]; exact ((P5.store 0 _).store 1 _).store 2 _
    have hbW : Below w.heap.size w W := by rw [hW]; exact ((q5.setCell (p := ⟨w.heap.size, 0, none⟩) (Nat.le_refl _) _).setCell (p := ⟨w.heap.size, 1, none⟩) (Nat.le_refl _) _).setCell (p := ⟨w.heap.size, 2, none⟩) (Nat.le_refl _) _
    rw [← hW]
    have e0 : W.cell? ⟨w.heap.size, 0, none⟩ = some (.int .i64 0) := hWb.at_ 0
    have e1 : W.cell? ⟨w.heap.size, 1, none⟩ = some (.int .i64 0) := hWb.at_ 1
    have e2 : W.cell? ⟨w.heap.size, 2, none⟩ = some (.string ⟨#[]⟩) := hWb.at_ 2
    exact bodyPost_ret (v := .tuple #[.agg #[.int .i64 0, .int .i64 0, .string ⟨#[]⟩], .int .i64 40]) (by simp [results, Tryd.results21, go_sem, e0, e1, e2]) rfl ⟨by rw [H.out], hbW⟩
end Go.Proofs.YtlflhigphfnhoaaDoor

/- The walk of the document's Parse (21), of quoted texts. -/
namespace Go.Proofs.YtlflhigphfnhoaaDoor
open Go.RowKit
set_option linter.unusedVariables false

theorem mid_len (l : List UInt8) : (midOf l).length = l.length - 2 := by
  unfold midOf
  rw [List.length_take, List.length_drop]
  omega
theorem mid_get (l : List UInt8) (j : Nat) (h : j < (midOf l).length) : (midOf l)[j] = l[j + 1]'(by rw [mid_len] at h; omega) := by
  simp [midOf]
set_option maxHeartbeats 4000000 in
set_option maxRecDepth 100000 in
theorem rparse_qsame (s : ByteArray) (w : World) (hs : s.size ≤ 140737488351232) (h2s : 2 ≤ s.size) (hq : s[0]'(by omega) = 39) (hi : (runq (midOf s.data.toList)).length ≤ 1024) (he : (⟨(quoteL (runq (midOf s.data.toList))).toArray⟩ : ByteArray) = s) : Calls Tryd.prog 21 #[.string s] w fun e w' => e = .returned (parR s) ∧ Below w.heap.size w w' := by
  have hh : s.toList.head? = some 39 := by rw [head_at (by omega), hq]
  have hw : ∀ (x : UInt8) (l : List UInt8), x ≠ 39 → (s.toList == x :: l) = false := by
    intro x l hx
    rw [beq_eq_false_iff_ne]
    intro e
    rw [e] at hh
    exact hx (by simpa using hh)
  have n1 := hw 110 [117, 108, 108] (by decide)
  have n2 := hw 102 [97, 108, 115, 101] (by decide)
  have n3 := hw 116 [114, 117, 101] (by decide)
  have H0 := par_quoted s hh
  rw [if_pos ⟨hi, he⟩] at H0
  have H1 := parR_some H0
  have hn := fun W => num41_all s W hs
  have t1 : (((s[0]'(by omega)).toNat : Int) == 39) = true := by rw [hq]; rfl
  have hsz : (2 : Int) ≤ (s.size : Int) := by omega
  have hml : (midOf s.data.toList).length + 2 = s.size := by rw [mid_len, txt_len']; omega
  have hmg : ∀ (k : Nat) (h1 : 1 ≤ k) (h2 : k + 1 < s.size), (midOf s.data.toList)[k - 1]'(by omega) = s[k]'(by omega) := by
    intro k h1 h2
    rw [mid_get]
    obtain ⟨j, rfl⟩ : ∃ j, k = j + 1 := ⟨k - 1, by omega⟩
    rfl
  have hrl := runq_len _ (midOf s.data.toList) (Nat.le_refl _)
  obtain ⟨d0, hd0⟩ : ∃ d0, d0 = runq (midOf s.data.toList) := ⟨_, rfl⟩
  rw [← hd0] at hi hrl he H1
  have hS := fun W => refshow_text ⟨d0.toArray⟩ W (by show d0.toArray.size ≤ 1024; simpa using hi)
  rw [show (⟨(quoteL (⟨d0.toArray⟩ : ByteArray).data.toList).toArray⟩ : ByteArray) = s from he] at hS
  generalize nOf s.data.toList = X at hn
  have H := Lib.hid H1
  have HD := Lib.hid hd0
  have HW := Lib.hid hw
  have HM := Lib.hid hmg
  have HI := Lib.hid hi
  clear hw H0 H1 hd0 hh hq hmg hi he
  go_enter Tryd.func21, Tryd.ntmps21
  go_wp2_with (go_at_call 41; refine (hn _).mono ?_; rintro e w1 ⟨rfl, hb1⟩; obtain ⟨p1, p3⟩ := one_kept [.int .i64 0, .int .i64 0, .string ⟨#[]⟩] hb1; have hlt := Lib.hid (lt_of_block p1); have P := p1.later (Obj.cells #[Value.int IntKind.i64 1, Value.int IntKind.i64 X, Value.string { data := #[] }] 23); have B := Blk.born w1 23 [.int .i64 1, .int .i64 X, .string ⟨#[]⟩]; have q3 := p3.alloc p3.size (Obj.cells #[Value.int IntKind.i64 1, Value.int IntKind.i64 X, Value.string { data := #[] }] 23); have f0 := P.free 0; have f1 := P.free 1; have f2 := P.free 2; have c0 := P.at_ 0; have c1 := P.at_ 1; have c2 := P.at_ 2; have g0 := B.free 0; have g1 := B.free 1; have g2 := B.free 2; have d0 := B.at_ 0; have d1 := B.at_ 1; have d2 := B.at_ 2)
  have hbz : w1.heap.size ≤ (w1.alloc (Obj.cells #[Value.int IntKind.i64 3, Value.int IntKind.i64 0, Value.string { data := #[] }] 23)).heap.size := by simp
  obtain ⟨WB, hWB⟩ : ∃ WB, WB = w1.alloc (Obj.cells #[Value.int IntKind.i64 3, Value.int IntKind.i64 0, Value.string { data := #[] }] 23) := ⟨_, rfl⟩
  have PB : Blk WB w.heap.size 23 [.int .i64 0, .int .i64 0, .string ⟨#[]⟩] := by rw [hWB]; exact p1.later _
  have BB : Blk WB w1.heap.size 23 [.int .i64 3, .int .i64 0, .string ⟨#[]⟩] := by rw [hWB]; exact Blk.born w1 23 [.int .i64 3, .int .i64 0, .string ⟨#[]⟩]
  have QB : Below w.heap.size w WB := by rw [hWB]; exact p3.alloc p3.size _
  rw [← hWB]
  clear hbz f0 f1 f2 c0 c1 c2 g0 g1 g2 d0 d1 d2 P B q3
  have HQB := Lib.hid (And.intro PB (And.intro BB QB))
  have hltB : w1.heap.size < WB.heap.size := lt_of_block BB
  have hltP : w.heap.size < w1.heap.size := hlt.out
  have HL := Lib.hid (And.intro hltB hltP)
  clear PB BB QB hltB hltP hWB hb1 p1 p3
  go_loopg [5, 6] (s.size - 1) (fun g v i wr => ∃ (k : Nat) (d : List UInt8), g = s.size - k ∧ 1 ≤ k ∧ k ≤ s.size ∧ i = .int .i64 k ∧ RqAt (midOf s.data.toList) d (k - 1) ∧ Own wr WB.heap.size v d ∧ Below WB.heap.size WB wr)
  case atStart => exact ⟨1, [], rfl, Nat.le_refl _, by omega, rfl, rfl, Own.nil _ _, Below.refl _ _⟩
  case round =>
    obtain ⟨k, d, rfl, hk1, hks, rfl, hR, hown, hbr⟩ := hrel
    have hdl := hR.len
    rw [← HD.out] at hdl
    have HR := Lib.hid hR
    have HBR := Lib.hid hbr
    clear hR hbr
    by_cases hlt' : k + 1 < s.size
    · have hk : k < s.size := by omega
      have klt : (k : Int) < (s.size : Int) - 1 := by omega
      have hmk := HM.out k hk1 hlt'
      by_cases hc : s[k] = 39
      · have t3 : ((s[k].toNat : Int) == 39) = true := by rw [hc]; rfl
        have HN : Hid (RqAt (midOf s.data.toList) (d ++ [s[k]]) (k + 2 - 1)) := by
          have := HR.out.two (by omega) (by rw [hmk]; exact hc)
          rw [hmk] at this
          rw [show k + 2 - 1 = k - 1 + 2 by omega]
          exact this
        clear hc hmk
        go_wp2_with (at_builtin; refine app_byt WB rfl _ _ rfl _ d rfl (hown.alloc _) (HBR.out.alloc HBR.out.size _) (some ⟨wr.heap.size, 0, none⟩) 1 1 [s[k]] rfl rfl (byt_one wr s[k] _ rfl) (by simp) (by simp; omega) ?_; intro v5 w5 hown5 hbel5 _)
        go_roundg (s.size - (k + 2))
        case measure => omega
        case rel => exact ⟨k + 2, d ++ [s[k]], rfl, by omega, by omega, by go_num, HN.out, hown5, hbel5⟩
      · have t3 : ((s[k].toNat : Int) == 39) = false := by
          rw [beq_eq_false_iff_ne]
          intro e
          exact hc (UInt8.toNat_inj.1 (by have : (39 : UInt8).toNat = 39 := rfl; omega))
        have HN : Hid (RqAt (midOf s.data.toList) (d ++ [s[k]]) (k + 1 - 1)) := by
          have := HR.out.byte (by omega) (by rw [hmk]; exact hc)
          rw [hmk] at this
          rw [show k + 1 - 1 = k - 1 + 1 by omega]
          exact this
        clear hc hmk
        go_wp2_with (at_builtin; refine app_byt WB rfl _ _ rfl _ d rfl (hown.alloc _) (HBR.out.alloc HBR.out.size _) (some ⟨wr.heap.size, 0, none⟩) 1 1 [s[k]] rfl rfl (byt_one wr s[k] _ rfl) (by simp) (by simp; omega) ?_; intro v5 w5 hown5 hbel5 _)
        go_roundg (s.size - (k + 1))
        case measure => omega
        case rel => exact ⟨k + 1, d ++ [s[k]], rfl, by omega, by omega, by go_num, HN.out, hown5, hbel5⟩
    · have klt : ¬ (k : Int) < (s.size : Int) - 1 := by omega
      have hdd : d = d0 := by rw [HD.out]; exact HR.out.done (by omega)
      subst hdd
      obtain ⟨A5, c5, rfl, hy5, _, _, _⟩ := hown.form
      have q1 := conv hy5 c5
      obtain ⟨PB, BB, QB⟩ := HQB.out
      have PBr := PB.below HBR.out (by have := HL.out; omega)
      have BBr := BB.below HBR.out HL.out.1
      have QBr := QB.trans (HBR.out.mono QB.size)
      have bs : Below w1.heap.size wr (wr.setCell ⟨w1.heap.size, 2, none⟩ (.string (str d))) := (Below.refl _ _).setCell (p := ⟨w1.heap.size, 2, none⟩) (Nat.le_refl _) _
      have BBs : Blk (wr.setCell ⟨w1.heap.size, 2, none⟩ (.string (str d))) w1.heap.size 23 [.int .i64 3, .int .i64 0, .string (str d)] := BBr.store 2 _
      have PBs := PBr.below bs HL.out.2
      have QBs := QBr.setCell (p := ⟨w1.heap.size, 2, none⟩) (Nat.le_of_lt HL.out.2) (.string (str d))
      have f2 := BBr.free 2
      have c2 : wr.cell? ⟨w1.heap.size, 2, none⟩ = some (.string ⟨#[]⟩) := BBr.at_ 2
      have g0 : (wr.setCell ⟨w1.heap.size, 2, none⟩ (.string (str d))).cell? ⟨w1.heap.size, 0, none⟩ = some (.int .i64 3) := BBs.at_ 0
      have g1 : (wr.setCell ⟨w1.heap.size, 2, none⟩ (.string (str d))).cell? ⟨w1.heap.size, 1, none⟩ = some (.int .i64 0) := BBs.at_ 1
      have g2 : (wr.setCell ⟨w1.heap.size, 2, none⟩ (.string (str d))).cell? ⟨w1.heap.size, 2, none⟩ = some (.string (str d)) := BBs.at_ 2
      have hstr : (⟨d.toArray⟩ : ByteArray) = str d := rfl
      rw [hstr] at hS
      have HH := Lib.hid H
      go_wp2_with (go_at_call 19; refine (hS _).mono ?_; rintro e w2 ⟨rfl, hb2⟩; have P5 := PBs.below hb2 (lt_of_block PBs); have B5 := BBs.below hb2 (lt_of_block BBs); have q5 := QBs.trans (hb2.mono QBs.size); have x0 := P5.free 0; have x1 := P5.free 1; have x2 := P5.free 2; have y0 := P5.at_ 0; have y1 := P5.at_ 1; have y2 := P5.at_ 2; have z0 : w2.cell? ⟨w1.heap.size, 0, none⟩ = some (.int .i64 3) := B5.at_ 0; have z1 : w2.cell? ⟨w1.heap.size, 1, none⟩ = some (.int .i64 0) := B5.at_ 1; have z2 : w2.cell? ⟨w1.heap.size, 2, none⟩ = some (.string (str d)) := B5.at_ 2)
      obtain ⟨W, hW⟩ : ∃ W, W = ((w2.setCell ⟨w.heap.size, 0, none⟩ (.int .i64 3)).setCell ⟨w.heap.size, 1, none⟩ (.int .i64 0)).setCell ⟨w.heap.size, 2, none⟩ (.string (str d)) := ⟨_, rfl⟩
      have hWb : Blk W w.heap.size 23 [.int .i64 3, .int .i64 0, .string (str d)] := by rw [hW]; exact ((P5.store 0 _).store 1 _).store 2 _
      have hbW : Below w.heap.size w W := by rw [hW]; exact ((q5.setCell (p := ⟨w.heap.size, 0, none⟩) (Nat.le_refl _) _).setCell (p := ⟨w.heap.size, 1, none⟩) (Nat.le_refl _) _).setCell (p := ⟨w.heap.size, 2, none⟩) (Nat.le_refl _) _
      rw [← hW]
      have e0 : W.cell? ⟨w.heap.size, 0, none⟩ = some (.int .i64 3) := hWb.at_ 0
      have e1 : W.cell? ⟨w.heap.size, 1, none⟩ = some (.int .i64 0) := hWb.at_ 1
      have e2 : W.cell? ⟨w.heap.size, 2, none⟩ = some (.string (str d)) := hWb.at_ 2
      exact bodyPost_ret (v := .tuple #[.agg #[.int .i64 3, .int .i64 0, .string (str d)], .int .i64 0]) (by simp [results, Tryd.results21, go_sem, e0, e1, e2]) rfl ⟨by rw [H.out]; rfl, hbW⟩
set_option maxHeartbeats 4000000 in
set_option maxRecDepth 100000 in
theorem rparse_qother (s : ByteArray) (w : World) (hs : s.size ≤ 140737488351232) (h2s : 2 ≤ s.size) (hq : s[0]'(by omega) = 39) (hi : (runq (midOf s.data.toList)).length ≤ 1024) (he : ¬ (⟨(quoteL (runq (midOf s.data.toList))).toArray⟩ : ByteArray) = s) : Calls Tryd.prog 21 #[.string s] w fun e w' => e = .returned (parR s) ∧ Below w.heap.size w w' := by
  have hh : s.toList.head? = some 39 := by rw [head_at (by omega), hq]
  have hw : ∀ (x : UInt8) (l : List UInt8), x ≠ 39 → (s.toList == x :: l) = false := by
    intro x l hx
    rw [beq_eq_false_iff_ne]
    intro e
    rw [e] at hh
    exact hx (by simpa using hh)
  have n1 := hw 110 [117, 108, 108] (by decide)
  have n2 := hw 102 [97, 108, 115, 101] (by decide)
  have n3 := hw 116 [114, 117, 101] (by decide)
  have H0 := par_quoted s hh
  rw [if_neg (fun h => he h.2)] at H0
  have H1 := parR_none H0
  have hn := fun W => num41_all s W hs
  have t1 : (((s[0]'(by omega)).toNat : Int) == 39) = true := by rw [hq]; rfl
  have hsz : (2 : Int) ≤ (s.size : Int) := by omega
  have hml : (midOf s.data.toList).length + 2 = s.size := by rw [mid_len, txt_len']; omega
  have hmg : ∀ (k : Nat) (h1 : 1 ≤ k) (h2 : k + 1 < s.size), (midOf s.data.toList)[k - 1]'(by omega) = s[k]'(by omega) := by
    intro k h1 h2
    rw [mid_get]
    obtain ⟨j, rfl⟩ : ∃ j, k = j + 1 := ⟨k - 1, by omega⟩
    rfl
  have hrl := runq_len _ (midOf s.data.toList) (Nat.le_refl _)
  obtain ⟨d0, hd0⟩ : ∃ d0, d0 = runq (midOf s.data.toList) := ⟨_, rfl⟩
  rw [← hd0] at hi hrl he 
  have hS := fun W => refshow_text ⟨d0.toArray⟩ W (by show d0.toArray.size ≤ 1024; simpa using hi)
  have t2 : (ByteArray.toList (⟨(quoteL (⟨d0.toArray⟩ : ByteArray).data.toList).toArray⟩ : ByteArray) == s.toList) = false := by
    rw [beq_eq_false_iff_ne]; intro e; exact he (tol_inj e)
  generalize (⟨(quoteL (⟨d0.toArray⟩ : ByteArray).data.toList).toArray⟩ : ByteArray) = S at hS t2
  generalize nOf s.data.toList = X at hn
  have H := Lib.hid H1
  have HD := Lib.hid hd0
  have HW := Lib.hid hw
  have HM := Lib.hid hmg
  have HI := Lib.hid hi
  clear hw H0 H1 hd0 hh hq hmg hi he
  go_enter Tryd.func21, Tryd.ntmps21
  go_wp2_with (go_at_call 41; refine (hn _).mono ?_; rintro e w1 ⟨rfl, hb1⟩; obtain ⟨p1, p3⟩ := one_kept [.int .i64 0, .int .i64 0, .string ⟨#[]⟩] hb1; have hlt := Lib.hid (lt_of_block p1); have P := p1.later (Obj.cells #[Value.int IntKind.i64 1, Value.int IntKind.i64 X, Value.string { data := #[] }] 23); have B := Blk.born w1 23 [.int .i64 1, .int .i64 X, .string ⟨#[]⟩]; have q3 := p3.alloc p3.size (Obj.cells #[Value.int IntKind.i64 1, Value.int IntKind.i64 X, Value.string { data := #[] }] 23); have f0 := P.free 0; have f1 := P.free 1; have f2 := P.free 2; have c0 := P.at_ 0; have c1 := P.at_ 1; have c2 := P.at_ 2; have g0 := B.free 0; have g1 := B.free 1; have g2 := B.free 2; have d0 := B.at_ 0; have d1 := B.at_ 1; have d2 := B.at_ 2)
  have hbz : w1.heap.size ≤ (w1.alloc (Obj.cells #[Value.int IntKind.i64 3, Value.int IntKind.i64 0, Value.string { data := #[] }] 23)).heap.size := by simp
  obtain ⟨WB, hWB⟩ : ∃ WB, WB = w1.alloc (Obj.cells #[Value.int IntKind.i64 3, Value.int IntKind.i64 0, Value.string { data := #[] }] 23) := ⟨_, rfl⟩
  have PB : Blk WB w.heap.size 23 [.int .i64 0, .int .i64 0, .string ⟨#[]⟩] := by rw [hWB]; exact p1.later _
  have BB : Blk WB w1.heap.size 23 [.int .i64 3, .int .i64 0, .string ⟨#[]⟩] := by rw [hWB]; exact Blk.born w1 23 [.int .i64 3, .int .i64 0, .string ⟨#[]⟩]
  have QB : Below w.heap.size w WB := by rw [hWB]; exact p3.alloc p3.size _
  rw [← hWB]
  clear hbz f0 f1 f2 c0 c1 c2 g0 g1 g2 d0 d1 d2 P B q3
  have HQB := Lib.hid (And.intro PB (And.intro BB QB))
  have hltB : w1.heap.size < WB.heap.size := lt_of_block BB
  have hltP : w.heap.size < w1.heap.size := hlt.out
  have HL := Lib.hid (And.intro hltB hltP)
  clear PB BB QB hltB hltP hWB hb1 p1 p3
  go_loopg [5, 6] (s.size - 1) (fun g v i wr => ∃ (k : Nat) (d : List UInt8), g = s.size - k ∧ 1 ≤ k ∧ k ≤ s.size ∧ i = .int .i64 k ∧ RqAt (midOf s.data.toList) d (k - 1) ∧ Own wr WB.heap.size v d ∧ Below WB.heap.size WB wr)
  case atStart => exact ⟨1, [], rfl, Nat.le_refl _, by omega, rfl, rfl, Own.nil _ _, Below.refl _ _⟩
  case round =>
    obtain ⟨k, d, rfl, hk1, hks, rfl, hR, hown, hbr⟩ := hrel
    have hdl := hR.len
    rw [← HD.out] at hdl
    have HR := Lib.hid hR
    have HBR := Lib.hid hbr
    clear hR hbr
    by_cases hlt' : k + 1 < s.size
    · have hk : k < s.size := by omega
      have klt : (k : Int) < (s.size : Int) - 1 := by omega
      have hmk := HM.out k hk1 hlt'
      by_cases hc : s[k] = 39
      · have t3 : ((s[k].toNat : Int) == 39) = true := by rw [hc]; rfl
        have HN : Hid (RqAt (midOf s.data.toList) (d ++ [s[k]]) (k + 2 - 1)) := by
          have := HR.out.two (by omega) (by rw [hmk]; exact hc)
          rw [hmk] at this
          rw [show k + 2 - 1 = k - 1 + 2 by omega]
          exact this
        clear hc hmk
        go_wp2_with (at_builtin; refine app_byt WB rfl _ _ rfl _ d rfl (hown.alloc _) (HBR.out.alloc HBR.out.size _) (some ⟨wr.heap.size, 0, none⟩) 1 1 [s[k]] rfl rfl (byt_one wr s[k] _ rfl) (by simp) (by simp; omega) ?_; intro v5 w5 hown5 hbel5 _)
        go_roundg (s.size - (k + 2))
        case measure => omega
        case rel => exact ⟨k + 2, d ++ [s[k]], rfl, by omega, by omega, by go_num, HN.out, hown5, hbel5⟩
      · have t3 : ((s[k].toNat : Int) == 39) = false := by
          rw [beq_eq_false_iff_ne]
          intro e
          exact hc (UInt8.toNat_inj.1 (by have : (39 : UInt8).toNat = 39 := rfl; omega))
        have HN : Hid (RqAt (midOf s.data.toList) (d ++ [s[k]]) (k + 1 - 1)) := by
          have := HR.out.byte (by omega) (by rw [hmk]; exact hc)
          rw [hmk] at this
          rw [show k + 1 - 1 = k - 1 + 1 by omega]
          exact this
        clear hc hmk
        go_wp2_with (at_builtin; refine app_byt WB rfl _ _ rfl _ d rfl (hown.alloc _) (HBR.out.alloc HBR.out.size _) (some ⟨wr.heap.size, 0, none⟩) 1 1 [s[k]] rfl rfl (byt_one wr s[k] _ rfl) (by simp) (by simp; omega) ?_; intro v5 w5 hown5 hbel5 _)
        go_roundg (s.size - (k + 1))
        case measure => omega
        case rel => exact ⟨k + 1, d ++ [s[k]], rfl, by omega, by omega, by go_num, HN.out, hown5, hbel5⟩
    · have klt : ¬ (k : Int) < (s.size : Int) - 1 := by omega
      have hdd : d = d0 := by rw [HD.out]; exact HR.out.done (by omega)
      subst hdd
      obtain ⟨A5, c5, rfl, hy5, _, _, _⟩ := hown.form
      have q1 := conv hy5 c5
      obtain ⟨PB, BB, QB⟩ := HQB.out
      have PBr := PB.below HBR.out (by have := HL.out; omega)
      have BBr := BB.below HBR.out HL.out.1
      have QBr := QB.trans (HBR.out.mono QB.size)
      have bs : Below w1.heap.size wr (wr.setCell ⟨w1.heap.size, 2, none⟩ (.string (str d))) := (Below.refl _ _).setCell (p := ⟨w1.heap.size, 2, none⟩) (Nat.le_refl _) _
      have BBs : Blk (wr.setCell ⟨w1.heap.size, 2, none⟩ (.string (str d))) w1.heap.size 23 [.int .i64 3, .int .i64 0, .string (str d)] := BBr.store 2 _
      have PBs := PBr.below bs HL.out.2
      have QBs := QBr.setCell (p := ⟨w1.heap.size, 2, none⟩) (Nat.le_of_lt HL.out.2) (.string (str d))
      have f2 := BBr.free 2
      have c2 : wr.cell? ⟨w1.heap.size, 2, none⟩ = some (.string ⟨#[]⟩) := BBr.at_ 2
      have g0 : (wr.setCell ⟨w1.heap.size, 2, none⟩ (.string (str d))).cell? ⟨w1.heap.size, 0, none⟩ = some (.int .i64 3) := BBs.at_ 0
      have g1 : (wr.setCell ⟨w1.heap.size, 2, none⟩ (.string (str d))).cell? ⟨w1.heap.size, 1, none⟩ = some (.int .i64 0) := BBs.at_ 1
      have g2 : (wr.setCell ⟨w1.heap.size, 2, none⟩ (.string (str d))).cell? ⟨w1.heap.size, 2, none⟩ = some (.string (str d)) := BBs.at_ 2
      have hstr : (⟨d.toArray⟩ : ByteArray) = str d := rfl
      rw [hstr] at hS
      have HH := Lib.hid H
      go_wp2_with (go_at_call 19; refine (hS _).mono ?_; rintro e w2 ⟨rfl, hb2⟩; have P5 := PBs.below hb2 (lt_of_block PBs); have B5 := BBs.below hb2 (lt_of_block BBs); have q5 := QBs.trans (hb2.mono QBs.size); have x0 := P5.free 0; have x1 := P5.free 1; have x2 := P5.free 2; have y0 := P5.at_ 0; have y1 := P5.at_ 1; have y2 := P5.at_ 2; have z0 : w2.cell? ⟨w1.heap.size, 0, none⟩ = some (.int .i64 3) := B5.at_ 0; have z1 : w2.cell? ⟨w1.heap.size, 1, none⟩ = some (.int .i64 0) := B5.at_ 1; have z2 : w2.cell? ⟨w1.heap.size, 2, none⟩ = some (.string (str d)) := B5.at_ 2)
      obtain ⟨W, hW⟩ : ∃ W, W = ((w2.setCell ⟨w.heap.size, 0, none⟩ (.int .i64 0)).setCell ⟨w.heap.size, 1, none⟩ (.int .i64 0)).setCell ⟨w.heap.size, 2, none⟩ (.string ⟨#[]⟩) := ⟨_, rfl⟩
      have hWb : Blk W w.heap.size 23 [.int .i64 0, .int .i64 0, .string ⟨#[]⟩] := by rw [hW]; exact ((P5.store 0 _).store 1 _).store 2 _
      have hbW : Below w.heap.size w W := by rw [hW]; exact ((q5.setCell (p := ⟨w.heap.size, 0, none⟩) (Nat.le_refl _) _).setCell (p := ⟨w.heap.size, 1, none⟩) (Nat.le_refl _) _).setCell (p := ⟨w.heap.size, 2, none⟩) (Nat.le_refl _) _
      rw [← hW]
      have e0 : W.cell? ⟨w.heap.size, 0, none⟩ = some (.int .i64 0) := hWb.at_ 0
      have e1 : W.cell? ⟨w.heap.size, 1, none⟩ = some (.int .i64 0) := hWb.at_ 1
      have e2 : W.cell? ⟨w.heap.size, 2, none⟩ = some (.string ⟨#[]⟩) := hWb.at_ 2
      exact bodyPost_ret (v := .tuple #[.agg #[.int .i64 0, .int .i64 0, .string ⟨#[]⟩], .int .i64 40]) (by simp [results, Tryd.results21, go_sem, e0, e1, e2]) rfl ⟨by rw [H.out], hbW⟩
set_option maxHeartbeats 4000000 in
set_option maxRecDepth 100000 in
theorem rparse_qlong (s : ByteArray) (w : World) (hs : s.size ≤ 140737488351232) (h2s : 2 ≤ s.size) (hq : s[0]'(by omega) = 39) (hi : ¬ (runq (midOf s.data.toList)).length ≤ 1024) : Calls Tryd.prog 21 #[.string s] w fun e w' => e = .returned (parR s) ∧ Below w.heap.size w w' := by
  have hh : s.toList.head? = some 39 := by rw [head_at (by omega), hq]
  have hw : ∀ (x : UInt8) (l : List UInt8), x ≠ 39 → (s.toList == x :: l) = false := by
    intro x l hx
    rw [beq_eq_false_iff_ne]
    intro e
    rw [e] at hh
    exact hx (by simpa using hh)
  have n1 := hw 110 [117, 108, 108] (by decide)
  have n2 := hw 102 [97, 108, 115, 101] (by decide)
  have n3 := hw 116 [114, 117, 101] (by decide)
  have H0 := par_quoted s hh
  rw [if_neg (fun h => hi h.1)] at H0
  have H1 := parR_none H0
  have hn := fun W => num41_all s W hs
  have t1 : (((s[0]'(by omega)).toNat : Int) == 39) = true := by rw [hq]; rfl
  have hsz : (2 : Int) ≤ (s.size : Int) := by omega
  have hml : (midOf s.data.toList).length + 2 = s.size := by rw [mid_len, txt_len']; omega
  have hmg : ∀ (k : Nat) (h1 : 1 ≤ k) (h2 : k + 1 < s.size), (midOf s.data.toList)[k - 1]'(by omega) = s[k]'(by omega) := by
    intro k h1 h2
    rw [mid_get]
    obtain ⟨j, rfl⟩ : ∃ j, k = j + 1 := ⟨k - 1, by omega⟩
    rfl
  have hrl := runq_len _ (midOf s.data.toList) (Nat.le_refl _)
  obtain ⟨d0, hd0⟩ : ∃ d0, d0 = runq (midOf s.data.toList) := ⟨_, rfl⟩
  rw [← hd0] at hi hrl 
  have hS := fun W => refshow_no 3 0 ⟨d0.toArray⟩ W (by show d0.toArray.size ≤ maxLen; unfold maxLen; simp; omega) (by rw [ByteArray.toList_eq]; simp [rightB]; omega)
  generalize nOf s.data.toList = X at hn
  have H := Lib.hid H1
  have HD := Lib.hid hd0
  have HW := Lib.hid hw
  have HM := Lib.hid hmg
  have HI := Lib.hid hi
  clear hw H0 H1 hd0 hh hq hmg hi 
  go_enter Tryd.func21, Tryd.ntmps21
  go_wp2_with (go_at_call 41; refine (hn _).mono ?_; rintro e w1 ⟨rfl, hb1⟩; obtain ⟨p1, p3⟩ := one_kept [.int .i64 0, .int .i64 0, .string ⟨#[]⟩] hb1; have hlt := Lib.hid (lt_of_block p1); have P := p1.later (Obj.cells #[Value.int IntKind.i64 1, Value.int IntKind.i64 X, Value.string { data := #[] }] 23); have B := Blk.born w1 23 [.int .i64 1, .int .i64 X, .string ⟨#[]⟩]; have q3 := p3.alloc p3.size (Obj.cells #[Value.int IntKind.i64 1, Value.int IntKind.i64 X, Value.string { data := #[] }] 23); have f0 := P.free 0; have f1 := P.free 1; have f2 := P.free 2; have c0 := P.at_ 0; have c1 := P.at_ 1; have c2 := P.at_ 2; have g0 := B.free 0; have g1 := B.free 1; have g2 := B.free 2; have d0 := B.at_ 0; have d1 := B.at_ 1; have d2 := B.at_ 2)
  have hbz : w1.heap.size ≤ (w1.alloc (Obj.cells #[Value.int IntKind.i64 3, Value.int IntKind.i64 0, Value.string { data := #[] }] 23)).heap.size := by simp
  obtain ⟨WB, hWB⟩ : ∃ WB, WB = w1.alloc (Obj.cells #[Value.int IntKind.i64 3, Value.int IntKind.i64 0, Value.string { data := #[] }] 23) := ⟨_, rfl⟩
  have PB : Blk WB w.heap.size 23 [.int .i64 0, .int .i64 0, .string ⟨#[]⟩] := by rw [hWB]; exact p1.later _
  have BB : Blk WB w1.heap.size 23 [.int .i64 3, .int .i64 0, .string ⟨#[]⟩] := by rw [hWB]; exact Blk.born w1 23 [.int .i64 3, .int .i64 0, .string ⟨#[]⟩]
  have QB : Below w.heap.size w WB := by rw [hWB]; exact p3.alloc p3.size _
  rw [← hWB]
  clear hbz f0 f1 f2 c0 c1 c2 g0 g1 g2 d0 d1 d2 P B q3
  have HQB := Lib.hid (And.intro PB (And.intro BB QB))
  have hltB : w1.heap.size < WB.heap.size := lt_of_block BB
  have hltP : w.heap.size < w1.heap.size := hlt.out
  have HL := Lib.hid (And.intro hltB hltP)
  clear PB BB QB hltB hltP hWB hb1 p1 p3
  go_loopg [5, 6] (s.size - 1) (fun g v i wr => ∃ (k : Nat) (d : List UInt8), g = s.size - k ∧ 1 ≤ k ∧ k ≤ s.size ∧ i = .int .i64 k ∧ RqAt (midOf s.data.toList) d (k - 1) ∧ Own wr WB.heap.size v d ∧ Below WB.heap.size WB wr)
  case atStart => exact ⟨1, [], rfl, Nat.le_refl _, by omega, rfl, rfl, Own.nil _ _, Below.refl _ _⟩
  case round =>
    obtain ⟨k, d, rfl, hk1, hks, rfl, hR, hown, hbr⟩ := hrel
    have hdl := hR.len
    rw [← HD.out] at hdl
    have HR := Lib.hid hR
    have HBR := Lib.hid hbr
    clear hR hbr
    by_cases hlt' : k + 1 < s.size
    · have hk : k < s.size := by omega
      have klt : (k : Int) < (s.size : Int) - 1 := by omega
      have hmk := HM.out k hk1 hlt'
      by_cases hc : s[k] = 39
      · have t3 : ((s[k].toNat : Int) == 39) = true := by rw [hc]; rfl
        have HN : Hid (RqAt (midOf s.data.toList) (d ++ [s[k]]) (k + 2 - 1)) := by
          have := HR.out.two (by omega) (by rw [hmk]; exact hc)
          rw [hmk] at this
          rw [show k + 2 - 1 = k - 1 + 2 by omega]
          exact this
        clear hc hmk
        go_wp2_with (at_builtin; refine app_byt WB rfl _ _ rfl _ d rfl (hown.alloc _) (HBR.out.alloc HBR.out.size _) (some ⟨wr.heap.size, 0, none⟩) 1 1 [s[k]] rfl rfl (byt_one wr s[k] _ rfl) (by simp) (by simp; omega) ?_; intro v5 w5 hown5 hbel5 _)
        go_roundg (s.size - (k + 2))
        case measure => omega
        case rel => exact ⟨k + 2, d ++ [s[k]], rfl, by omega, by omega, by go_num, HN.out, hown5, hbel5⟩
      · have t3 : ((s[k].toNat : Int) == 39) = false := by
          rw [beq_eq_false_iff_ne]
          intro e
          exact hc (UInt8.toNat_inj.1 (by have : (39 : UInt8).toNat = 39 := rfl; omega))
        have HN : Hid (RqAt (midOf s.data.toList) (d ++ [s[k]]) (k + 1 - 1)) := by
          have := HR.out.byte (by omega) (by rw [hmk]; exact hc)
          rw [hmk] at this
          rw [show k + 1 - 1 = k - 1 + 1 by omega]
          exact this
        clear hc hmk
        go_wp2_with (at_builtin; refine app_byt WB rfl _ _ rfl _ d rfl (hown.alloc _) (HBR.out.alloc HBR.out.size _) (some ⟨wr.heap.size, 0, none⟩) 1 1 [s[k]] rfl rfl (byt_one wr s[k] _ rfl) (by simp) (by simp; omega) ?_; intro v5 w5 hown5 hbel5 _)
        go_roundg (s.size - (k + 1))
        case measure => omega
        case rel => exact ⟨k + 1, d ++ [s[k]], rfl, by omega, by omega, by go_num, HN.out, hown5, hbel5⟩
    · have klt : ¬ (k : Int) < (s.size : Int) - 1 := by omega
      have hdd : d = d0 := by rw [HD.out]; exact HR.out.done (by omega)
      subst hdd
      obtain ⟨A5, c5, rfl, hy5, _, _, _⟩ := hown.form
      have q1 := conv hy5 c5
      obtain ⟨PB, BB, QB⟩ := HQB.out
      have PBr := PB.below HBR.out (by have := HL.out; omega)
      have BBr := BB.below HBR.out HL.out.1
      have QBr := QB.trans (HBR.out.mono QB.size)
      have bs : Below w1.heap.size wr (wr.setCell ⟨w1.heap.size, 2, none⟩ (.string (str d))) := (Below.refl _ _).setCell (p := ⟨w1.heap.size, 2, none⟩) (Nat.le_refl _) _
      have BBs : Blk (wr.setCell ⟨w1.heap.size, 2, none⟩ (.string (str d))) w1.heap.size 23 [.int .i64 3, .int .i64 0, .string (str d)] := BBr.store 2 _
      have PBs := PBr.below bs HL.out.2
      have QBs := QBr.setCell (p := ⟨w1.heap.size, 2, none⟩) (Nat.le_of_lt HL.out.2) (.string (str d))
      have f2 := BBr.free 2
      have c2 : wr.cell? ⟨w1.heap.size, 2, none⟩ = some (.string ⟨#[]⟩) := BBr.at_ 2
      have g0 : (wr.setCell ⟨w1.heap.size, 2, none⟩ (.string (str d))).cell? ⟨w1.heap.size, 0, none⟩ = some (.int .i64 3) := BBs.at_ 0
      have g1 : (wr.setCell ⟨w1.heap.size, 2, none⟩ (.string (str d))).cell? ⟨w1.heap.size, 1, none⟩ = some (.int .i64 0) := BBs.at_ 1
      have g2 : (wr.setCell ⟨w1.heap.size, 2, none⟩ (.string (str d))).cell? ⟨w1.heap.size, 2, none⟩ = some (.string (str d)) := BBs.at_ 2
      have hstr : (⟨d.toArray⟩ : ByteArray) = str d := rfl
      rw [hstr] at hS
      have HH := Lib.hid H
      go_wp2_with (go_at_call 19; refine (hS _).mono ?_; rintro e w2 ⟨rfl, hb2⟩; have P5 := PBs.below hb2 (lt_of_block PBs); have B5 := BBs.below hb2 (lt_of_block BBs); have q5 := QBs.trans (hb2.mono QBs.size); have x0 := P5.free 0; have x1 := P5.free 1; have x2 := P5.free 2; have y0 := P5.at_ 0; have y1 := P5.at_ 1; have y2 := P5.at_ 2; have z0 : w2.cell? ⟨w1.heap.size, 0, none⟩ = some (.int .i64 3) := B5.at_ 0; have z1 : w2.cell? ⟨w1.heap.size, 1, none⟩ = some (.int .i64 0) := B5.at_ 1; have z2 : w2.cell? ⟨w1.heap.size, 2, none⟩ = some (.string (str d)) := B5.at_ 2)
      obtain ⟨W, hW⟩ : ∃ W, W = ((w2.setCell ⟨w.heap.size, 0, none⟩ (.int .i64 0)).setCell ⟨w.heap.size, 1, none⟩ (.int .i64 0)).setCell ⟨w.heap.size, 2, none⟩ (.string ⟨#[]⟩) := ⟨_, rfl⟩
      have hWb : Blk W w.heap.size 23 [.int .i64 0, .int .i64 0, .string ⟨#[]⟩] := by rw [hW]; exact ((P5.store 0 _).store 1 _).store 2 _
      have hbW : Below w.heap.size w W := by rw [hW]; exact ((q5.setCell (p := ⟨w.heap.size, 0, none⟩) (Nat.le_refl _) _).setCell (p := ⟨w.heap.size, 1, none⟩) (Nat.le_refl _) _).setCell (p := ⟨w.heap.size, 2, none⟩) (Nat.le_refl _) _
      rw [← hW]
      have e0 : W.cell? ⟨w.heap.size, 0, none⟩ = some (.int .i64 0) := hWb.at_ 0
      have e1 : W.cell? ⟨w.heap.size, 1, none⟩ = some (.int .i64 0) := hWb.at_ 1
      have e2 : W.cell? ⟨w.heap.size, 2, none⟩ = some (.string ⟨#[]⟩) := hWb.at_ 2
      exact bodyPost_ret (v := .tuple #[.agg #[.int .i64 0, .int .i64 0, .string ⟨#[]⟩], .int .i64 40]) (by simp [results, Tryd.results21, go_sem, e0, e1, e2]) rfl ⟨by rw [H.out], hbW⟩
end Go.Proofs.YtlflhigphfnhoaaDoor

/- The document's Parse (21) at every text. -/
namespace Go.Proofs.YtlflhigphfnhoaaDoor
open Go.RowKit
set_option linter.unusedVariables false

theorem rparse_any (s : ByteArray) (w : World) (hs : s.size ≤ 140737488351232) : Calls Tryd.prog 21 #[.string s] w fun e w' => e = .returned (parR s) ∧ Below w.heap.size w w' := by
  by_cases h1 : s.toList = [110, 117, 108, 108]
  · rw [ba_of h1]; exact rparse_null w
  by_cases h2 : s.toList = [102, 97, 108, 115, 101]
  · rw [ba_of h2]; exact rparse_false w
  by_cases h3 : s.toList = [116, 114, 117, 101]
  · rw [ba_of h3]; exact rparse_true w
  by_cases hq : 2 ≤ s.size ∧ s.toList.head? = some 39
  · obtain ⟨hz, hh⟩ := hq
    have hc : s[0]'(by omega) = 39 := by
      rw [head_at (by omega)] at hh
      exact Option.some.inj hh
    by_cases hl : (runq (midOf s.data.toList)).length ≤ 1024
    · by_cases he : (⟨(quoteL (runq (midOf s.data.toList))).toArray⟩ : ByteArray) = s
      · exact rparse_qsame s w hs hz hc hl he
      · exact rparse_qother s w hs hz hc hl he
    · exact rparse_qlong s w hs hz hc hl
  · have hqq : (2 ≤ (s.size : Int)) → ∃ h : 0 < s.size, (((s[0]'h).toNat : Int) == 39) = false := by
      intro h
      have hpos : 0 < s.size := by omega
      refine ⟨hpos, ?_⟩
      rw [beq_eq_false_iff_ne]
      intro e
      refine hq ⟨by omega, ?_⟩
      rw [head_at (by omega)]
      congr 1
      exact UInt8.toNat_inj.1 (by have : (39 : UInt8).toNat = 39 := rfl; omega)
    by_cases hi : (⟨(Lib.itoa (nOf s.data.toList)).toArray⟩ : ByteArray) = s
    · exact rparse_same s w hs h1 h2 h3 hq hi hqq
    · exact rparse_other s w hs h1 h2 h3 hq hi hqq
end Go.Proofs.YtlflhigphfnhoaaDoor

/- The walk of stackyardlaw04.ValueTexts (5). -/
namespace Go.Proofs.YtlflhigphfnhoaaDoor
open Go.RowKit
set_option linter.unusedVariables false

set_option maxHeartbeats 8000000 in
set_option maxRecDepth 100000 in
theorem vtexts_core (k n : Int) (t s : ByteArray) (w : World) (x : ByteArray) (e1 k2 n2 e2 : Int) (t2 : ByteArray)
    (hs1 : ∀ W, Below w.heap.size w W → Calls Tryd.prog 18 #[.agg #[.int .i64 k, .int .i64 n, .string t]] W fun e w' => e = .returned (.tuple #[.string x, .int .i64 e1]) ∧ Below W.heap.size W w')
    (hs2 : ∀ W, Calls Tryd.prog 19 #[.agg #[.int .i64 k, .int .i64 n, .string t]] W fun e w' => e = .returned (.tuple #[.string x, .int .i64 e1]) ∧ Below W.heap.size W w')
    (hp1 : ∀ W, Below w.heap.size w W → Calls Tryd.prog 20 #[.string s] W fun e w' => e = .returned (.tuple #[.agg #[.int .i64 k2, .int .i64 n2, .string t2], .int .i64 e2]) ∧ Below W.heap.size W w')
    (hp2 : ∀ W, Calls Tryd.prog 21 #[.string s] W fun e w' => e = .returned (.tuple #[.agg #[.int .i64 k2, .int .i64 n2, .string t2], .int .i64 e2]) ∧ Below W.heap.size W w') :
    Calls Tryd.prog 5 #[.agg #[.int .i64 k, .int .i64 n, .string t], .string s] w fun e w' => e = .returned (.bool true) ∧ Below w.heap.size w w' := by
  have HS1 := Lib.hid hs1
  have HS2 := Lib.hid hs2
  have HP1 := Lib.hid hp1
  have HP2 := Lib.hid hp2
  clear hs1 hs2 hp1 hp2
  go_enter Tryd.func5, Tryd.ntmps5
  go_wp2_with (first | (go_at_call 9; refine (shown4_any _).mono ?_; rintro e w1 ⟨rfl, hb1⟩; obtain ⟨p1, q1⟩ := one_kept [.int .i64 k, .int .i64 n, .string t] hb1; have hlt := lt_of_block p1; have a0 : (w1).cell? ⟨w.heap.size, 0, none⟩ = some (.int .i64 k) := (p1).at_ 0; have a1 : (w1).cell? ⟨w.heap.size, 1, none⟩ = some (.int .i64 n) := (p1).at_ 1; have a2 : (w1).cell? ⟨w.heap.size, 2, none⟩ = some (.string t) := (p1).at_ 2; clear hb1) | (go_at_call 18; refine (HS1.out _ q1).mono ?_; rintro e w2 ⟨rfl, b2⟩; have q2 := q1.trans (b2.mono q1.size); have p2 := p1.below b2 hlt; have hlt2 := lt_of_block p2; have b0 : (w2).cell? ⟨w.heap.size, 0, none⟩ = some (.int .i64 k) := (p2).at_ 0; have b1 : (w2).cell? ⟨w.heap.size, 1, none⟩ = some (.int .i64 n) := (p2).at_ 1; have b2 : (w2).cell? ⟨w.heap.size, 2, none⟩ = some (.string t) := (p2).at_ 2; clear HS1 a0 a1 a2) | (go_at_call 19; refine (HS2.out _).mono ?_; rintro e w3 ⟨rfl, b3⟩; have q3 := q2.trans (b3.mono q2.size); clear HS2 b0 b1 b2) | (go_at_call 20; refine (HP1.out _ q3).mono ?_; rintro e w4 ⟨rfl, b4⟩; have q4 := q3.trans (b4.mono q3.size); have x4 : Below w4.heap.size w4 (w4.alloc (Obj.cells #[Value.int IntKind.i64 k2, Value.int IntKind.i64 n2, Value.string t2] 23)) := (Below.refl _ _).alloc (Nat.le_refl _) _; have q5 := q4.trans (x4.mono q4.size); have g4 := Blk.born w4 23 [.int .i64 k2, .int .i64 n2, .string t2]; clear HP1) | (go_at_call 21; refine (HP2.out _).mono ?_; rintro e w5 ⟨rfl, b5⟩; have q6 := q5.trans (b5.mono q5.size); have g5 := g4.below b5 (lt_of_block g4); have x5 : Below w5.heap.size w5 (w5.alloc (Obj.cells #[Value.int IntKind.i64 k2, Value.int IntKind.i64 n2, Value.string t2] 23)) := (Below.refl _ _).alloc (Nat.le_refl _) _; have q7 := q6.trans (x5.mono q6.size); have g6 := g5.below x5 (lt_of_block g5); have h6 := Blk.born w5 23 [.int .i64 k2, .int .i64 n2, .string t2]; have c0 : (w5.alloc (Obj.cells #[Value.int IntKind.i64 k2, Value.int IntKind.i64 n2, Value.string t2] 23)).cell? ⟨w4.heap.size, 0, none⟩ = some (.int .i64 k2) := (g6).at_ 0; have c1 : (w5.alloc (Obj.cells #[Value.int IntKind.i64 k2, Value.int IntKind.i64 n2, Value.string t2] 23)).cell? ⟨w4.heap.size, 1, none⟩ = some (.int .i64 n2) := (g6).at_ 1; have c2 : (w5.alloc (Obj.cells #[Value.int IntKind.i64 k2, Value.int IntKind.i64 n2, Value.string t2] 23)).cell? ⟨w4.heap.size, 2, none⟩ = some (.string t2) := (g6).at_ 2; have d0 : (w5.alloc (Obj.cells #[Value.int IntKind.i64 k2, Value.int IntKind.i64 n2, Value.string t2] 23)).cell? ⟨w5.heap.size, 0, none⟩ = some (.int .i64 k2) := (h6).at_ 0; have d1 : (w5.alloc (Obj.cells #[Value.int IntKind.i64 k2, Value.int IntKind.i64 n2, Value.string t2] 23)).cell? ⟨w5.heap.size, 1, none⟩ = some (.int .i64 n2) := (h6).at_ 1; have d2 : (w5.alloc (Obj.cells #[Value.int IntKind.i64 k2, Value.int IntKind.i64 n2, Value.string t2] 23)).cell? ⟨w5.heap.size, 2, none⟩ = some (.string t2) := (h6).at_ 2; clear HP2))
  go_ret
  exact ⟨rfl, q7⟩
theorem vtexts_any (k n : Int) (t s : ByteArray) (w : World) (ht : t.size ≤ maxLen) (n0 : -9223372036854775808 ≤ n) (n1 : n ≤ 9223372036854775807) (hs : s.size ≤ 140737488351232) (he : Errs w) (hp : Pow w) :
    Calls Tryd.prog 5 #[.agg #[.int .i64 k, .int .i64 n, .string t], .string s] w fun e w' => e = .returned (.bool true) ∧ Below w.heap.size w w' := by
  have h1 := fun W (h : Below w.heap.size w W) => parse_any s W hs (he.next h) (hp.next h)
  have h2 := fun W => rparse_any s W hs
  obtain ⟨k2, n2, t2, e2, hv⟩ : ∃ (k2 n2 : Int) (t2 : ByteArray) (e2 : Int), parR s = .tuple #[.agg #[.int .i64 k2, .int .i64 n2, .string t2], .int .i64 e2] := by
    unfold parR
    cases parO s with
    | none => exact ⟨_, _, _, _, rfl⟩
    | some v => obtain ⟨a, b, c⟩ := v; exact ⟨_, _, _, _, rfl⟩
  rw [hv] at h1 h2
  cases hr : rightB k n t.toList with
  | true => exact vtexts_core k n t s w _ _ k2 n2 e2 t2 (fun W h => show_yes k n t W (hp.next h) n0 n1 hr) (fun W => refshow_yes k n t W n0 n1 hr) h1 h2
  | false => exact vtexts_core k n t s w _ _ k2 n2 e2 t2 (fun W h => show_no k n t W ht hr) (fun W => refshow_no k n t W ht hr) h1 h2
end Go.Proofs.YtlflhigphfnhoaaDoor
