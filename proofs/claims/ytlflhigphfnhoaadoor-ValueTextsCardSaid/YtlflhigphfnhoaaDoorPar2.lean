/- The walk of value.Parse (20), on to its end. -/
import Derived.Test.YtlflhigphfnhoaaDoorPar1
namespace Go.Proofs.YtlflhigphfnhoaaDoor
open Go.RowKit
set_option linter.unusedVariables false

theorem pint_ok (s : ByteArray) (n : Int) (hn : Lib.parseIntB 64 s.data.toList = .ok n) (w : World) (hs : s.size ≤ 140737488351232) (he : Errs w) : Calls Tryd.prog 40 #[.string s, .int .i64 10, .int .i64 64] w fun e w' => e = .returned (.tuple #[.int .i64 n, .nilIface]) ∧ Below w.heap.size w w' := by
  refine (pint_any s w hs he).mono ?_
  rintro e w' ⟨v, rfl, ⟨m, hm, rfl⟩ | ⟨hm, _⟩, hb⟩
  · rw [hn] at hm
    cases hm
    exact ⟨rfl, hb⟩
  · exact absurd hn (hm n)
theorem pint_no (s : ByteArray) (hn : ∀ n, Lib.parseIntB 64 s.data.toList ≠ .ok n) (w : World) (hs : s.size ≤ 140737488351232) (he : Errs w) : Calls Tryd.prog 40 #[.string s, .int .i64 10, .int .i64 64] w fun e w' => ∃ n t p, e = .returned (.tuple #[.int .i64 n, .iface t p]) ∧ Below w.heap.size w w' := by
  refine (pint_any s w hs he).mono ?_
  rintro e w' ⟨v, rfl, ⟨m, hm, rfl⟩ | ⟨hm, n, t, p, rfl⟩, hb⟩
  · exact absurd hm (hn m)
  · exact ⟨n, t, p, rfl, hb⟩
theorem fmt_any (n : Int) (w : World) (hp : Pow w) (h0 : -9223372036854775808 ≤ n) (h1 : n ≤ 9223372036854775807) : Calls Tryd.prog 36 #[.int .i64 n, .int .i64 10] w fun e w' => e = .returned (.string ⟨(Lib.itoa n).toArray⟩) ∧ Below w.heap.size w w' := by
  refine (Tryd.strconv_FormatInt_10 n h0 h1 w hp).mono ?_
  rintro e w' ⟨he, k, os, rfl⟩
  exact ⟨he, below_grow w k os⟩
set_option maxHeartbeats 2000000 in
set_option maxRecDepth 100000 in
theorem parse_int_no (s : ByteArray) (w : World) (h0 : 1 ≤ s.size) (hs : s.size ≤ 140737488351232) (h1 : s.toList ≠ [110, 117, 108, 108]) (h2 : s.toList ≠ [102, 97, 108, 115, 101]) (h3 : s.toList ≠ [116, 114, 117, 101]) (hq : s[0]'(by omega) ≠ 39) (hn : ∀ n, Lib.parseIntB 64 s.data.toList ≠ .ok n) (he : Errs w) (hw : Pow w) : Calls Tryd.prog 20 #[.string s] w fun e w' => e = .returned (parR s) ∧ Below w.heap.size w w' := by
  have n1 : (s.toList == [110, 117, 108, 108]) = false := by rw [beq_eq_false_iff_ne]; exact h1
  have n2 : (s.toList == [102, 97, 108, 115, 101]) = false := by rw [beq_eq_false_iff_ne]; exact h2
  have n3 : (s.toList == [116, 114, 117, 101]) = false := by rw [beq_eq_false_iff_ne]; exact h3
  have hne : s.toList.isEmpty = false := by
    cases hx : s.toList with
    | nil => rw [← tol_len, hx] at h0; simp at h0
    | cons c r => rfl
  have hpos : (0 : Int) < (s.size : Int) := by omega
  have hq' : s.toList.head? ≠ some 39 := by rw [head_at h0]; intro e; exact hq (Option.some.inj e)
  have t1 : (((s[0]'(by omega)).toNat : Int) == 39) = false := by
    rw [beq_eq_false_iff_ne]
    intro e
    refine hq (UInt8.toNat_inj.1 ?_)
    show _ = 39
    omega
  have hZ : ∀ W, Below w.heap.size w W → Errs W := fun W hb => he.next hb
  have hA : Below w.heap.size w (({ w with heap := w.heap.push (Obj.cells #[Value.int IntKind.i64 0, Value.int IntKind.i64 0, Value.string { data := #[] }] 23) } : World)) := (Below.refl w.heap.size w).alloc (Nat.le_refl _) _
  have hp := fun W (hb : Below w.heap.size w W) => pint_no s hn W hs (hZ W hb)
  have H : Hid (parR s = .tuple #[.agg #[.int .i64 0, .int .i64 0, .string ⟨#[]⟩], .int .i64 40]) := Lib.hid (parR_none (by
    unfold parO
    rw [if_neg h1, if_neg h2, if_neg h3, if_neg hq']
    cases hc : Lib.parseIntB 64 s.data.toList with
    | ok n => exact absurd hc (hn n)
    | _ => rfl))
  have HH := Lib.hid (And.intro h1 (And.intro h2 (And.intro h3 (And.intro hn hn))))
  clear h1 h2 h3 hq hq' hn he hw hZ
  go_enter Tryd.func20, Tryd.ntmps20
  go_wp2_with (go_at_call 40; refine (hp _ hA).mono ?_; rintro e w3 ⟨n, tp, p, rfl, hb3⟩; obtain ⟨p1, p3⟩ := one_kept [.int .i64 0, .int .i64 0, .string ⟨#[]⟩] hb3; have f0 := p1.free 0; have f1 := p1.free 1; have f2 := p1.free 2; have c0 := p1.at_ 0; have c1 := p1.at_ 1; have c2 := p1.at_ 2)
  obtain ⟨W, hW⟩ : ∃ W, W = ((w3.setCell ⟨w.heap.size, 0, none⟩ (.int .i64 0)).setCell ⟨w.heap.size, 1, none⟩ (.int .i64 0)).setCell ⟨w.heap.size, 2, none⟩ (.string ⟨#[]⟩) := ⟨_, rfl⟩
  have hWb : Blk W w.heap.size 23 [.int .i64 0, .int .i64 0, .string ⟨#[]⟩] := by rw [hW]; exact ((p1.store 0 _).store 1 _).store 2 _
  have hbW : Below w.heap.size w W := by rw [hW]; exact ((p3.setCell (p := ⟨w.heap.size, 0, none⟩) (Nat.le_refl _) _).setCell (p := ⟨w.heap.size, 1, none⟩) (Nat.le_refl _) _).setCell (p := ⟨w.heap.size, 2, none⟩) (Nat.le_refl _) _
  rw [← hW]
  have e0 : W.cell? ⟨w.heap.size, 0, none⟩ = some (.int .i64 0) := hWb.at_ 0
  have e1 : W.cell? ⟨w.heap.size, 1, none⟩ = some (.int .i64 0) := hWb.at_ 1
  have e2 : W.cell? ⟨w.heap.size, 2, none⟩ = some (.string ⟨#[]⟩) := hWb.at_ 2
  exact bodyPost_ret (v := .tuple #[.agg #[.int .i64 0, .int .i64 0, .string ⟨#[]⟩], .int .i64 40]) (by simp [results, Tryd.results20, go_sem, e0, e1, e2]) rfl ⟨by rw [H.out], hbW⟩
set_option maxHeartbeats 2000000 in
set_option maxRecDepth 100000 in
theorem parse_int_other (s : ByteArray) (w : World) (h0 : 1 ≤ s.size) (hs : s.size ≤ 140737488351232) (h1 : s.toList ≠ [110, 117, 108, 108]) (h2 : s.toList ≠ [102, 97, 108, 115, 101]) (h3 : s.toList ≠ [116, 114, 117, 101]) (hq : s[0]'(by omega) ≠ 39) (n : Int) (hn : Lib.parseIntB 64 s.data.toList = .ok n) (hi : ¬ Lib.itoa n = s.toList) (he : Errs w) (hw : Pow w) : Calls Tryd.prog 20 #[.string s] w fun e w' => e = .returned (parR s) ∧ Below w.heap.size w w' := by
  have n1 : (s.toList == [110, 117, 108, 108]) = false := by rw [beq_eq_false_iff_ne]; exact h1
  have n2 : (s.toList == [102, 97, 108, 115, 101]) = false := by rw [beq_eq_false_iff_ne]; exact h2
  have n3 : (s.toList == [116, 114, 117, 101]) = false := by rw [beq_eq_false_iff_ne]; exact h3
  have hne : s.toList.isEmpty = false := by
    cases hx : s.toList with
    | nil => rw [← tol_len, hx] at h0; simp at h0
    | cons c r => rfl
  have hpos : (0 : Int) < (s.size : Int) := by omega
  have hq' : s.toList.head? ≠ some 39 := by rw [head_at h0]; intro e; exact hq (Option.some.inj e)
  have t1 : (((s[0]'(by omega)).toNat : Int) == 39) = false := by
    rw [beq_eq_false_iff_ne]
    intro e
    refine hq (UInt8.toNat_inj.1 ?_)
    show _ = 39
    omega
  have hZ : ∀ W, Below w.heap.size w W → Errs W := fun W hb => he.next hb
  have hA : Below w.heap.size w (({ w with heap := w.heap.push (Obj.cells #[Value.int IntKind.i64 0, Value.int IntKind.i64 0, Value.string { data := #[] }] 23) } : World)) := (Below.refl w.heap.size w).alloc (Nat.le_refl _) _
  have hp := fun W (hb : Below w.heap.size w W) => pint_ok s n hn W hs (hZ W hb)
  have H : Hid (parR s = .tuple #[.agg #[.int .i64 0, .int .i64 0, .string ⟨#[]⟩], .int .i64 40]) := Lib.hid (parR_none (by
    unfold parO
    rw [if_neg h1, if_neg h2, if_neg h3, if_neg hq', hn]
    show (if Lib.itoa n = s.toList then _ else _) = _
    rw [if_neg hi]))
  have hB := Lib.parseIntB_bounds hn
  have hf := fun W (hb : Below w.heap.size w W) => fmt_any n W (hw.next hb) (by have := hB.1; simp at this; omega) (by have := hB.2; simp at this; omega)
  have t2 : (ByteArray.toList (⟨(Lib.itoa n).toArray⟩ : ByteArray) == s.toList) = false := by
    rw [ByteArray.toList_eq (⟨(Lib.itoa n).toArray⟩ : ByteArray)]
    rw [beq_eq_false_iff_ne]; exact hi
  generalize (⟨(Lib.itoa n).toArray⟩ : ByteArray) = S at hf t2
  clear hB
  have HH := Lib.hid (And.intro h1 (And.intro h2 (And.intro h3 (And.intro hn hi))))
  clear h1 h2 h3 hq hq' hn hi he hw hZ
  go_enter Tryd.func20, Tryd.ntmps20
  go_wp2_with (first | (go_at_call 40; refine (hp _ hA).mono ?_; rintro e w3 ⟨rfl, hb3⟩; obtain ⟨p1, p3⟩ := one_kept [.int .i64 0, .int .i64 0, .string ⟨#[]⟩] hb3; have f0 := p1.free 0; have f1 := p1.free 1; have f2 := p1.free 2; have c0 := p1.at_ 0; have c1 := p1.at_ 1; have c2 := p1.at_ 2) | (go_at_call 36; refine (hf _ p3).mono ?_; rintro e w4 ⟨rfl, hb4⟩; have p2 := p1.below hb4 (lt_of_block p1); have p5 := p3.trans (hb4.mono p3.size); have g0 := p2.free 0; have g1 := p2.free 1; have g2 := p2.free 2; have d0 := p2.at_ 0; have d1 := p2.at_ 1; have d2 := p2.at_ 2))
  obtain ⟨W, hW⟩ : ∃ W, W = ((w4.setCell ⟨w.heap.size, 0, none⟩ (.int .i64 0)).setCell ⟨w.heap.size, 1, none⟩ (.int .i64 0)).setCell ⟨w.heap.size, 2, none⟩ (.string ⟨#[]⟩) := ⟨_, rfl⟩
  have hWb : Blk W w.heap.size 23 [.int .i64 0, .int .i64 0, .string ⟨#[]⟩] := by rw [hW]; exact ((p2.store 0 _).store 1 _).store 2 _
  have hbW : Below w.heap.size w W := by rw [hW]; exact ((p5.setCell (p := ⟨w.heap.size, 0, none⟩) (Nat.le_refl _) _).setCell (p := ⟨w.heap.size, 1, none⟩) (Nat.le_refl _) _).setCell (p := ⟨w.heap.size, 2, none⟩) (Nat.le_refl _) _
  rw [← hW]
  have e0 : W.cell? ⟨w.heap.size, 0, none⟩ = some (.int .i64 0) := hWb.at_ 0
  have e1 : W.cell? ⟨w.heap.size, 1, none⟩ = some (.int .i64 0) := hWb.at_ 1
  have e2 : W.cell? ⟨w.heap.size, 2, none⟩ = some (.string ⟨#[]⟩) := hWb.at_ 2
  exact bodyPost_ret (v := .tuple #[.agg #[.int .i64 0, .int .i64 0, .string ⟨#[]⟩], .int .i64 40]) (by simp [results, Tryd.results20, go_sem, e0, e1, e2]) rfl ⟨by rw [H.out], hbW⟩
set_option maxHeartbeats 2000000 in
set_option maxRecDepth 100000 in
theorem parse_int_same (s : ByteArray) (w : World) (h0 : 1 ≤ s.size) (hs : s.size ≤ 140737488351232) (h1 : s.toList ≠ [110, 117, 108, 108]) (h2 : s.toList ≠ [102, 97, 108, 115, 101]) (h3 : s.toList ≠ [116, 114, 117, 101]) (hq : s[0]'(by omega) ≠ 39) (n : Int) (hn : Lib.parseIntB 64 s.data.toList = .ok n) (hi : Lib.itoa n = s.toList) (he : Errs w) (hw : Pow w) : Calls Tryd.prog 20 #[.string s] w fun e w' => e = .returned (parR s) ∧ Below w.heap.size w w' := by
  have n1 : (s.toList == [110, 117, 108, 108]) = false := by rw [beq_eq_false_iff_ne]; exact h1
  have n2 : (s.toList == [102, 97, 108, 115, 101]) = false := by rw [beq_eq_false_iff_ne]; exact h2
  have n3 : (s.toList == [116, 114, 117, 101]) = false := by rw [beq_eq_false_iff_ne]; exact h3
  have hne : s.toList.isEmpty = false := by
    cases hx : s.toList with
    | nil => rw [← tol_len, hx] at h0; simp at h0
    | cons c r => rfl
  have hpos : (0 : Int) < (s.size : Int) := by omega
  have hq' : s.toList.head? ≠ some 39 := by rw [head_at h0]; intro e; exact hq (Option.some.inj e)
  have t1 : (((s[0]'(by omega)).toNat : Int) == 39) = false := by
    rw [beq_eq_false_iff_ne]
    intro e
    refine hq (UInt8.toNat_inj.1 ?_)
    show _ = 39
    omega
  have hZ : ∀ W, Below w.heap.size w W → Errs W := fun W hb => he.next hb
  have hA : Below w.heap.size w (({ w with heap := w.heap.push (Obj.cells #[Value.int IntKind.i64 0, Value.int IntKind.i64 0, Value.string { data := #[] }] 23) } : World)) := (Below.refl w.heap.size w).alloc (Nat.le_refl _) _
  have hp := fun W (hb : Below w.heap.size w W) => pint_ok s n hn W hs (hZ W hb)
  have H : Hid (parR s = .tuple #[.agg #[.int .i64 1, .int .i64 n, .string ⟨#[]⟩], .int .i64 0]) := Lib.hid (parR_some (by
    unfold parO
    rw [if_neg h1, if_neg h2, if_neg h3, if_neg hq', hn]
    show (if Lib.itoa n = s.toList then _ else _) = _
    rw [if_pos hi]))
  have hB := Lib.parseIntB_bounds hn
  have hf := fun W (hb : Below w.heap.size w W) => fmt_any n W (hw.next hb) (by have := hB.1; simp at this; omega) (by have := hB.2; simp at this; omega)
  have t2 : (ByteArray.toList (⟨(Lib.itoa n).toArray⟩ : ByteArray) == s.toList) = true := by
    rw [ByteArray.toList_eq (⟨(Lib.itoa n).toArray⟩ : ByteArray)]
    rw [beq_iff_eq]; exact hi
  generalize (⟨(Lib.itoa n).toArray⟩ : ByteArray) = S at hf t2
  clear hB
  have HH := Lib.hid (And.intro h1 (And.intro h2 (And.intro h3 (And.intro hn hi))))
  clear h1 h2 h3 hq hq' hn hi he hw hZ
  go_enter Tryd.func20, Tryd.ntmps20
  go_wp2_with (first | (go_at_call 40; refine (hp _ hA).mono ?_; rintro e w3 ⟨rfl, hb3⟩; obtain ⟨p1, p3⟩ := one_kept [.int .i64 0, .int .i64 0, .string ⟨#[]⟩] hb3; have f0 := p1.free 0; have f1 := p1.free 1; have f2 := p1.free 2; have c0 := p1.at_ 0; have c1 := p1.at_ 1; have c2 := p1.at_ 2) | (go_at_call 36; refine (hf _ p3).mono ?_; rintro e w4 ⟨rfl, hb4⟩; have p2 := p1.below hb4 (lt_of_block p1); have p5 := p3.trans (hb4.mono p3.size); have g0 := p2.free 0; have g1 := p2.free 1; have g2 := p2.free 2; have d0 := p2.at_ 0; have d1 := p2.at_ 1; have d2 := p2.at_ 2))
  obtain ⟨W, hW⟩ : ∃ W, W = ((w4.setCell ⟨w.heap.size, 0, none⟩ (.int .i64 1)).setCell ⟨w.heap.size, 1, none⟩ (.int .i64 n)).setCell ⟨w.heap.size, 2, none⟩ (.string ⟨#[]⟩) := ⟨_, rfl⟩
  have hWb : Blk W w.heap.size 23 [.int .i64 1, .int .i64 n, .string ⟨#[]⟩] := by rw [hW]; exact ((p2.store 0 _).store 1 _).store 2 _
  have hbW : Below w.heap.size w W := by rw [hW]; exact ((p5.setCell (p := ⟨w.heap.size, 0, none⟩) (Nat.le_refl _) _).setCell (p := ⟨w.heap.size, 1, none⟩) (Nat.le_refl _) _).setCell (p := ⟨w.heap.size, 2, none⟩) (Nat.le_refl _) _
  rw [← hW]
  have e0 : W.cell? ⟨w.heap.size, 0, none⟩ = some (.int .i64 1) := hWb.at_ 0
  have e1 : W.cell? ⟨w.heap.size, 1, none⟩ = some (.int .i64 n) := hWb.at_ 1
  have e2 : W.cell? ⟨w.heap.size, 2, none⟩ = some (.string ⟨#[]⟩) := hWb.at_ 2
  exact bodyPost_ret (v := .tuple #[.agg #[.int .i64 1, .int .i64 n, .string ⟨#[]⟩], .int .i64 0]) (by simp [results, Tryd.results20, go_sem, e0, e1, e2]) rfl ⟨by rw [H.out], hbW⟩
end Go.Proofs.YtlflhigphfnhoaaDoor
