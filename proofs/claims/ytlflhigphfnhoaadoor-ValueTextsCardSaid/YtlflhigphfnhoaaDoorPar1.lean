/- The walk of value.Parse (20). -/
import Derived.Test.YtlflhigphfnhoaaDoorPar0
import Derived.Test.YtlflhigphfnhoaaDoorLayT
namespace Go.Proofs.YtlflhigphfnhoaaDoor
open Go.RowKit
set_option linter.unusedVariables false

set_option maxHeartbeats 2000000 in
set_option maxRecDepth 100000 in
theorem parse_null (w : World) : Calls Tryd.prog 20 #[.string ⟨#[110, 117, 108, 108]⟩] w fun e w' => e = .returned (parR ⟨#[110, 117, 108, 108]⟩) ∧ Below w.heap.size w w' := by
  have H : Hid (parR ⟨#[110, 117, 108, 108]⟩ = .tuple #[.agg #[.int .i64 0, .int .i64 0, .string ⟨#[]⟩], .int .i64 0]) := parR_some (by unfold parO; rw [ByteArray.toList_eq]; rfl)
  go_enter Tryd.func20, Tryd.ntmps20
  go_wp2
  exact bodyPost_ret (v := .tuple #[.agg #[.int .i64 0, .int .i64 0, .string ⟨#[]⟩], .int .i64 0]) (by simp [results, Tryd.results20, go_sem]) rfl ⟨by rw [H.out], (Below.refl w.heap.size w).alloc (Nat.le_refl _) _⟩
set_option maxHeartbeats 2000000 in
set_option maxRecDepth 100000 in
theorem parse_false (w : World) : Calls Tryd.prog 20 #[.string ⟨#[102, 97, 108, 115, 101]⟩] w fun e w' => e = .returned (parR ⟨#[102, 97, 108, 115, 101]⟩) ∧ Below w.heap.size w w' := by
  have H : Hid (parR ⟨#[102, 97, 108, 115, 101]⟩ = .tuple #[.agg #[.int .i64 2, .int .i64 0, .string ⟨#[]⟩], .int .i64 0]) := parR_some (by unfold parO; rw [ByteArray.toList_eq]; rfl)
  go_enter Tryd.func20, Tryd.ntmps20
  go_wp2
  exact bodyPost_ret (v := .tuple #[.agg #[.int .i64 2, .int .i64 0, .string ⟨#[]⟩], .int .i64 0]) (by simp [results, Tryd.results20, go_sem]) rfl ⟨by rw [H.out], (Below.refl w.heap.size w).alloc (Nat.le_refl _) _⟩
set_option maxHeartbeats 2000000 in
set_option maxRecDepth 100000 in
theorem parse_true (w : World) : Calls Tryd.prog 20 #[.string ⟨#[116, 114, 117, 101]⟩] w fun e w' => e = .returned (parR ⟨#[116, 114, 117, 101]⟩) ∧ Below w.heap.size w w' := by
  have H : Hid (parR ⟨#[116, 114, 117, 101]⟩ = .tuple #[.agg #[.int .i64 2, .int .i64 1, .string ⟨#[]⟩], .int .i64 0]) := parR_some (by unfold parO; rw [ByteArray.toList_eq]; rfl)
  go_enter Tryd.func20, Tryd.ntmps20
  go_wp2
  exact bodyPost_ret (v := .tuple #[.agg #[.int .i64 2, .int .i64 1, .string ⟨#[]⟩], .int .i64 0]) (by simp [results, Tryd.results20, go_sem]) rfl ⟨by rw [H.out], (Below.refl w.heap.size w).alloc (Nat.le_refl _) _⟩
set_option maxHeartbeats 2000000 in
set_option maxRecDepth 100000 in
theorem parse_empty (w : World) : Calls Tryd.prog 20 #[.string ⟨#[]⟩] w fun e w' => e = .returned (parR ⟨#[]⟩) ∧ Below w.heap.size w w' := by
  have H : Hid (parR ⟨#[]⟩ = .tuple #[.agg #[.int .i64 0, .int .i64 0, .string ⟨#[]⟩], .int .i64 40]) := parR_none (by unfold parO; rw [ByteArray.toList_eq]; rfl)
  go_enter Tryd.func20, Tryd.ntmps20
  go_wp2
  exact bodyPost_ret (v := .tuple #[.agg #[.int .i64 0, .int .i64 0, .string ⟨#[]⟩], .int .i64 40]) (by simp [results, Tryd.results20, go_sem]) rfl ⟨by rw [H.out], (Below.refl w.heap.size w).alloc (Nat.le_refl _) _⟩
theorem head_at {s : ByteArray} (h0 : 1 ≤ s.size) : s.toList.head? = some (s[0]'(by omega)) := by
  have h := drop_get s 0 h0
  rw [List.drop_zero] at h
  rw [ByteArray.toList_eq, h]
  rfl
set_option maxHeartbeats 2000000 in
set_option maxRecDepth 100000 in
theorem parse_text (s : ByteArray) (w : World) (h0 : 1 ≤ s.size) (hs : s.size ≤ 140737488351232) (h1 : s.toList ≠ [110, 117, 108, 108]) (h2 : s.toList ≠ [102, 97, 108, 115, 101]) (h3 : s.toList ≠ [116, 114, 117, 101]) (hq : s[0]'(by omega) = 39) : Calls Tryd.prog 20 #[.string s] w fun e w' => e = .returned (parR s) ∧ Below w.heap.size w w' := by
  have n1 : (s.toList == [110, 117, 108, 108]) = false := by rw [beq_eq_false_iff_ne]; exact h1
  have n2 : (s.toList == [102, 97, 108, 115, 101]) = false := by rw [beq_eq_false_iff_ne]; exact h2
  have n3 : (s.toList == [116, 114, 117, 101]) = false := by rw [beq_eq_false_iff_ne]; exact h3
  have hne : s.toList.isEmpty = false := by
    cases hx : s.toList with
    | nil => rw [← tol_len, hx] at h0; simp at h0
    | cons c r => rfl
  have hpos : (0 : Int) < (s.size : Int) := by omega
  have hpt : parR s = ptR s := by
    unfold parR parO ptR
    rw [if_neg h1, if_neg h2, if_neg h3, if_pos (by rw [head_at h0, hq])]
    cases ptO s <;> rfl
  have t1 : (((s[0]'(by omega)).toNat : Int) == 39) = true := by rw [hq]; rfl
  obtain ⟨k', n', t', e', hv⟩ : ∃ (k' n' : Int) (t' : ByteArray) (e' : Int), ptR s = .tuple #[.agg #[.int .i64 k', .int .i64 n', .string t'], .int .i64 e'] := by
    unfold ptR
    cases ptO s with
    | none => exact ⟨_, _, _, _, rfl⟩
    | some t => exact ⟨_, _, _, _, rfl⟩
  have hp := fun W => ptext_any s W h0 hs
  rw [hv] at hp
  have H := Lib.hid (hpt.trans hv)
  have HH := Lib.hid (And.intro h1 (And.intro h2 h3))
  clear h1 h2 h3 hq hpt hv
  go_enter Tryd.func20, Tryd.ntmps20
  go_wp2_with (go_at_call 39; refine (hp _).mono ?_; rintro e w3 ⟨rfl, hb3⟩; obtain ⟨p1, p3⟩ := one_kept [.int .i64 0, .int .i64 0, .string ⟨#[]⟩] hb3; have f0 := p1.free 0; have f1 := p1.free 1; have f2 := p1.free 2; have c0 := p1.at_ 0; have c1 := p1.at_ 1; have c2 := p1.at_ 2)
  obtain ⟨W, hW⟩ : ∃ W, W = ((w3.setCell ⟨w.heap.size, 0, none⟩ (.int .i64 k')).setCell ⟨w.heap.size, 1, none⟩ (.int .i64 n')).setCell ⟨w.heap.size, 2, none⟩ (.string t') := ⟨_, rfl⟩
  have hWb : Blk W w.heap.size 23 [.int .i64 k', .int .i64 n', .string t'] := by rw [hW]; exact ((p1.store 0 _).store 1 _).store 2 _
  have hbW : Below w.heap.size w W := by rw [hW]; exact ((p3.setCell (p := ⟨w.heap.size, 0, none⟩) (Nat.le_refl _) _).setCell (p := ⟨w.heap.size, 1, none⟩) (Nat.le_refl _) _).setCell (p := ⟨w.heap.size, 2, none⟩) (Nat.le_refl _) _
  rw [← hW]
  have e0 : W.cell? ⟨w.heap.size, 0, none⟩ = some (.int .i64 k') := hWb.at_ 0
  have e1 : W.cell? ⟨w.heap.size, 1, none⟩ = some (.int .i64 n') := hWb.at_ 1
  have e2 : W.cell? ⟨w.heap.size, 2, none⟩ = some (.string t') := hWb.at_ 2
  exact bodyPost_ret (v := .tuple #[.agg #[.int .i64 k', .int .i64 n', .string t'], .int .i64 e']) (by simp [results, Tryd.results20, go_sem, e0, e1, e2]) rfl ⟨by rw [H.out], hbW⟩
end Go.Proofs.YtlflhigphfnhoaaDoor
