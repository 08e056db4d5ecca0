/- The walk of stackyardlaw04.ValueLays (4). -/
import Derived.Test.YtlflhigphfnhoaaDoorLayT
namespace Go.Proofs.YtlflhigphfnhoaaDoor
open Go.RowKit
set_option linter.unusedVariables false

set_option maxHeartbeats 4000000 in
set_option maxRecDepth 100000 in
theorem vlays_yes (A : Option Addr) (cap : Nat) (l : List UInt8) (k n : Int) (s : ByteArray) (at_ : Int) (w : World) (hb : Byt w A l) (hA : A = none → cap = 0) (hc : l.length ≤ cap) (hm : cap ≤ 140737488351232) (hs : s.size ≤ maxLen) (h0 : -9223372036854775808 ≤ n) (h1 : n ≤ 9223372036854775807) (hr : rightB k n s.toList = true) :
    Calls Tryd.prog 4 #[.slice A l.length cap, .agg #[.int .i64 k, .int .i64 n, .string s], .int .i64 at_] w fun e w' => e = .returned (.bool true) ∧ Below w.heap.size w w' := by
  have HT1 := Lib.hid (fun w1 (h : Below w.heap.size w w1) => takev_any A cap at_ l w1 (hb.keep h) hA hc hm)
  have HT2 := Lib.hid (fun w1 (h : Below w.heap.size w w1) => reftakev_any A cap at_ l w1 (hb.keep h) hA hc hm)
  have HL1 := Lib.hid (fun w1 (h : Below w.heap.size w w1) => lay_any A cap l k n s w1 (hb.keep h) hA (by omega) h0 h1 hr)
  have HL2 := Lib.hid (fun w1 (h : Below w.heap.size w w1) => reflay_any A cap l k n s w1 (hb.keep h) hA (by omega) h0 h1 hr)
  generalize l ++ encV k n s.data.toList = D at HL1 HL2
  have hv : ∃ (k' n' p' e' : Int) (s' : ByteArray), valR l at_ = .tuple #[.agg #[.int .i64 k', .int .i64 n', .string s'], .int .i64 p', .int .i64 e'] := by
    unfold valR
    cases valO l at_ with
    | none => exact ⟨0, 0, 0, 20, ⟨#[]⟩, rfl⟩
    | some q => obtain ⟨a, b, c, d⟩ := q; exact ⟨a, b, d, 0, c, rfl⟩
  obtain ⟨k', n', p', e', s', hv⟩ := hv
  unfold TookV at HT1 HT2
  rw [hv] at HT1 HT2
  clear hv hb hA hc hm hs h0 h1 hr
  go_enter Tryd.func4, Tryd.ntmps4
  go_wp2_with (first | (go_at_call 9; refine (shown4_any _).mono ?_; rintro e w1 ⟨rfl, hb1⟩; obtain ⟨p1, p3⟩ := one_kept [.int .i64 k, .int .i64 n, .string s] hb1; have hlt := lt_of_block p1; have abel : Below w1.heap.size w1 w1 := Below.refl _ _; have a0 : w1.cell? ⟨w.heap.size, 0, none⟩ = some (.int .i64 k) := (p1.below abel hlt).at_ 0; have a1 : w1.cell? ⟨w.heap.size, 1, none⟩ = some (.int .i64 n) := (p1.below abel hlt).at_ 1; have a2 : w1.cell? ⟨w.heap.size, 2, none⟩ = some (.string s) := (p1.below abel hlt).at_ 2; clear hb1) | (go_at_call 14; refine (HL1.out _ p3).mono ?_; rintro e w2 ⟨vx, rfl, ownx, bbel⟩; obtain ⟨Ax, cx, rfl, byx, _, _, _⟩ := ownx.form; have b0 : w2.cell? ⟨w.heap.size, 0, none⟩ = some (.int .i64 k) := (p1.below bbel hlt).at_ 0; have b1 : w2.cell? ⟨w.heap.size, 1, none⟩ = some (.int .i64 n) := (p1.below bbel hlt).at_ 1; have b2 : w2.cell? ⟨w.heap.size, 2, none⟩ = some (.string s) := (p1.below bbel hlt).at_ 2; have p4 := p3.trans (bbel.mono p3.size); clear a0 a1 a2 ownx) | (go_at_call 15; refine (HL2.out _ p4).mono ?_; rintro e w3 ⟨vy, rfl, owny, cbel⟩; obtain ⟨Ay, cy, rfl, byy, _, _, _⟩ := owny.form; have byx3 := byx.keep cbel; have p5 := p4.trans (cbel.mono p4.size); clear b0 b1 b2 owny byx) | (go_at_call 16; refine (HT1.out _ p5).mono ?_; rintro e w4 ⟨rfl, dbel⟩; have p6 := p5.trans (dbel.mono p5.size); have xbel : Below w4.heap.size w4 (w4.alloc (Obj.cells #[Value.int IntKind.i64 k', Value.int IntKind.i64 n', Value.string s'] 23)) := (Below.refl _ _).alloc (Nat.le_refl _) _; have p7 := p6.trans (xbel.mono p6.size); have g1 := Blk.born w4 23 [.int .i64 k', .int .i64 n', .string s']; have byx4 := byx3.keep dbel; have byy4 := byy.keep dbel) | (go_at_call 17; refine (HT2.out _ p7).mono ?_; rintro e w5 ⟨rfl, ebel⟩; have p8 := p7.trans (ebel.mono p7.size); have g2 := g1.below ebel (by have := xbel.size; simp); have g20 : (w5.alloc (Obj.cells #[Value.int IntKind.i64 k', Value.int IntKind.i64 n', Value.string s'] 23)).cell? ⟨w4.heap.size, 0, none⟩ = some (.int .i64 k') := (g2.later _).at_ 0; have g21 : (w5.alloc (Obj.cells #[Value.int IntKind.i64 k', Value.int IntKind.i64 n', Value.string s'] 23)).cell? ⟨w4.heap.size, 1, none⟩ = some (.int .i64 n') := (g2.later _).at_ 1; have g22 : (w5.alloc (Obj.cells #[Value.int IntKind.i64 k', Value.int IntKind.i64 n', Value.string s'] 23)).cell? ⟨w4.heap.size, 2, none⟩ = some (.string s') := (g2.later _).at_ 2; have ybel : Below w5.heap.size w5 (w5.alloc (Obj.cells #[Value.int IntKind.i64 k', Value.int IntKind.i64 n', Value.string s'] 23)) := (Below.refl _ _).alloc (Nat.le_refl _) _; have qx := conv (((byx4.keep xbel).keep ebel).keep ybel) cx; have qy := conv (((byy4.keep xbel).keep ebel).keep ybel) cy; clear g1))
  go_ret
  exact ⟨rfl, p8.alloc p8.size _⟩

set_option maxHeartbeats 4000000 in
set_option maxRecDepth 100000 in
theorem vlays_no (A : Option Addr) (cap : Nat) (l : List UInt8) (k n : Int) (s : ByteArray) (at_ : Int) (w : World) (hb : Byt w A l) (hA : A = none → cap = 0) (hc : l.length ≤ cap) (hm : cap ≤ 140737488351232) (hs : s.size ≤ maxLen) (h0 : -9223372036854775808 ≤ n) (h1 : n ≤ 9223372036854775807) (hr : rightB k n s.toList = false) :
    Calls Tryd.prog 4 #[.slice A l.length cap, .agg #[.int .i64 k, .int .i64 n, .string s], .int .i64 at_] w fun e w' => e = .returned (.bool true) ∧ Below w.heap.size w w' := by
  have HT1 := Lib.hid (fun w1 (h : Below w.heap.size w w1) => takev_any A cap at_ l w1 (hb.keep h) hA hc hm)
  have HT2 := Lib.hid (fun w1 (h : Below w.heap.size w w1) => reftakev_any A cap at_ l w1 (hb.keep h) hA hc hm)
  have HL1 := Lib.hid (fun w1 => lay_no A cap l k n s w1 hs hr)
  have HL2 := Lib.hid (fun w1 => reflay_no A cap l k n s w1 hs hr)
  have hv : ∃ (k' n' p' e' : Int) (s' : ByteArray), valR l at_ = .tuple #[.agg #[.int .i64 k', .int .i64 n', .string s'], .int .i64 p', .int .i64 e'] := by
    unfold valR
    cases valO l at_ with
    | none => exact ⟨0, 0, 0, 20, ⟨#[]⟩, rfl⟩
    | some q => obtain ⟨a, b, c, d⟩ := q; exact ⟨a, b, d, 0, c, rfl⟩
  obtain ⟨k', n', p', e', s', hv⟩ := hv
  unfold TookV at HT1 HT2
  rw [hv] at HT1 HT2
  clear hv hb hA hc hm hs h0 h1 hr
  go_enter Tryd.func4, Tryd.ntmps4
  go_wp2_with (first | (go_at_call 9; refine (shown4_any _).mono ?_; rintro e w1 ⟨rfl, hb1⟩; obtain ⟨p1, p3⟩ := one_kept [.int .i64 k, .int .i64 n, .string s] hb1; have hlt := lt_of_block p1; have abel : Below w1.heap.size w1 w1 := Below.refl _ _; have a0 : w1.cell? ⟨w.heap.size, 0, none⟩ = some (.int .i64 k) := (p1.below abel hlt).at_ 0; have a1 : w1.cell? ⟨w.heap.size, 1, none⟩ = some (.int .i64 n) := (p1.below abel hlt).at_ 1; have a2 : w1.cell? ⟨w.heap.size, 2, none⟩ = some (.string s) := (p1.below abel hlt).at_ 2; clear hb1) | (go_at_call 14; refine (HL1.out _).mono ?_; rintro e w2 ⟨rfl, bbel⟩; have b0 : w2.cell? ⟨w.heap.size, 0, none⟩ = some (.int .i64 k) := (p1.below bbel hlt).at_ 0; have b1 : w2.cell? ⟨w.heap.size, 1, none⟩ = some (.int .i64 n) := (p1.below bbel hlt).at_ 1; have b2 : w2.cell? ⟨w.heap.size, 2, none⟩ = some (.string s) := (p1.below bbel hlt).at_ 2; have p4 := p3.trans (bbel.mono p3.size); clear a0 a1 a2) | (go_at_call 15; refine (HL2.out _).mono ?_; rintro e w3 ⟨rfl, cbel⟩; have p5 := p4.trans (cbel.mono p4.size); clear b0 b1 b2) | (go_at_call 16; refine (HT1.out _ p5).mono ?_; rintro e w4 ⟨rfl, dbel⟩; have p6 := p5.trans (dbel.mono p5.size); have xbel : Below w4.heap.size w4 (w4.alloc (Obj.cells #[Value.int IntKind.i64 k', Value.int IntKind.i64 n', Value.string s'] 23)) := (Below.refl _ _).alloc (Nat.le_refl _) _; have p7 := p6.trans (xbel.mono p6.size); have g1 := Blk.born w4 23 [.int .i64 k', .int .i64 n', .string s']) | (go_at_call 17; refine (HT2.out _ p7).mono ?_; rintro e w5 ⟨rfl, ebel⟩; have p8 := p7.trans (ebel.mono p7.size); have g2 := g1.below ebel (by have := xbel.size; simp); have g20 : (w5.alloc (Obj.cells #[Value.int IntKind.i64 k', Value.int IntKind.i64 n', Value.string s'] 23)).cell? ⟨w4.heap.size, 0, none⟩ = some (.int .i64 k') := (g2.later _).at_ 0; have g21 : (w5.alloc (Obj.cells #[Value.int IntKind.i64 k', Value.int IntKind.i64 n', Value.string s'] 23)).cell? ⟨w4.heap.size, 1, none⟩ = some (.int .i64 n') := (g2.later _).at_ 1; have g22 : (w5.alloc (Obj.cells #[Value.int IntKind.i64 k', Value.int IntKind.i64 n', Value.string s'] 23)).cell? ⟨w4.heap.size, 2, none⟩ = some (.string s') := (g2.later _).at_ 2; have q0 : (convert 28 9 (.slice none 0 0)).run Tryd.prog (w5.alloc (Obj.cells #[Value.int IntKind.i64 k', Value.int IntKind.i64 n', Value.string s'] 23)) = .ok (.string (str [])) (w5.alloc (Obj.cells #[Value.int IntKind.i64 k', Value.int IntKind.i64 n', Value.string s'] 23)) := conv (Byt.empty _ none) 0; clear g1))
  go_ret
  exact ⟨rfl, p8.alloc p8.size _⟩

theorem vlays_any (A : Option Addr) (cap : Nat) (l : List UInt8) (k n : Int) (s : ByteArray) (at_ : Int) (w : World) (hb : Byt w A l) (hA : A = none → cap = 0) (hc : l.length ≤ cap) (hm : cap ≤ 140737488351232) (hs : s.size ≤ maxLen) (h0 : -9223372036854775808 ≤ n) (h1 : n ≤ 9223372036854775807) :
    Calls Tryd.prog 4 #[.slice A l.length cap, .agg #[.int .i64 k, .int .i64 n, .string s], .int .i64 at_] w fun e w' => e = .returned (.bool true) ∧ Below w.heap.size w w' := by
  cases hr : rightB k n s.toList with
  | true => exact vlays_yes A cap l k n s at_ w hb hA hc hm hs h0 h1 hr
  | false => exact vlays_no A cap l k n s at_ w hb hA hc hm hs h0 h1 hr
end Go.Proofs.YtlflhigphfnhoaaDoor
