/- The walk of stackyardlaw04.ValueBack (7). -/
import Derived.Test.YtlflhigphfnhoaaDoorValX
import Derived.Test.YtlflhigphfnhoaaDoorTakeVW
import Derived.Test.YtlflhigphfnhoaaDoorShown4
namespace Go.Proofs.YtlflhigphfnhoaaDoor
open Go.RowKit
set_option linter.unusedVariables false

theorem enc_len {k n : Int} {t : ByteArray} (hr : rightB k n t.toList = true) : (encV k n t.data.toList).length ≤ 4000 := by
  have hn := num_len (zig n)
  have hm := num_len t.data.toList.length
  unfold encV
  split
  · simp only [List.length_cons]; omega
  · split
    · simp
    · split
      · rename_i h3
        subst h3
        have : n = 0 ∧ t.toList.length ≤ 1024 := by simpa [rightB] using hr
        rw [ByteArray.toList_eq] at this
        simp only [List.length_cons, List.length_append]
        omega
      · simp
set_option maxHeartbeats 8000000 in
set_option maxRecDepth 100000 in
theorem vback_nnn (k n : Int) (t : ByteArray) (A : Option Addr) (c : Nat) (l : List UInt8) (s : ByteArray) (w : World) (hs : s.size ≤ 140737488351232) (he : Errs w) (hp : Pow w) (hb : Byt w A l) (hA : A = none → c = 0) (hc : l.length ≤ c) (hm : c ≤ 140737488351232) (ht : t.size ≤ maxLen) (n0 : -9223372036854775808 ≤ n) (n1 : n ≤ 9223372036854775807) (hr : rightB k n t.toList = false) (hv : valO l 0 = none) (hz : parO s = none) : Calls Tryd.prog 7 #[.agg #[.int .i64 k, .int .i64 n, .string t], .slice A l.length c, .string s] w fun e w' => e = .returned (.bool true) ∧ Below w.heap.size w w' := by
  have HL := Lib.hid (fun W => lay_no none 0 [] k n t W ht hr)
  have HS := Lib.hid (fun W => show_no k n t W ht hr)
  have hV := fun W (h : Below w.heap.size w W) => takev_any A c 0 l W (hb.keep h) hA hc hm
  unfold TookV at hV
  rw [valR_none hv] at hV
  have HV := Lib.hid hV
  have HB := Lib.hid (fun W (h : Below w.heap.size w W) => parse_any s W hs (he.next h) (hp.next h))
  rw [parR_none hz] at HB
  have HY := Lib.hid hb
  have HC := Lib.hid (And.intro hA (And.intro hc hm))
  clear hV hv hz hr hs he hp hb hc hm ht n0 n1 hA
  have hT0 : True := trivial
  go_enter Tryd.func7, Tryd.ntmps7
  go_wp2_with (first | (go_at_call 9; refine (shown4_any _).mono ?_; rintro e w1 ⟨rfl, hb1⟩; obtain ⟨p1, q1⟩ := one_kept [.int .i64 k, .int .i64 n, .string t] hb1; have hlt := lt_of_block p1; have a0 : (w1).cell? ⟨w.heap.size, 0, none⟩ = some (.int .i64 k) := (p1).at_ 0; have a1 : (w1).cell? ⟨w.heap.size, 1, none⟩ = some (.int .i64 n) := (p1).at_ 1; have a2 : (w1).cell? ⟨w.heap.size, 2, none⟩ = some (.string t) := (p1).at_ 2; clear hb1) | (go_at_call 14; refine (HL.out _).mono ?_; rintro e w2 ⟨rfl, bx⟩; have q2 := q1.trans (bx.mono q1.size); have p2 := p1.below bx hlt; have b0 : (w2).cell? ⟨w.heap.size, 0, none⟩ = some (.int .i64 k) := (p2).at_ 0; have b1 : (w2).cell? ⟨w.heap.size, 1, none⟩ = some (.int .i64 n) := (p2).at_ 1; have b2 : (w2).cell? ⟨w.heap.size, 2, none⟩ = some (.string t) := (p2).at_ 2; clear HL a0 a1 a2) | (go_at_call 18; refine (HS.out _).mono ?_; rintro e w3 ⟨rfl, b3⟩; have q8 := q2.trans (b3.mono q2.size); clear HS b0 b1 b2) | (go_at_call 16; refine (HV.out _ q8).mono ?_; rintro e w7 ⟨rfl, b7⟩; have q9 := q8.trans (b7.mono q8.size); have x7 : Below w7.heap.size w7 (w7.alloc (Obj.cells #[Value.int IntKind.i64 0, Value.int IntKind.i64 0, Value.string { data := #[] }] 23)) := (Below.refl _ _).alloc (Nat.le_refl _) _; have q10 := q9.trans (x7.mono q9.size); have g7 := Blk.born w7 23 [.int .i64 0, .int .i64 0, .string { data := #[] }]; have i0 : (w7.alloc (Obj.cells #[Value.int IntKind.i64 0, Value.int IntKind.i64 0, Value.string { data := #[] }] 23)).cell? ⟨w7.heap.size, 0, none⟩ = some (.int .i64 0) := (g7).at_ 0; have i1 : (w7.alloc (Obj.cells #[Value.int IntKind.i64 0, Value.int IntKind.i64 0, Value.string { data := #[] }] 23)).cell? ⟨w7.heap.size, 1, none⟩ = some (.int .i64 0) := (g7).at_ 1; have i2 : (w7.alloc (Obj.cells #[Value.int IntKind.i64 0, Value.int IntKind.i64 0, Value.string { data := #[] }] 23)).cell? ⟨w7.heap.size, 2, none⟩ = some (.string { data := #[] }) := (g7).at_ 2; have q11 := q10; clear HV) | (go_at_call 20; refine (HB.out _ q11).mono ?_; rintro e w9 ⟨rfl, b9⟩; have q12 := q11.trans (b9.mono q11.size); have x9 : Below w9.heap.size w9 (w9.alloc (Obj.cells #[Value.int IntKind.i64 0, Value.int IntKind.i64 0, Value.string { data := #[] }] 23)) := (Below.refl _ _).alloc (Nat.le_refl _) _; have q13 := q12.trans (x9.mono q12.size); have g9 := Blk.born w9 23 [.int .i64 0, .int .i64 0, .string { data := #[] }]; have j0 : (w9.alloc (Obj.cells #[Value.int IntKind.i64 0, Value.int IntKind.i64 0, Value.string { data := #[] }] 23)).cell? ⟨w9.heap.size, 0, none⟩ = some (.int .i64 0) := (g9).at_ 0; have j1 : (w9.alloc (Obj.cells #[Value.int IntKind.i64 0, Value.int IntKind.i64 0, Value.string { data := #[] }] 23)).cell? ⟨w9.heap.size, 1, none⟩ = some (.int .i64 0) := (g9).at_ 1; have j2 : (w9.alloc (Obj.cells #[Value.int IntKind.i64 0, Value.int IntKind.i64 0, Value.string { data := #[] }] 23)).cell? ⟨w9.heap.size, 2, none⟩ = some (.string { data := #[] }) := (g9).at_ 2; clear HB))
  go_ret
  exact ⟨rfl, q13⟩
set_option maxHeartbeats 8000000 in
set_option maxRecDepth 100000 in
theorem vback_nny (k n : Int) (t : ByteArray) (A : Option Addr) (c : Nat) (l : List UInt8) (s : ByteArray) (w : World) (hs : s.size ≤ 140737488351232) (he : Errs w) (hp : Pow w) (hb : Byt w A l) (hA : A = none → c = 0) (hc : l.length ≤ c) (hm : c ≤ 140737488351232) (ht : t.size ≤ maxLen) (n0 : -9223372036854775808 ≤ n) (n1 : n ≤ 9223372036854775807) (hr : rightB k n t.toList = false) (hv : valO l 0 = none) (k3 n3 : Int) (t3 : ByteArray) (hz : parO s = some (k3, n3, t3)) : Calls Tryd.prog 7 #[.agg #[.int .i64 k, .int .i64 n, .string t], .slice A l.length c, .string s] w fun e w' => e = .returned (.bool true) ∧ Below w.heap.size w w' := by
  have HL := Lib.hid (fun W => lay_no none 0 [] k n t W ht hr)
  have HS := Lib.hid (fun W => show_no k n t W ht hr)
  have hV := fun W (h : Below w.heap.size w W) => takev_any A c 0 l W (hb.keep h) hA hc hm
  unfold TookV at hV
  rw [valR_none hv] at hV
  have HV := Lib.hid hV
  have HB := Lib.hid (fun W (h : Below w.heap.size w W) => parse_any s W hs (he.next h) (hp.next h))
  rw [parR_some hz] at HB
  obtain ⟨hr3, g3, g4, hx3⟩ := txt_par hz
  have HW := Lib.hid (fun W (h : Below w.heap.size w W) => show_yes k3 n3 t3 W (hp.next h) g3 g4 hr3)
  rw [hx3] at HW
  clear hr3 hx3 g3 g4
  have HY := Lib.hid hb
  have HC := Lib.hid (And.intro hA (And.intro hc hm))
  clear hV hv hz hr hs he hp hb hc hm ht n0 n1 hA
  have hT0 : True := trivial
  go_enter Tryd.func7, Tryd.ntmps7
  go_wp2_with (first | (go_at_call 9; refine (shown4_any _).mono ?_; rintro e w1 ⟨rfl, hb1⟩; obtain ⟨p1, q1⟩ := one_kept [.int .i64 k, .int .i64 n, .string t] hb1; have hlt := lt_of_block p1; have a0 : (w1).cell? ⟨w.heap.size, 0, none⟩ = some (.int .i64 k) := (p1).at_ 0; have a1 : (w1).cell? ⟨w.heap.size, 1, none⟩ = some (.int .i64 n) := (p1).at_ 1; have a2 : (w1).cell? ⟨w.heap.size, 2, none⟩ = some (.string t) := (p1).at_ 2; clear hb1) | (go_at_call 14; refine (HL.out _).mono ?_; rintro e w2 ⟨rfl, bx⟩; have q2 := q1.trans (bx.mono q1.size); have p2 := p1.below bx hlt; have b0 : (w2).cell? ⟨w.heap.size, 0, none⟩ = some (.int .i64 k) := (p2).at_ 0; have b1 : (w2).cell? ⟨w.heap.size, 1, none⟩ = some (.int .i64 n) := (p2).at_ 1; have b2 : (w2).cell? ⟨w.heap.size, 2, none⟩ = some (.string t) := (p2).at_ 2; clear HL a0 a1 a2) | (go_at_call 18; refine (HS.out _).mono ?_; rintro e w3 ⟨rfl, b3⟩; have q8 := q2.trans (b3.mono q2.size); clear HS b0 b1 b2) | (go_at_call 16; refine (HV.out _ q8).mono ?_; rintro e w7 ⟨rfl, b7⟩; have q9 := q8.trans (b7.mono q8.size); have x7 : Below w7.heap.size w7 (w7.alloc (Obj.cells #[Value.int IntKind.i64 0, Value.int IntKind.i64 0, Value.string { data := #[] }] 23)) := (Below.refl _ _).alloc (Nat.le_refl _) _; have q10 := q9.trans (x7.mono q9.size); have g7 := Blk.born w7 23 [.int .i64 0, .int .i64 0, .string { data := #[] }]; have i0 : (w7.alloc (Obj.cells #[Value.int IntKind.i64 0, Value.int IntKind.i64 0, Value.string { data := #[] }] 23)).cell? ⟨w7.heap.size, 0, none⟩ = some (.int .i64 0) := (g7).at_ 0; have i1 : (w7.alloc (Obj.cells #[Value.int IntKind.i64 0, Value.int IntKind.i64 0, Value.string { data := #[] }] 23)).cell? ⟨w7.heap.size, 1, none⟩ = some (.int .i64 0) := (g7).at_ 1; have i2 : (w7.alloc (Obj.cells #[Value.int IntKind.i64 0, Value.int IntKind.i64 0, Value.string { data := #[] }] 23)).cell? ⟨w7.heap.size, 2, none⟩ = some (.string { data := #[] }) := (g7).at_ 2; have q11 := q10; clear HV) | (go_at_call 20; refine (HB.out _ q11).mono ?_; rintro e w9 ⟨rfl, b9⟩; have q12 := q11.trans (b9.mono q11.size); have x9 : Below w9.heap.size w9 (w9.alloc (Obj.cells #[Value.int IntKind.i64 k3, Value.int IntKind.i64 n3, Value.string t3] 23)) := (Below.refl _ _).alloc (Nat.le_refl _) _; have q13 := q12.trans (x9.mono q12.size); have g9 := Blk.born w9 23 [.int .i64 k3, .int .i64 n3, .string t3]; have j0 : (w9.alloc (Obj.cells #[Value.int IntKind.i64 k3, Value.int IntKind.i64 n3, Value.string t3] 23)).cell? ⟨w9.heap.size, 0, none⟩ = some (.int .i64 k3) := (g9).at_ 0; have j1 : (w9.alloc (Obj.cells #[Value.int IntKind.i64 k3, Value.int IntKind.i64 n3, Value.string t3] 23)).cell? ⟨w9.heap.size, 1, none⟩ = some (.int .i64 n3) := (g9).at_ 1; have j2 : (w9.alloc (Obj.cells #[Value.int IntKind.i64 k3, Value.int IntKind.i64 n3, Value.string t3] 23)).cell? ⟨w9.heap.size, 2, none⟩ = some (.string t3) := (g9).at_ 2; clear HB) | (go_at_call 18; refine (HW.out _ q13).mono ?_; rintro e w10 ⟨rfl, b10⟩; have q14 := q13.trans (b10.mono q13.size); clear HW))
  go_ret
  exact ⟨rfl, q14⟩
set_option maxHeartbeats 8000000 in
set_option maxRecDepth 100000 in
theorem vback_nyn (k n : Int) (t : ByteArray) (A : Option Addr) (c : Nat) (l : List UInt8) (s : ByteArray) (w : World) (hs : s.size ≤ 140737488351232) (he : Errs w) (hp : Pow w) (hb : Byt w A l) (hA : A = none → c = 0) (hc : l.length ≤ c) (hm : c ≤ 140737488351232) (ht : t.size ≤ maxLen) (n0 : -9223372036854775808 ≤ n) (n1 : n ≤ 9223372036854775807) (hr : rightB k n t.toList = false) (k2 n2 p2 : Int) (t2 : ByteArray) (hv : valO l 0 = some (k2, n2, t2, p2)) (hz : parO s = none) : Calls Tryd.prog 7 #[.agg #[.int .i64 k, .int .i64 n, .string t], .slice A l.length c, .string s] w fun e w' => e = .returned (.bool true) ∧ Below w.heap.size w w' := by
  have HL := Lib.hid (fun W => lay_no none 0 [] k n t W ht hr)
  have HS := Lib.hid (fun W => show_no k n t W ht hr)
  have hV := fun W (h : Below w.heap.size w W) => takev_any A c 0 l W (hb.keep h) hA hc hm
  unfold TookV at hV
  rw [valR_some hv] at hV
  obtain ⟨hr2, g0, g1, P, rfl, hP, hE2⟩ := enc_val hv
  have HM := Lib.hid (fun W => lay_any none 0 [] k2 n2 t2 W (Byt.empty _ _) (fun _ => rfl) (by simp) g0 g1 hr2)
  rw [show ([] : List UInt8) ++ encV k2 n2 t2.data.toList = encV k2 n2 t2.data.toList from rfl, hE2] at HM
  have hA' : ∃ b0 o0, A = some ⟨b0, o0, none⟩ := by
    have h0 : 0 < l.length := by
      rcases Nat.eq_zero_or_pos l.length with h | h
      · rw [valO_out (by omega)] at hv; cases hv
      · exact h
    obtain ⟨b0, o0, rfl, _⟩ := hb 0 h0
    exact ⟨b0, o0, rfl⟩
  obtain ⟨b0, o0, rfl⟩ := hA'
  have hPl : (l.take P).length = P := by rw [List.length_take]; omega
  have hPi : Byt w (some ⟨b0, o0, none⟩) (l.take P) := fun i hi => by
    have hi' : i < l.length := by omega
    obtain ⟨b1, o1, e, h⟩ := hb i hi'
    exact ⟨b1, o1, e, by rw [List.getElem_take]; exact h⟩
  have hPc : (P : Int) ≤ (c : Int) := by omega
  have hP0 : (0 : Int) ≤ (P : Int) := by omega
  generalize l.take P = M at HM hPl hPi
  have HP := Lib.hid hPi
  have HPl := Lib.hid hPl
  clear hE2 hr2 hPi hPl g0 g1 hP
  have HV := Lib.hid hV
  have HB := Lib.hid (fun W (h : Below w.heap.size w W) => parse_any s W hs (he.next h) (hp.next h))
  rw [parR_none hz] at HB
  have HY := Lib.hid hb
  have HC := Lib.hid (And.intro hA (And.intro hc hm))
  clear hV hv hz hr hs he hp hb hc hm ht n0 n1 hA
  have hT0 : True := trivial
  go_enter Tryd.func7, Tryd.ntmps7
  go_wp2_with (first | (go_at_call 9; refine (shown4_any _).mono ?_; rintro e w1 ⟨rfl, hb1⟩; obtain ⟨p1, q1⟩ := one_kept [.int .i64 k, .int .i64 n, .string t] hb1; have hlt := lt_of_block p1; have a0 : (w1).cell? ⟨w.heap.size, 0, none⟩ = some (.int .i64 k) := (p1).at_ 0; have a1 : (w1).cell? ⟨w.heap.size, 1, none⟩ = some (.int .i64 n) := (p1).at_ 1; have a2 : (w1).cell? ⟨w.heap.size, 2, none⟩ = some (.string t) := (p1).at_ 2; clear hb1) | (go_at_call 14; refine (HL.out _).mono ?_; rintro e w2 ⟨rfl, bx⟩; have q2 := q1.trans (bx.mono q1.size); have p2 := p1.below bx hlt; have b0 : (w2).cell? ⟨w.heap.size, 0, none⟩ = some (.int .i64 k) := (p2).at_ 0; have b1 : (w2).cell? ⟨w.heap.size, 1, none⟩ = some (.int .i64 n) := (p2).at_ 1; have b2 : (w2).cell? ⟨w.heap.size, 2, none⟩ = some (.string t) := (p2).at_ 2; clear HL a0 a1 a2) | (go_at_call 18; refine (HS.out _).mono ?_; rintro e w3 ⟨rfl, b3⟩; have q8 := q2.trans (b3.mono q2.size); clear HS b0 b1 b2) | (go_at_call 16; refine (HV.out _ q8).mono ?_; rintro e w7 ⟨rfl, b7⟩; have q9 := q8.trans (b7.mono q8.size); have x7 : Below w7.heap.size w7 (w7.alloc (Obj.cells #[Value.int IntKind.i64 k2, Value.int IntKind.i64 n2, Value.string t2] 23)) := (Below.refl _ _).alloc (Nat.le_refl _) _; have q10 := q9.trans (x7.mono q9.size); have g7 := Blk.born w7 23 [.int .i64 k2, .int .i64 n2, .string t2]; have i0 : (w7.alloc (Obj.cells #[Value.int IntKind.i64 k2, Value.int IntKind.i64 n2, Value.string t2] 23)).cell? ⟨w7.heap.size, 0, none⟩ = some (.int .i64 k2) := (g7).at_ 0; have i1 : (w7.alloc (Obj.cells #[Value.int IntKind.i64 k2, Value.int IntKind.i64 n2, Value.string t2] 23)).cell? ⟨w7.heap.size, 1, none⟩ = some (.int .i64 n2) := (g7).at_ 1; have i2 : (w7.alloc (Obj.cells #[Value.int IntKind.i64 k2, Value.int IntKind.i64 n2, Value.string t2] 23)).cell? ⟨w7.heap.size, 2, none⟩ = some (.string t2) := (g7).at_ 2; clear HV) | (go_at_call 14; refine (HM.out _).mono ?_; rintro e w8 ⟨vy, rfl, owny, b8⟩; obtain ⟨Ay, cy, rfl, byy, _, _, _⟩ := owny.form; have q11 := q10.trans (b8.mono q10.size); clear HM))
  have y1 : ∀ k, (convert 28 9 (.slice Ay M.length cy)).run Tryd.prog (w8.drewN k) = .ok (.string (str M)) (w8.drewN k) := fun k => conv (w := w8.drewN k) (byy.keep (Below.drewN' (Below.refl _ _) k)) cy
  have y2 : ∀ k, (convert 28 9 (.slice (some ⟨b0, o0, none⟩) P c)).run Tryd.prog (w8.drewN k) = .ok (.string (str M)) (w8.drewN k) := fun k => by
    have := conv (w := w8.drewN k) (HP.out.keep (Below.drewN' q11 k)) c
    rwa [HPl.out] at this
  have y10 := y1 0
  have y20 := y2 0
  go_quiet (fail)
  go_wp2_with (first | (go_at_call 20; refine (HB.out _ (Below.drewN' q11 _)).mono ?_; rintro e w9 ⟨rfl, b9⟩; have q12 := (Below.drewN' q11 _).trans (b9.mono (Below.drewN' q11 _).size); have x9 : Below w9.heap.size w9 (w9.alloc (Obj.cells #[Value.int IntKind.i64 0, Value.int IntKind.i64 0, Value.string { data := #[] }] 23)) := (Below.refl _ _).alloc (Nat.le_refl _) _; have q13 := q12.trans (x9.mono q12.size); have g9 := Blk.born w9 23 [.int .i64 0, .int .i64 0, .string { data := #[] }]; have j0 : (w9.alloc (Obj.cells #[Value.int IntKind.i64 0, Value.int IntKind.i64 0, Value.string { data := #[] }] 23)).cell? ⟨w9.heap.size, 0, none⟩ = some (.int .i64 0) := (g9).at_ 0; have j1 : (w9.alloc (Obj.cells #[Value.int IntKind.i64 0, Value.int IntKind.i64 0, Value.string { data := #[] }] 23)).cell? ⟨w9.heap.size, 1, none⟩ = some (.int .i64 0) := (g9).at_ 1; have j2 : (w9.alloc (Obj.cells #[Value.int IntKind.i64 0, Value.int IntKind.i64 0, Value.string { data := #[] }] 23)).cell? ⟨w9.heap.size, 2, none⟩ = some (.string { data := #[] }) := (g9).at_ 2; clear HB))
  go_ret
  exact ⟨rfl, q13⟩
set_option maxHeartbeats 8000000 in
set_option maxRecDepth 100000 in
theorem vback_nyy (k n : Int) (t : ByteArray) (A : Option Addr) (c : Nat) (l : List UInt8) (s : ByteArray) (w : World) (hs : s.size ≤ 140737488351232) (he : Errs w) (hp : Pow w) (hb : Byt w A l) (hA : A = none → c = 0) (hc : l.length ≤ c) (hm : c ≤ 140737488351232) (ht : t.size ≤ maxLen) (n0 : -9223372036854775808 ≤ n) (n1 : n ≤ 9223372036854775807) (hr : rightB k n t.toList = false) (k2 n2 p2 : Int) (t2 : ByteArray) (hv : valO l 0 = some (k2, n2, t2, p2)) (k3 n3 : Int) (t3 : ByteArray) (hz : parO s = some (k3, n3, t3)) : Calls Tryd.prog 7 #[.agg #[.int .i64 k, .int .i64 n, .string t], .slice A l.length c, .string s] w fun e w' => e = .returned (.bool true) ∧ Below w.heap.size w w' := by
  have HL := Lib.hid (fun W => lay_no none 0 [] k n t W ht hr)
  have HS := Lib.hid (fun W => show_no k n t W ht hr)
  have hV := fun W (h : Below w.heap.size w W) => takev_any A c 0 l W (hb.keep h) hA hc hm
  unfold TookV at hV
  rw [valR_some hv] at hV
  obtain ⟨hr2, g0, g1, P, rfl, hP, hE2⟩ := enc_val hv
  have HM := Lib.hid (fun W => lay_any none 0 [] k2 n2 t2 W (Byt.empty _ _) (fun _ => rfl) (by simp) g0 g1 hr2)
  rw [show ([] : List UInt8) ++ encV k2 n2 t2.data.toList = encV k2 n2 t2.data.toList from rfl, hE2] at HM
  have hA' : ∃ b0 o0, A = some ⟨b0, o0, none⟩ := by
    have h0 : 0 < l.length := by
      rcases Nat.eq_zero_or_pos l.length with h | h
      · rw [valO_out (by omega)] at hv; cases hv
      · exact h
    obtain ⟨b0, o0, rfl, _⟩ := hb 0 h0
    exact ⟨b0, o0, rfl⟩
  obtain ⟨b0, o0, rfl⟩ := hA'
  have hPl : (l.take P).length = P := by rw [List.length_take]; omega
  have hPi : Byt w (some ⟨b0, o0, none⟩) (l.take P) := fun i hi => by
    have hi' : i < l.length := by omega
    obtain ⟨b1, o1, e, h⟩ := hb i hi'
    exact ⟨b1, o1, e, by rw [List.getElem_take]; exact h⟩
  have hPc : (P : Int) ≤ (c : Int) := by omega
  have hP0 : (0 : Int) ≤ (P : Int) := by omega
  generalize l.take P = M at HM hPl hPi
  have HP := Lib.hid hPi
  have HPl := Lib.hid hPl
  clear hE2 hr2 hPi hPl g0 g1 hP
  have HV := Lib.hid hV
  have HB := Lib.hid (fun W (h : Below w.heap.size w W) => parse_any s W hs (he.next h) (hp.next h))
  rw [parR_some hz] at HB
  obtain ⟨hr3, g3, g4, hx3⟩ := txt_par hz
  have HW := Lib.hid (fun W (h : Below w.heap.size w W) => show_yes k3 n3 t3 W (hp.next h) g3 g4 hr3)
  rw [hx3] at HW
  clear hr3 hx3 g3 g4
  have HY := Lib.hid hb
  have HC := Lib.hid (And.intro hA (And.intro hc hm))
  clear hV hv hz hr hs he hp hb hc hm ht n0 n1 hA
  have hT0 : True := trivial
  go_enter Tryd.func7, Tryd.ntmps7
  go_wp2_with (first | (go_at_call 9; refine (shown4_any _).mono ?_; rintro e w1 ⟨rfl, hb1⟩; obtain ⟨p1, q1⟩ := one_kept [.int .i64 k, .int .i64 n, .string t] hb1; have hlt := lt_of_block p1; have a0 : (w1).cell? ⟨w.heap.size, 0, none⟩ = some (.int .i64 k) := (p1).at_ 0; have a1 : (w1).cell? ⟨w.heap.size, 1, none⟩ = some (.int .i64 n) := (p1).at_ 1; have a2 : (w1).cell? ⟨w.heap.size, 2, none⟩ = some (.string t) := (p1).at_ 2; clear hb1) | (go_at_call 14; refine (HL.out _).mono ?_; rintro e w2 ⟨rfl, bx⟩; have q2 := q1.trans (bx.mono q1.size); have p2 := p1.below bx hlt; have b0 : (w2).cell? ⟨w.heap.size, 0, none⟩ = some (.int .i64 k) := (p2).at_ 0; have b1 : (w2).cell? ⟨w.heap.size, 1, none⟩ = some (.int .i64 n) := (p2).at_ 1; have b2 : (w2).cell? ⟨w.heap.size, 2, none⟩ = some (.string t) := (p2).at_ 2; clear HL a0 a1 a2) | (go_at_call 18; refine (HS.out _).mono ?_; rintro e w3 ⟨rfl, b3⟩; have q8 := q2.trans (b3.mono q2.size); clear HS b0 b1 b2) | (go_at_call 16; refine (HV.out _ q8).mono ?_; rintro e w7 ⟨rfl, b7⟩; have q9 := q8.trans (b7.mono q8.size); have x7 : Below w7.heap.size w7 (w7.alloc (Obj.cells #[Value.int IntKind.i64 k2, Value.int IntKind.i64 n2, Value.string t2] 23)) := (Below.refl _ _).alloc (Nat.le_refl _) _; have q10 := q9.trans (x7.mono q9.size); have g7 := Blk.born w7 23 [.int .i64 k2, .int .i64 n2, .string t2]; have i0 : (w7.alloc (Obj.cells #[Value.int IntKind.i64 k2, Value.int IntKind.i64 n2, Value.string t2] 23)).cell? ⟨w7.heap.size, 0, none⟩ = some (.int .i64 k2) := (g7).at_ 0; have i1 : (w7.alloc (Obj.cells #[Value.int IntKind.i64 k2, Value.int IntKind.i64 n2, Value.string t2] 23)).cell? ⟨w7.heap.size, 1, none⟩ = some (.int .i64 n2) := (g7).at_ 1; have i2 : (w7.alloc (Obj.cells #[Value.int IntKind.i64 k2, Value.int IntKind.i64 n2, Value.string t2] 23)).cell? ⟨w7.heap.size, 2, none⟩ = some (.string t2) := (g7).at_ 2; clear HV) | (go_at_call 14; refine (HM.out _).mono ?_; rintro e w8 ⟨vy, rfl, owny, b8⟩; obtain ⟨Ay, cy, rfl, byy, _, _, _⟩ := owny.form; have q11 := q10.trans (b8.mono q10.size); clear HM))
  have y1 : ∀ k, (convert 28 9 (.slice Ay M.length cy)).run Tryd.prog (w8.drewN k) = .ok (.string (str M)) (w8.drewN k) := fun k => conv (w := w8.drewN k) (byy.keep (Below.drewN' (Below.refl _ _) k)) cy
  have y2 : ∀ k, (convert 28 9 (.slice (some ⟨b0, o0, none⟩) P c)).run Tryd.prog (w8.drewN k) = .ok (.string (str M)) (w8.drewN k) := fun k => by
    have := conv (w := w8.drewN k) (HP.out.keep (Below.drewN' q11 k)) c
    rwa [HPl.out] at this
  have y10 := y1 0
  have y20 := y2 0
  go_quiet (fail)
  go_wp2_with (first | (go_at_call 20; refine (HB.out _ (Below.drewN' q11 _)).mono ?_; rintro e w9 ⟨rfl, b9⟩; have q12 := (Below.drewN' q11 _).trans (b9.mono (Below.drewN' q11 _).size); have x9 : Below w9.heap.size w9 (w9.alloc (Obj.cells #[Value.int IntKind.i64 k3, Value.int IntKind.i64 n3, Value.string t3] 23)) := (Below.refl _ _).alloc (Nat.le_refl _) _; have q13 := q12.trans (x9.mono q12.size); have g9 := Blk.born w9 23 [.int .i64 k3, .int .i64 n3, .string t3]; have j0 : (w9.alloc (Obj.cells #[Value.int IntKind.i64 k3, Value.int IntKind.i64 n3, Value.string t3] 23)).cell? ⟨w9.heap.size, 0, none⟩ = some (.int .i64 k3) := (g9).at_ 0; have j1 : (w9.alloc (Obj.cells #[Value.int IntKind.i64 k3, Value.int IntKind.i64 n3, Value.string t3] 23)).cell? ⟨w9.heap.size, 1, none⟩ = some (.int .i64 n3) := (g9).at_ 1; have j2 : (w9.alloc (Obj.cells #[Value.int IntKind.i64 k3, Value.int IntKind.i64 n3, Value.string t3] 23)).cell? ⟨w9.heap.size, 2, none⟩ = some (.string t3) := (g9).at_ 2; clear HB) | (go_at_call 18; refine (HW.out _ q13).mono ?_; rintro e w10 ⟨rfl, b10⟩; have q14 := q13.trans (b10.mono q13.size); clear HW))
  go_ret
  exact ⟨rfl, q14⟩
set_option maxHeartbeats 8000000 in
set_option maxRecDepth 100000 in
theorem vback_ynn (k n : Int) (t : ByteArray) (A : Option Addr) (c : Nat) (l : List UInt8) (s : ByteArray) (w : World) (hs : s.size ≤ 140737488351232) (he : Errs w) (hp : Pow w) (hb : Byt w A l) (hA : A = none → c = 0) (hc : l.length ≤ c) (hm : c ≤ 140737488351232) (ht : t.size ≤ maxLen) (n0 : -9223372036854775808 ≤ n) (n1 : n ≤ 9223372036854775807) (hr : rightB k n t.toList = true) (hv : valO l 0 = none) (hz : parO s = none) : Calls Tryd.prog 7 #[.agg #[.int .i64 k, .int .i64 n, .string t], .slice A l.length c, .string s] w fun e w' => e = .returned (.bool true) ∧ Below w.heap.size w w' := by
  have HL := Lib.hid (fun W => lay_any none 0 [] k n t W (Byt.empty _ _) (fun _ => rfl) (by simp) n0 n1 hr)
  have HS := Lib.hid (fun W (h : Below w.heap.size w W) => show_yes k n t W (hp.next h) n0 n1 hr)
  have HX := Lib.hid (fun W (h : Below w.heap.size w W) => parse_any (txtOf k n t) W (txt_size n0 n1 hr) (he.next h) (hp.next h))
  rw [parR_some (par_txt hr n0 n1)] at HX
  have hE : ([] : List UInt8) ++ encV k n t.data.toList = encV k n t.data.toList := rfl
  have hEl : (encV k n t.data.toList).length ≤ 4000 := enc_len hr
  have hT := fun A4 c4 W (hy : Byt W A4 (encV k n t.data.toList ++ l)) (hn : A4 = none → c4 = 0) (hq : (encV k n t.data.toList ++ l).length ≤ c4) (hq2 : c4 ≤ maxLen) => takev_anyW A4 c4 0 (encV k n t.data.toList ++ l) W hy hn hq (by unfold maxLen at hq2; omega) (by rw [List.length_append]; omega)
  unfold TookV at hT
  rw [valR_some (val_enc k n t l hr n0 n1)] at hT
  have hsz : (encV k n t.data.toList).length + l.length ≤ 200000000000000 := by omega
  rw [hE] at HL
  generalize encV k n t.data.toList = E at HL hT hsz
  generalize hD : E ++ l = D at hT
  have HT := Lib.hid hT
  have HD := Lib.hid hD
  generalize txtOf k n t = x at HS HX
  clear hE hEl hT hD
  have hV := fun W (h : Below w.heap.size w W) => takev_any A c 0 l W (hb.keep h) hA hc hm
  unfold TookV at hV
  rw [valR_none hv] at hV
  have HV := Lib.hid hV
  have HB := Lib.hid (fun W (h : Below w.heap.size w W) => parse_any s W hs (he.next h) (hp.next h))
  rw [parR_none hz] at HB
  have HY := Lib.hid hb
  have HC := Lib.hid (And.intro hA (And.intro hc hm))
  clear hV hv hz hr hs he hp hb hc hm ht n0 n1
  have hT0 : True := trivial
  go_enter Tryd.func7, Tryd.ntmps7
  go_wp2_with (first | (go_at_call 9; refine (shown4_any _).mono ?_; rintro e w1 ⟨rfl, hb1⟩; obtain ⟨p1, q1⟩ := one_kept [.int .i64 k, .int .i64 n, .string t] hb1; have hlt := lt_of_block p1; have a0 : (w1).cell? ⟨w.heap.size, 0, none⟩ = some (.int .i64 k) := (p1).at_ 0; have a1 : (w1).cell? ⟨w.heap.size, 1, none⟩ = some (.int .i64 n) := (p1).at_ 1; have a2 : (w1).cell? ⟨w.heap.size, 2, none⟩ = some (.string t) := (p1).at_ 2; clear hb1) | (go_at_call 14; refine (HL.out _).mono ?_; rintro e w2 ⟨vx, rfl, ownx, bx⟩; obtain ⟨Ax, cx, rfl, byx, _, _, _⟩ := ownx.form; have q2 := q1.trans (bx.mono q1.size); have p2 := p1.below bx hlt; have hlt2 := lt_of_block p2; have b0 : (w2).cell? ⟨w.heap.size, 0, none⟩ = some (.int .i64 k) := (p2).at_ 0; have b1 : (w2).cell? ⟨w.heap.size, 1, none⟩ = some (.int .i64 n) := (p2).at_ 1; have b2 : (w2).cell? ⟨w.heap.size, 2, none⟩ = some (.string t) := (p2).at_ 2; clear HL a0 a1 a2) | (go_at_call 18; refine (HS.out _ q2).mono ?_; rintro e w3 ⟨rfl, b3⟩; have q3 := q2.trans (b3.mono q2.size); have p3 := p2.below b3 hlt2; have hlt3 := lt_of_block p3; have own3 := ownx.below b3; clear HS b0 b1 b2) | (at_builtin; refine app_byt w1 rfl _ _ rfl _ E rfl own3 ((bx.trans (b3.mono bx.size))) A l.length c l rfl rfl (HY.out.keep q3) hA hsz ?_; intro v4 w4 ho4 hb4 _; have ho4' : Own w4 w1.heap.size v4 D := (by rw [← HD.out]; exact ho4); clear ho4; obtain ⟨A4, c4, rfl, hy4, hA4, hc4, hm4⟩ := ho4'.form; have p4 := p1.below hb4 hlt; have hlt4 := lt_of_block p4; have q4 := q1.trans (hb4.mono q1.size); clear ho4') | (go_at_call 16; refine (HT.out _ _ _ hy4 hA4 hc4 hm4).mono ?_; rintro e w5 ⟨rfl, b5⟩; have q5 := q4.trans (b5.mono q4.size); have p5 := p4.below b5 hlt4; have hlt5 := lt_of_block p5; have x5 : Below w5.heap.size w5 (w5.alloc (Obj.cells #[Value.int IntKind.i64 k, Value.int IntKind.i64 n, Value.string t] 23)) := (Below.refl _ _).alloc (Nat.le_refl _) _; have q6 := q5.trans (x5.mono q5.size); have g5 := Blk.born w5 23 [.int .i64 k, .int .i64 n, .string t]; have p6 := p5.below x5 hlt5; clear HT) | (go_at_call 20; refine (HX.out _ q6).mono ?_; rintro e w6 ⟨rfl, b6⟩; have q7 := q6.trans (b6.mono q6.size); have hlt6 := lt_of_block p6; have p7 := p6.below b6 hlt6; have g6 := g5.below b6 (lt_of_block g5); have x6 : Below w6.heap.size w6 (w6.alloc (Obj.cells #[Value.int IntKind.i64 k, Value.int IntKind.i64 n, Value.string t] 23)) := (Below.refl _ _).alloc (Nat.le_refl _) _; have q8 := q7.trans (x6.mono q7.size); have p8 := p7.below x6 (lt_of_block p7); have g8 := g6.below x6 (lt_of_block g6); have f8 := Blk.born w6 23 [.int .i64 k, .int .i64 n, .string t]; have c0 : (w6.alloc (Obj.cells #[Value.int IntKind.i64 k, Value.int IntKind.i64 n, Value.string t] 23)).cell? ⟨w.heap.size, 0, none⟩ = some (.int .i64 k) := (p8).at_ 0; have c1 : (w6.alloc (Obj.cells #[Value.int IntKind.i64 k, Value.int IntKind.i64 n, Value.string t] 23)).cell? ⟨w.heap.size, 1, none⟩ = some (.int .i64 n) := (p8).at_ 1; have c2 : (w6.alloc (Obj.cells #[Value.int IntKind.i64 k, Value.int IntKind.i64 n, Value.string t] 23)).cell? ⟨w.heap.size, 2, none⟩ = some (.string t) := (p8).at_ 2; have d0 : (w6.alloc (Obj.cells #[Value.int IntKind.i64 k, Value.int IntKind.i64 n, Value.string t] 23)).cell? ⟨w5.heap.size, 0, none⟩ = some (.int .i64 k) := (g8).at_ 0; have d1 : (w6.alloc (Obj.cells #[Value.int IntKind.i64 k, Value.int IntKind.i64 n, Value.string t] 23)).cell? ⟨w5.heap.size, 1, none⟩ = some (.int .i64 n) := (g8).at_ 1; have d2 : (w6.alloc (Obj.cells #[Value.int IntKind.i64 k, Value.int IntKind.i64 n, Value.string t] 23)).cell? ⟨w5.heap.size, 2, none⟩ = some (.string t) := (g8).at_ 2; have e0 : (w6.alloc (Obj.cells #[Value.int IntKind.i64 k, Value.int IntKind.i64 n, Value.string t] 23)).cell? ⟨w6.heap.size, 0, none⟩ = some (.int .i64 k) := (f8).at_ 0; have e1 : (w6.alloc (Obj.cells #[Value.int IntKind.i64 k, Value.int IntKind.i64 n, Value.string t] 23)).cell? ⟨w6.heap.size, 1, none⟩ = some (.int .i64 n) := (f8).at_ 1; have e2 : (w6.alloc (Obj.cells #[Value.int IntKind.i64 k, Value.int IntKind.i64 n, Value.string t] 23)).cell? ⟨w6.heap.size, 2, none⟩ = some (.string t) := (f8).at_ 2; clear HX) | (go_at_call 16; refine (HV.out _ q8).mono ?_; rintro e w7 ⟨rfl, b7⟩; have q9 := q8.trans (b7.mono q8.size); have x7 : Below w7.heap.size w7 (w7.alloc (Obj.cells #[Value.int IntKind.i64 0, Value.int IntKind.i64 0, Value.string { data := #[] }] 23)) := (Below.refl _ _).alloc (Nat.le_refl _) _; have q10 := q9.trans (x7.mono q9.size); have g7 := Blk.born w7 23 [.int .i64 0, .int .i64 0, .string { data := #[] }]; have i0 : (w7.alloc (Obj.cells #[Value.int IntKind.i64 0, Value.int IntKind.i64 0, Value.string { data := #[] }] 23)).cell? ⟨w7.heap.size, 0, none⟩ = some (.int .i64 0) := (g7).at_ 0; have i1 : (w7.alloc (Obj.cells #[Value.int IntKind.i64 0, Value.int IntKind.i64 0, Value.string { data := #[] }] 23)).cell? ⟨w7.heap.size, 1, none⟩ = some (.int .i64 0) := (g7).at_ 1; have i2 : (w7.alloc (Obj.cells #[Value.int IntKind.i64 0, Value.int IntKind.i64 0, Value.string { data := #[] }] 23)).cell? ⟨w7.heap.size, 2, none⟩ = some (.string { data := #[] }) := (g7).at_ 2; have q11 := q10; clear HV) | (go_at_call 20; refine (HB.out _ q11).mono ?_; rintro e w9 ⟨rfl, b9⟩; have q12 := q11.trans (b9.mono q11.size); have x9 : Below w9.heap.size w9 (w9.alloc (Obj.cells #[Value.int IntKind.i64 0, Value.int IntKind.i64 0, Value.string { data := #[] }] 23)) := (Below.refl _ _).alloc (Nat.le_refl _) _; have q13 := q12.trans (x9.mono q12.size); have g9 := Blk.born w9 23 [.int .i64 0, .int .i64 0, .string { data := #[] }]; have j0 : (w9.alloc (Obj.cells #[Value.int IntKind.i64 0, Value.int IntKind.i64 0, Value.string { data := #[] }] 23)).cell? ⟨w9.heap.size, 0, none⟩ = some (.int .i64 0) := (g9).at_ 0; have j1 : (w9.alloc (Obj.cells #[Value.int IntKind.i64 0, Value.int IntKind.i64 0, Value.string { data := #[] }] 23)).cell? ⟨w9.heap.size, 1, none⟩ = some (.int .i64 0) := (g9).at_ 1; have j2 : (w9.alloc (Obj.cells #[Value.int IntKind.i64 0, Value.int IntKind.i64 0, Value.string { data := #[] }] 23)).cell? ⟨w9.heap.size, 2, none⟩ = some (.string { data := #[] }) := (g9).at_ 2; clear HB))
  go_ret
  exact ⟨rfl, q13⟩
set_option maxHeartbeats 8000000 in
set_option maxRecDepth 100000 in
theorem vback_yny (k n : Int) (t : ByteArray) (A : Option Addr) (c : Nat) (l : List UInt8) (s : ByteArray) (w : World) (hs : s.size ≤ 140737488351232) (he : Errs w) (hp : Pow w) (hb : Byt w A l) (hA : A = none → c = 0) (hc : l.length ≤ c) (hm : c ≤ 140737488351232) (ht : t.size ≤ maxLen) (n0 : -9223372036854775808 ≤ n) (n1 : n ≤ 9223372036854775807) (hr : rightB k n t.toList = true) (hv : valO l 0 = none) (k3 n3 : Int) (t3 : ByteArray) (hz : parO s = some (k3, n3, t3)) : Calls Tryd.prog 7 #[.agg #[.int .i64 k, .int .i64 n, .string t], .slice A l.length c, .string s] w fun e w' => e = .returned (.bool true) ∧ Below w.heap.size w w' := by
  have HL := Lib.hid (fun W => lay_any none 0 [] k n t W (Byt.empty _ _) (fun _ => rfl) (by simp) n0 n1 hr)
  have HS := Lib.hid (fun W (h : Below w.heap.size w W) => show_yes k n t W (hp.next h) n0 n1 hr)
  have HX := Lib.hid (fun W (h : Below w.heap.size w W) => parse_any (txtOf k n t) W (txt_size n0 n1 hr) (he.next h) (hp.next h))
  rw [parR_some (par_txt hr n0 n1)] at HX
  have hE : ([] : List UInt8) ++ encV k n t.data.toList = encV k n t.data.toList := rfl
  have hEl : (encV k n t.data.toList).length ≤ 4000 := enc_len hr
  have hT := fun A4 c4 W (hy : Byt W A4 (encV k n t.data.toList ++ l)) (hn : A4 = none → c4 = 0) (hq : (encV k n t.data.toList ++ l).length ≤ c4) (hq2 : c4 ≤ maxLen) => takev_anyW A4 c4 0 (encV k n t.data.toList ++ l) W hy hn hq (by unfold maxLen at hq2; omega) (by rw [List.length_append]; omega)
  unfold TookV at hT
  rw [valR_some (val_enc k n t l hr n0 n1)] at hT
  have hsz : (encV k n t.data.toList).length + l.length ≤ 200000000000000 := by omega
  rw [hE] at HL
  generalize encV k n t.data.toList = E at HL hT hsz
  generalize hD : E ++ l = D at hT
  have HT := Lib.hid hT
  have HD := Lib.hid hD
  generalize txtOf k n t = x at HS HX
  clear hE hEl hT hD
  have hV := fun W (h : Below w.heap.size w W) => takev_any A c 0 l W (hb.keep h) hA hc hm
  unfold TookV at hV
  rw [valR_none hv] at hV
  have HV := Lib.hid hV
  have HB := Lib.hid (fun W (h : Below w.heap.size w W) => parse_any s W hs (he.next h) (hp.next h))
  rw [parR_some hz] at HB
  obtain ⟨hr3, g3, g4, hx3⟩ := txt_par hz
  have HW := Lib.hid (fun W (h : Below w.heap.size w W) => show_yes k3 n3 t3 W (hp.next h) g3 g4 hr3)
  rw [hx3] at HW
  clear hr3 hx3 g3 g4
  have HY := Lib.hid hb
  have HC := Lib.hid (And.intro hA (And.intro hc hm))
  clear hV hv hz hr hs he hp hb hc hm ht n0 n1
  have hT0 : True := trivial
  go_enter Tryd.func7, Tryd.ntmps7
  go_wp2_with (first | (go_at_call 9; refine (shown4_any _).mono ?_; rintro e w1 ⟨rfl, hb1⟩; obtain ⟨p1, q1⟩ := one_kept [.int .i64 k, .int .i64 n, .string t] hb1; have hlt := lt_of_block p1; have a0 : (w1).cell? ⟨w.heap.size, 0, none⟩ = some (.int .i64 k) := (p1).at_ 0; have a1 : (w1).cell? ⟨w.heap.size, 1, none⟩ = some (.int .i64 n) := (p1).at_ 1; have a2 : (w1).cell? ⟨w.heap.size, 2, none⟩ = some (.string t) := (p1).at_ 2; clear hb1) | (go_at_call 14; refine (HL.out _).mono ?_; rintro e w2 ⟨vx, rfl, ownx, bx⟩; obtain ⟨Ax, cx, rfl, byx, _, _, _⟩ := ownx.form; have q2 := q1.trans (bx.mono q1.size); have p2 := p1.below bx hlt; have hlt2 := lt_of_block p2; have b0 : (w2).cell? ⟨w.heap.size, 0, none⟩ = some (.int .i64 k) := (p2).at_ 0; have b1 : (w2).cell? ⟨w.heap.size, 1, none⟩ = some (.int .i64 n) := (p2).at_ 1; have b2 : (w2).cell? ⟨w.heap.size, 2, none⟩ = some (.string t) := (p2).at_ 2; clear HL a0 a1 a2) | (go_at_call 18; refine (HS.out _ q2).mono ?_; rintro e w3 ⟨rfl, b3⟩; have q3 := q2.trans (b3.mono q2.size); have p3 := p2.below b3 hlt2; have hlt3 := lt_of_block p3; have own3 := ownx.below b3; clear HS b0 b1 b2) | (at_builtin; refine app_byt w1 rfl _ _ rfl _ E rfl own3 ((bx.trans (b3.mono bx.size))) A l.length c l rfl rfl (HY.out.keep q3) hA hsz ?_; intro v4 w4 ho4 hb4 _; have ho4' : Own w4 w1.heap.size v4 D := (by rw [← HD.out]; exact ho4); clear ho4; obtain ⟨A4, c4, rfl, hy4, hA4, hc4, hm4⟩ := ho4'.form; have p4 := p1.below hb4 hlt; have hlt4 := lt_of_block p4; have q4 := q1.trans (hb4.mono q1.size); clear ho4') | (go_at_call 16; refine (HT.out _ _ _ hy4 hA4 hc4 hm4).mono ?_; rintro e w5 ⟨rfl, b5⟩; have q5 := q4.trans (b5.mono q4.size); have p5 := p4.below b5 hlt4; have hlt5 := lt_of_block p5; have x5 : Below w5.heap.size w5 (w5.alloc (Obj.cells #[Value.int IntKind.i64 k, Value.int IntKind.i64 n, Value.string t] 23)) := (Below.refl _ _).alloc (Nat.le_refl _) _; have q6 := q5.trans (x5.mono q5.size); have g5 := Blk.born w5 23 [.int .i64 k, .int .i64 n, .string t]; have p6 := p5.below x5 hlt5; clear HT) | (go_at_call 20; refine (HX.out _ q6).mono ?_; rintro e w6 ⟨rfl, b6⟩; have q7 := q6.trans (b6.mono q6.size); have hlt6 := lt_of_block p6; have p7 := p6.below b6 hlt6; have g6 := g5.below b6 (lt_of_block g5); have x6 : Below w6.heap.size w6 (w6.alloc (Obj.cells #[Value.int IntKind.i64 k, Value.int IntKind.i64 n, Value.string t] 23)) := (Below.refl _ _).alloc (Nat.le_refl _) _; have q8 := q7.trans (x6.mono q7.size); have p8 := p7.below x6 (lt_of_block p7); have g8 := g6.below x6 (lt_of_block g6); have f8 := Blk.born w6 23 [.int .i64 k, .int .i64 n, .string t]; have c0 : (w6.alloc (Obj.cells #[Value.int IntKind.i64 k, Value.int IntKind.i64 n, Value.string t] 23)).cell? ⟨w.heap.size, 0, none⟩ = some (.int .i64 k) := (p8).at_ 0; have c1 : (w6.alloc (Obj.cells #[Value.int IntKind.i64 k, Value.int IntKind.i64 n, Value.string t] 23)).cell? ⟨w.heap.size, 1, none⟩ = some (.int .i64 n) := (p8).at_ 1; have c2 : (w6.alloc (Obj.cells #[Value.int IntKind.i64 k, Value.int IntKind.i64 n, Value.string t] 23)).cell? ⟨w.heap.size, 2, none⟩ = some (.string t) := (p8).at_ 2; have d0 : (w6.alloc (Obj.cells #[Value.int IntKind.i64 k, Value.int IntKind.i64 n, Value.string t] 23)).cell? ⟨w5.heap.size, 0, none⟩ = some (.int .i64 k) := (g8).at_ 0; have d1 : (w6.alloc (Obj.cells #[Value.int IntKind.i64 k, Value.int IntKind.i64 n, Value.string t] 23)).cell? ⟨w5.heap.size, 1, none⟩ = some (.int .i64 n) := (g8).at_ 1; have d2 : (w6.alloc (Obj.cells #[Value.int IntKind.i64 k, Value.int IntKind.i64 n, Value.string t] 23)).cell? ⟨w5.heap.size, 2, none⟩ = some (.string t) := (g8).at_ 2; have e0 : (w6.alloc (Obj.cells #[Value.int IntKind.i64 k, Value.int IntKind.i64 n, Value.string t] 23)).cell? ⟨w6.heap.size, 0, none⟩ = some (.int .i64 k) := (f8).at_ 0; have e1 : (w6.alloc (Obj.cells #[Value.int IntKind.i64 k, Value.int IntKind.i64 n, Value.string t] 23)).cell? ⟨w6.heap.size, 1, none⟩ = some (.int .i64 n) := (f8).at_ 1; have e2 : (w6.alloc (Obj.cells #[Value.int IntKind.i64 k, Value.int IntKind.i64 n, Value.string t] 23)).cell? ⟨w6.heap.size, 2, none⟩ = some (.string t) := (f8).at_ 2; clear HX) | (go_at_call 16; refine (HV.out _ q8).mono ?_; rintro e w7 ⟨rfl, b7⟩; have q9 := q8.trans (b7.mono q8.size); have x7 : Below w7.heap.size w7 (w7.alloc (Obj.cells #[Value.int IntKind.i64 0, Value.int IntKind.i64 0, Value.string { data := #[] }] 23)) := (Below.refl _ _).alloc (Nat.le_refl _) _; have q10 := q9.trans (x7.mono q9.size); have g7 := Blk.born w7 23 [.int .i64 0, .int .i64 0, .string { data := #[] }]; have i0 : (w7.alloc (Obj.cells #[Value.int IntKind.i64 0, Value.int IntKind.i64 0, Value.string { data := #[] }] 23)).cell? ⟨w7.heap.size, 0, none⟩ = some (.int .i64 0) := (g7).at_ 0; have i1 : (w7.alloc (Obj.cells #[Value.int IntKind.i64 0, Value.int IntKind.i64 0, Value.string { data := #[] }] 23)).cell? ⟨w7.heap.size, 1, none⟩ = some (.int .i64 0) := (g7).at_ 1; have i2 : (w7.alloc (Obj.cells #[Value.int IntKind.i64 0, Value.int IntKind.i64 0, Value.string { data := #[] }] 23)).cell? ⟨w7.heap.size, 2, none⟩ = some (.string { data := #[] }) := (g7).at_ 2; have q11 := q10; clear HV) | (go_at_call 20; refine (HB.out _ q11).mono ?_; rintro e w9 ⟨rfl, b9⟩; have q12 := q11.trans (b9.mono q11.size); have x9 : Below w9.heap.size w9 (w9.alloc (Obj.cells #[Value.int IntKind.i64 k3, Value.int IntKind.i64 n3, Value.string t3] 23)) := (Below.refl _ _).alloc (Nat.le_refl _) _; have q13 := q12.trans (x9.mono q12.size); have g9 := Blk.born w9 23 [.int .i64 k3, .int .i64 n3, .string t3]; have j0 : (w9.alloc (Obj.cells #[Value.int IntKind.i64 k3, Value.int IntKind.i64 n3, Value.string t3] 23)).cell? ⟨w9.heap.size, 0, none⟩ = some (.int .i64 k3) := (g9).at_ 0; have j1 : (w9.alloc (Obj.cells #[Value.int IntKind.i64 k3, Value.int IntKind.i64 n3, Value.string t3] 23)).cell? ⟨w9.heap.size, 1, none⟩ = some (.int .i64 n3) := (g9).at_ 1; have j2 : (w9.alloc (Obj.cells #[Value.int IntKind.i64 k3, Value.int IntKind.i64 n3, Value.string t3] 23)).cell? ⟨w9.heap.size, 2, none⟩ = some (.string t3) := (g9).at_ 2; clear HB) | (go_at_call 18; refine (HW.out _ q13).mono ?_; rintro e w10 ⟨rfl, b10⟩; have q14 := q13.trans (b10.mono q13.size); clear HW))
  go_ret
  exact ⟨rfl, q14⟩
set_option maxHeartbeats 8000000 in
set_option maxRecDepth 100000 in
theorem vback_yyn (k n : Int) (t : ByteArray) (A : Option Addr) (c : Nat) (l : List UInt8) (s : ByteArray) (w : World) (hs : s.size ≤ 140737488351232) (he : Errs w) (hp : Pow w) (hb : Byt w A l) (hA : A = none → c = 0) (hc : l.length ≤ c) (hm : c ≤ 140737488351232) (ht : t.size ≤ maxLen) (n0 : -9223372036854775808 ≤ n) (n1 : n ≤ 9223372036854775807) (hr : rightB k n t.toList = true) (k2 n2 p2 : Int) (t2 : ByteArray) (hv : valO l 0 = some (k2, n2, t2, p2)) (hz : parO s = none) : Calls Tryd.prog 7 #[.agg #[.int .i64 k, .int .i64 n, .string t], .slice A l.length c, .string s] w fun e w' => e = .returned (.bool true) ∧ Below w.heap.size w w' := by
  have HL := Lib.hid (fun W => lay_any none 0 [] k n t W (Byt.empty _ _) (fun _ => rfl) (by simp) n0 n1 hr)
  have HS := Lib.hid (fun W (h : Below w.heap.size w W) => show_yes k n t W (hp.next h) n0 n1 hr)
  have HX := Lib.hid (fun W (h : Below w.heap.size w W) => parse_any (txtOf k n t) W (txt_size n0 n1 hr) (he.next h) (hp.next h))
  rw [parR_some (par_txt hr n0 n1)] at HX
  have hE : ([] : List UInt8) ++ encV k n t.data.toList = encV k n t.data.toList := rfl
  have hEl : (encV k n t.data.toList).length ≤ 4000 := enc_len hr
  have hT := fun A4 c4 W (hy : Byt W A4 (encV k n t.data.toList ++ l)) (hn : A4 = none → c4 = 0) (hq : (encV k n t.data.toList ++ l).length ≤ c4) (hq2 : c4 ≤ maxLen) => takev_anyW A4 c4 0 (encV k n t.data.toList ++ l) W hy hn hq (by unfold maxLen at hq2; omega) (by rw [List.length_append]; omega)
  unfold TookV at hT
  rw [valR_some (val_enc k n t l hr n0 n1)] at hT
  have hsz : (encV k n t.data.toList).length + l.length ≤ 200000000000000 := by omega
  rw [hE] at HL
  generalize encV k n t.data.toList = E at HL hT hsz
  generalize hD : E ++ l = D at hT
  have HT := Lib.hid hT
  have HD := Lib.hid hD
  generalize txtOf k n t = x at HS HX
  clear hE hEl hT hD
  have hV := fun W (h : Below w.heap.size w W) => takev_any A c 0 l W (hb.keep h) hA hc hm
  unfold TookV at hV
  rw [valR_some hv] at hV
  obtain ⟨hr2, g0, g1, P, rfl, hP, hE2⟩ := enc_val hv
  have HM := Lib.hid (fun W => lay_any none 0 [] k2 n2 t2 W (Byt.empty _ _) (fun _ => rfl) (by simp) g0 g1 hr2)
  rw [show ([] : List UInt8) ++ encV k2 n2 t2.data.toList = encV k2 n2 t2.data.toList from rfl, hE2] at HM
  have hA' : ∃ b0 o0, A = some ⟨b0, o0, none⟩ := by
    have h0 : 0 < l.length := by
      rcases Nat.eq_zero_or_pos l.length with h | h
      · rw [valO_out (by omega)] at hv; cases hv
      · exact h
    obtain ⟨b0, o0, rfl, _⟩ := hb 0 h0
    exact ⟨b0, o0, rfl⟩
  obtain ⟨b0, o0, rfl⟩ := hA'
  have hPl : (l.take P).length = P := by rw [List.length_take]; omega
  have hPi : Byt w (some ⟨b0, o0, none⟩) (l.take P) := fun i hi => by
    have hi' : i < l.length := by omega
    obtain ⟨b1, o1, e, h⟩ := hb i hi'
    exact ⟨b1, o1, e, by rw [List.getElem_take]; exact h⟩
  have hPc : (P : Int) ≤ (c : Int) := by omega
  have hP0 : (0 : Int) ≤ (P : Int) := by omega
  generalize l.take P = M at HM hPl hPi
  have HP := Lib.hid hPi
  have HPl := Lib.hid hPl
  clear hE2 hr2 hPi hPl g0 g1 hP
  have HV := Lib.hid hV
  have HB := Lib.hid (fun W (h : Below w.heap.size w W) => parse_any s W hs (he.next h) (hp.next h))
  rw [parR_none hz] at HB
  have HY := Lib.hid hb
  have HC := Lib.hid (And.intro hA (And.intro hc hm))
  clear hV hv hz hr hs he hp hb hc hm ht n0 n1
  have hT0 : True := trivial
  go_enter Tryd.func7, Tryd.ntmps7
  go_wp2_with (first | (go_at_call 9; refine (shown4_any _).mono ?_; rintro e w1 ⟨rfl, hb1⟩; obtain ⟨p1, q1⟩ := one_kept [.int .i64 k, .int .i64 n, .string t] hb1; have hlt := lt_of_block p1; have a0 : (w1).cell? ⟨w.heap.size, 0, none⟩ = some (.int .i64 k) := (p1).at_ 0; have a1 : (w1).cell? ⟨w.heap.size, 1, none⟩ = some (.int .i64 n) := (p1).at_ 1; have a2 : (w1).cell? ⟨w.heap.size, 2, none⟩ = some (.string t) := (p1).at_ 2; clear hb1) | (go_at_call 14; refine (HL.out _).mono ?_; rintro e w2 ⟨vx, rfl, ownx, bx⟩; obtain ⟨Ax, cx, rfl, byx, _, _, _⟩ := ownx.form; have q2 := q1.trans (bx.mono q1.size); have p2 := p1.below bx hlt; have hlt2 := lt_of_block p2; have b0 : (w2).cell? ⟨w.heap.size, 0, none⟩ = some (.int .i64 k) := (p2).at_ 0; have b1 : (w2).cell? ⟨w.heap.size, 1, none⟩ = some (.int .i64 n) := (p2).at_ 1; have b2 : (w2).cell? ⟨w.heap.size, 2, none⟩ = some (.string t) := (p2).at_ 2; clear HL a0 a1 a2) | (go_at_call 18; refine (HS.out _ q2).mono ?_; rintro e w3 ⟨rfl, b3⟩; have q3 := q2.trans (b3.mono q2.size); have p3 := p2.below b3 hlt2; have hlt3 := lt_of_block p3; have own3 := ownx.below b3; clear HS b0 b1 b2) | (at_builtin; refine app_byt w1 rfl _ _ rfl _ E rfl own3 ((bx.trans (b3.mono bx.size))) (some ⟨b0, o0, none⟩) l.length c l rfl rfl (HY.out.keep q3) hA hsz ?_; intro v4 w4 ho4 hb4 _; have ho4' : Own w4 w1.heap.size v4 D := (by rw [← HD.out]; exact ho4); clear ho4; obtain ⟨A4, c4, rfl, hy4, hA4, hc4, hm4⟩ := ho4'.form; have p4 := p1.below hb4 hlt; have hlt4 := lt_of_block p4; have q4 := q1.trans (hb4.mono q1.size); clear ho4') | (go_at_call 16; refine (HT.out _ _ _ hy4 hA4 hc4 hm4).mono ?_; rintro e w5 ⟨rfl, b5⟩; have q5 := q4.trans (b5.mono q4.size); have p5 := p4.below b5 hlt4; have hlt5 := lt_of_block p5; have x5 : Below w5.heap.size w5 (w5.alloc (Obj.cells #[Value.int IntKind.i64 k, Value.int IntKind.i64 n, Value.string t] 23)) := (Below.refl _ _).alloc (Nat.le_refl _) _; have q6 := q5.trans (x5.mono q5.size); have g5 := Blk.born w5 23 [.int .i64 k, .int .i64 n, .string t]; have p6 := p5.below x5 hlt5; clear HT) | (go_at_call 20; refine (HX.out _ q6).mono ?_; rintro e w6 ⟨rfl, b6⟩; have q7 := q6.trans (b6.mono q6.size); have hlt6 := lt_of_block p6; have p7 := p6.below b6 hlt6; have g6 := g5.below b6 (lt_of_block g5); have x6 : Below w6.heap.size w6 (w6.alloc (Obj.cells #[Value.int IntKind.i64 k, Value.int IntKind.i64 n, Value.string t] 23)) := (Below.refl _ _).alloc (Nat.le_refl _) _; have q8 := q7.trans (x6.mono q7.size); have p8 := p7.below x6 (lt_of_block p7); have g8 := g6.below x6 (lt_of_block g6); have f8 := Blk.born w6 23 [.int .i64 k, .int .i64 n, .string t]; have c0 : (w6.alloc (Obj.cells #[Value.int IntKind.i64 k, Value.int IntKind.i64 n, Value.string t] 23)).cell? ⟨w.heap.size, 0, none⟩ = some (.int .i64 k) := (p8).at_ 0; have c1 : (w6.alloc (Obj.cells #[Value.int IntKind.i64 k, Value.int IntKind.i64 n, Value.string t] 23)).cell? ⟨w.heap.size, 1, none⟩ = some (.int .i64 n) := (p8).at_ 1; have c2 : (w6.alloc (Obj.cells #[Value.int IntKind.i64 k, Value.int IntKind.i64 n, Value.string t] 23)).cell? ⟨w.heap.size, 2, none⟩ = some (.string t) := (p8).at_ 2; have d0 : (w6.alloc (Obj.cells #[Value.int IntKind.i64 k, Value.int IntKind.i64 n, Value.string t] 23)).cell? ⟨w5.heap.size, 0, none⟩ = some (.int .i64 k) := (g8).at_ 0; have d1 : (w6.alloc (Obj.cells #[Value.int IntKind.i64 k, Value.int IntKind.i64 n, Value.string t] 23)).cell? ⟨w5.heap.size, 1, none⟩ = some (.int .i64 n) := (g8).at_ 1; have d2 : (w6.alloc (Obj.cells #[Value.int IntKind.i64 k, Value.int IntKind.i64 n, Value.string t] 23)).cell? ⟨w5.heap.size, 2, none⟩ = some (.string t) := (g8).at_ 2; have e0 : (w6.alloc (Obj.cells #[Value.int IntKind.i64 k, Value.int IntKind.i64 n, Value.string t] 23)).cell? ⟨w6.heap.size, 0, none⟩ = some (.int .i64 k) := (f8).at_ 0; have e1 : (w6.alloc (Obj.cells #[Value.int IntKind.i64 k, Value.int IntKind.i64 n, Value.string t] 23)).cell? ⟨w6.heap.size, 1, none⟩ = some (.int .i64 n) := (f8).at_ 1; have e2 : (w6.alloc (Obj.cells #[Value.int IntKind.i64 k, Value.int IntKind.i64 n, Value.string t] 23)).cell? ⟨w6.heap.size, 2, none⟩ = some (.string t) := (f8).at_ 2; clear HX) | (go_at_call 16; refine (HV.out _ q8).mono ?_; rintro e w7 ⟨rfl, b7⟩; have q9 := q8.trans (b7.mono q8.size); have x7 : Below w7.heap.size w7 (w7.alloc (Obj.cells #[Value.int IntKind.i64 k2, Value.int IntKind.i64 n2, Value.string t2] 23)) := (Below.refl _ _).alloc (Nat.le_refl _) _; have q10 := q9.trans (x7.mono q9.size); have g7 := Blk.born w7 23 [.int .i64 k2, .int .i64 n2, .string t2]; have i0 : (w7.alloc (Obj.cells #[Value.int IntKind.i64 k2, Value.int IntKind.i64 n2, Value.string t2] 23)).cell? ⟨w7.heap.size, 0, none⟩ = some (.int .i64 k2) := (g7).at_ 0; have i1 : (w7.alloc (Obj.cells #[Value.int IntKind.i64 k2, Value.int IntKind.i64 n2, Value.string t2] 23)).cell? ⟨w7.heap.size, 1, none⟩ = some (.int .i64 n2) := (g7).at_ 1; have i2 : (w7.alloc (Obj.cells #[Value.int IntKind.i64 k2, Value.int IntKind.i64 n2, Value.string t2] 23)).cell? ⟨w7.heap.size, 2, none⟩ = some (.string t2) := (g7).at_ 2; clear HV) | (go_at_call 14; refine (HM.out _).mono ?_; rintro e w8 ⟨vy, rfl, owny, b8⟩; obtain ⟨Ay, cy, rfl, byy, _, _, _⟩ := owny.form; have q11 := q10.trans (b8.mono q10.size); clear HM))
  have y1 : ∀ k, (convert 28 9 (.slice Ay M.length cy)).run Tryd.prog (w8.drewN k) = .ok (.string (str M)) (w8.drewN k) := fun k => conv (w := w8.drewN k) (byy.keep (Below.drewN' (Below.refl _ _) k)) cy
  have y2 : ∀ k, (convert 28 9 (.slice (some ⟨b0, o0, none⟩) P c)).run Tryd.prog (w8.drewN k) = .ok (.string (str M)) (w8.drewN k) := fun k => by
    have := conv (w := w8.drewN k) (HP.out.keep (Below.drewN' q11 k)) c
    rwa [HPl.out] at this
  have y10 := y1 0
  have y20 := y2 0
  go_quiet (fail)
  go_wp2_with (first | (go_at_call 20; refine (HB.out _ (Below.drewN' q11 _)).mono ?_; rintro e w9 ⟨rfl, b9⟩; have q12 := (Below.drewN' q11 _).trans (b9.mono (Below.drewN' q11 _).size); have x9 : Below w9.heap.size w9 (w9.alloc (Obj.cells #[Value.int IntKind.i64 0, Value.int IntKind.i64 0, Value.string { data := #[] }] 23)) := (Below.refl _ _).alloc (Nat.le_refl _) _; have q13 := q12.trans (x9.mono q12.size); have g9 := Blk.born w9 23 [.int .i64 0, .int .i64 0, .string { data := #[] }]; have j0 : (w9.alloc (Obj.cells #[Value.int IntKind.i64 0, Value.int IntKind.i64 0, Value.string { data := #[] }] 23)).cell? ⟨w9.heap.size, 0, none⟩ = some (.int .i64 0) := (g9).at_ 0; have j1 : (w9.alloc (Obj.cells #[Value.int IntKind.i64 0, Value.int IntKind.i64 0, Value.string { data := #[] }] 23)).cell? ⟨w9.heap.size, 1, none⟩ = some (.int .i64 0) := (g9).at_ 1; have j2 : (w9.alloc (Obj.cells #[Value.int IntKind.i64 0, Value.int IntKind.i64 0, Value.string { data := #[] }] 23)).cell? ⟨w9.heap.size, 2, none⟩ = some (.string { data := #[] }) := (g9).at_ 2; clear HB))
  go_ret
  exact ⟨rfl, q13⟩
set_option maxHeartbeats 8000000 in
set_option maxRecDepth 100000 in
theorem vback_yyy (k n : Int) (t : ByteArray) (A : Option Addr) (c : Nat) (l : List UInt8) (s : ByteArray) (w : World) (hs : s.size ≤ 140737488351232) (he : Errs w) (hp : Pow w) (hb : Byt w A l) (hA : A = none → c = 0) (hc : l.length ≤ c) (hm : c ≤ 140737488351232) (ht : t.size ≤ maxLen) (n0 : -9223372036854775808 ≤ n) (n1 : n ≤ 9223372036854775807) (hr : rightB k n t.toList = true) (k2 n2 p2 : Int) (t2 : ByteArray) (hv : valO l 0 = some (k2, n2, t2, p2)) (k3 n3 : Int) (t3 : ByteArray) (hz : parO s = some (k3, n3, t3)) : Calls Tryd.prog 7 #[.agg #[.int .i64 k, .int .i64 n, .string t], .slice A l.length c, .string s] w fun e w' => e = .returned (.bool true) ∧ Below w.heap.size w w' := by
  have HL := Lib.hid (fun W => lay_any none 0 [] k n t W (Byt.empty _ _) (fun _ => rfl) (by simp) n0 n1 hr)
  have HS := Lib.hid (fun W (h : Below w.heap.size w W) => show_yes k n t W (hp.next h) n0 n1 hr)
  have HX := Lib.hid (fun W (h : Below w.heap.size w W) => parse_any (txtOf k n t) W (txt_size n0 n1 hr) (he.next h) (hp.next h))
  rw [parR_some (par_txt hr n0 n1)] at HX
  have hE : ([] : List UInt8) ++ encV k n t.data.toList = encV k n t.data.toList := rfl
  have hEl : (encV k n t.data.toList).length ≤ 4000 := enc_len hr
  have hT := fun A4 c4 W (hy : Byt W A4 (encV k n t.data.toList ++ l)) (hn : A4 = none → c4 = 0) (hq : (encV k n t.data.toList ++ l).length ≤ c4) (hq2 : c4 ≤ maxLen) => takev_anyW A4 c4 0 (encV k n t.data.toList ++ l) W hy hn hq (by unfold maxLen at hq2; omega) (by rw [List.length_append]; omega)
  unfold TookV at hT
  rw [valR_some (val_enc k n t l hr n0 n1)] at hT
  have hsz : (encV k n t.data.toList).length + l.length ≤ 200000000000000 := by omega
  rw [hE] at HL
  generalize encV k n t.data.toList = E at HL hT hsz
  generalize hD : E ++ l = D at hT
  have HT := Lib.hid hT
  have HD := Lib.hid hD
  generalize txtOf k n t = x at HS HX
  clear hE hEl hT hD
  have hV := fun W (h : Below w.heap.size w W) => takev_any A c 0 l W (hb.keep h) hA hc hm
  unfold TookV at hV
  rw [valR_some hv] at hV
  obtain ⟨hr2, g0, g1, P, rfl, hP, hE2⟩ := enc_val hv
  have HM := Lib.hid (fun W => lay_any none 0 [] k2 n2 t2 W (Byt.empty _ _) (fun _ => rfl) (by simp) g0 g1 hr2)
  rw [show ([] : List UInt8) ++ encV k2 n2 t2.data.toList = encV k2 n2 t2.data.toList from rfl, hE2] at HM
  have hA' : ∃ b0 o0, A = some ⟨b0, o0, none⟩ := by
    have h0 : 0 < l.length := by
      rcases Nat.eq_zero_or_pos l.length with h | h
      · rw [valO_out (by omega)] at hv; cases hv
      · exact h
    obtain ⟨b0, o0, rfl, _⟩ := hb 0 h0
    exact ⟨b0, o0, rfl⟩
  obtain ⟨b0, o0, rfl⟩ := hA'
  have hPl : (l.take P).length = P := by rw [List.length_take]; omega
  have hPi : Byt w (some ⟨b0, o0, none⟩) (l.take P) := fun i hi => by
    have hi' : i < l.length := by omega
    obtain ⟨b1, o1, e, h⟩ := hb i hi'
    exact ⟨b1, o1, e, by rw [List.getElem_take]; exact h⟩
  have hPc : (P : Int) ≤ (c : Int) := by omega
  have hP0 : (0 : Int) ≤ (P : Int) := by omega
  generalize l.take P = M at HM hPl hPi
  have HP := Lib.hid hPi
  have HPl := Lib.hid hPl
  clear hE2 hr2 hPi hPl g0 g1 hP
  have HV := Lib.hid hV
  have HB := Lib.hid (fun W (h : Below w.heap.size w W) => parse_any s W hs (he.next h) (hp.next h))
  rw [parR_some hz] at HB
  obtain ⟨hr3, g3, g4, hx3⟩ := txt_par hz
  have HW := Lib.hid (fun W (h : Below w.heap.size w W) => show_yes k3 n3 t3 W (hp.next h) g3 g4 hr3)
  rw [hx3] at HW
  clear hr3 hx3 g3 g4
  have HY := Lib.hid hb
  have HC := Lib.hid (And.intro hA (And.intro hc hm))
  clear hV hv hz hr hs he hp hb hc hm ht n0 n1
  have hT0 : True := trivial
  go_enter Tryd.func7, Tryd.ntmps7
  go_wp2_with (first | (go_at_call 9; refine (shown4_any _).mono ?_; rintro e w1 ⟨rfl, hb1⟩; obtain ⟨p1, q1⟩ := one_kept [.int .i64 k, .int .i64 n, .string t] hb1; have hlt := lt_of_block p1; have a0 : (w1).cell? ⟨w.heap.size, 0, none⟩ = some (.int .i64 k) := (p1).at_ 0; have a1 : (w1).cell? ⟨w.heap.size, 1, none⟩ = some (.int .i64 n) := (p1).at_ 1; have a2 : (w1).cell? ⟨w.heap.size, 2, none⟩ = some (.string t) := (p1).at_ 2; clear hb1) | (go_at_call 14; refine (HL.out _).mono ?_; rintro e w2 ⟨vx, rfl, ownx, bx⟩; obtain ⟨Ax, cx, rfl, byx, _, _, _⟩ := ownx.form; have q2 := q1.trans (bx.mono q1.size); have p2 := p1.below bx hlt; have hlt2 := lt_of_block p2; have b0 : (w2).cell? ⟨w.heap.size, 0, none⟩ = some (.int .i64 k) := (p2).at_ 0; have b1 : (w2).cell? ⟨w.heap.size, 1, none⟩ = some (.int .i64 n) := (p2).at_ 1; have b2 : (w2).cell? ⟨w.heap.size, 2, none⟩ = some (.string t) := (p2).at_ 2; clear HL a0 a1 a2) | (go_at_call 18; refine (HS.out _ q2).mono ?_; rintro e w3 ⟨rfl, b3⟩; have q3 := q2.trans (b3.mono q2.size); have p3 := p2.below b3 hlt2; have hlt3 := lt_of_block p3; have own3 := ownx.below b3; clear HS b0 b1 b2) | (at_builtin; refine app_byt w1 rfl _ _ rfl _ E rfl own3 ((bx.trans (b3.mono bx.size))) (some ⟨b0, o0, none⟩) l.length c l rfl rfl (HY.out.keep q3) hA hsz ?_; intro v4 w4 ho4 hb4 _; have ho4' : Own w4 w1.heap.size v4 D := (by rw [← HD.out]; exact ho4); clear ho4; obtain ⟨A4, c4, rfl, hy4, hA4, hc4, hm4⟩ := ho4'.form; have p4 := p1.below hb4 hlt; have hlt4 := lt_of_block p4; have q4 := q1.trans (hb4.mono q1.size); clear ho4') | (go_at_call 16; refine (HT.out _ _ _ hy4 hA4 hc4 hm4).mono ?_; rintro e w5 ⟨rfl, b5⟩; have q5 := q4.trans (b5.mono q4.size); have p5 := p4.below b5 hlt4; have hlt5 := lt_of_block p5; have x5 : Below w5.heap.size w5 (w5.alloc (Obj.cells #[Value.int IntKind.i64 k, Value.int IntKind.i64 n, Value.string t] 23)) := (Below.refl _ _).alloc (Nat.le_refl _) _; have q6 := q5.trans (x5.mono q5.size); have g5 := Blk.born w5 23 [.int .i64 k, .int .i64 n, .string t]; have p6 := p5.below x5 hlt5; clear HT) | (go_at_call 20; refine (HX.out _ q6).mono ?_; rintro e w6 ⟨rfl, b6⟩; have q7 := q6.trans (b6.mono q6.size); have hlt6 := lt_of_block p6; have p7 := p6.below b6 hlt6; have g6 := g5.below b6 (lt_of_block g5); have x6 : Below w6.heap.size w6 (w6.alloc (Obj.cells #[Value.int IntKind.i64 k, Value.int IntKind.i64 n, Value.string t] 23)) := (Below.refl _ _).alloc (Nat.le_refl _) _; have q8 := q7.trans (x6.mono q7.size); have p8 := p7.below x6 (lt_of_block p7); have g8 := g6.below x6 (lt_of_block g6); have f8 := Blk.born w6 23 [.int .i64 k, .int .i64 n, .string t]; have c0 : (w6.alloc (Obj.cells #[Value.int IntKind.i64 k, Value.int IntKind.i64 n, Value.string t] 23)).cell? ⟨w.heap.size, 0, none⟩ = some (.int .i64 k) := (p8).at_ 0; have c1 : (w6.alloc (Obj.cells #[Value.int IntKind.i64 k, Value.int IntKind.i64 n, Value.string t] 23)).cell? ⟨w.heap.size, 1, none⟩ = some (.int .i64 n) := (p8).at_ 1; have c2 : (w6.alloc (Obj.cells #[Value.int IntKind.i64 k, Value.int IntKind.i64 n, Value.string t] 23)).cell? ⟨w.heap.size, 2, none⟩ = some (.string t) := (p8).at_ 2; have d0 : (w6.alloc (Obj.cells #[Value.int IntKind.i64 k, Value.int IntKind.i64 n, Value.string t] 23)).cell? ⟨w5.heap.size, 0, none⟩ = some (.int .i64 k) := (g8).at_ 0; have d1 : (w6.alloc (Obj.cells #[Value.int IntKind.i64 k, Value.int IntKind.i64 n, Value.string t] 23)).cell? ⟨w5.heap.size, 1, none⟩ = some (.int .i64 n) := (g8).at_ 1; have d2 : (w6.alloc (Obj.cells #[Value.int IntKind.i64 k, Value.int IntKind.i64 n, Value.string t] 23)).cell? ⟨w5.heap.size, 2, none⟩ = some (.string t) := (g8).at_ 2; have e0 : (w6.alloc (Obj.cells #[Value.int IntKind.i64 k, Value.int IntKind.i64 n, Value.string t] 23)).cell? ⟨w6.heap.size, 0, none⟩ = some (.int .i64 k) := (f8).at_ 0; have e1 : (w6.alloc (Obj.cells #[Value.int IntKind.i64 k, Value.int IntKind.i64 n, Value.string t] 23)).cell? ⟨w6.heap.size, 1, none⟩ = some (.int .i64 n) := (f8).at_ 1; have e2 : (w6.alloc (Obj.cells #[Value.int IntKind.i64 k, Value.int IntKind.i64 n, Value.string t] 23)).cell? ⟨w6.heap.size, 2, none⟩ = some (.string t) := (f8).at_ 2; clear HX) | (go_at_call 16; refine (HV.out _ q8).mono ?_; rintro e w7 ⟨rfl, b7⟩; have q9 := q8.trans (b7.mono q8.size); have x7 : Below w7.heap.size w7 (w7.alloc (Obj.cells #[Value.int IntKind.i64 k2, Value.int IntKind.i64 n2, Value.string t2] 23)) := (Below.refl _ _).alloc (Nat.le_refl _) _; have q10 := q9.trans (x7.mono q9.size); have g7 := Blk.born w7 23 [.int .i64 k2, .int .i64 n2, .string t2]; have i0 : (w7.alloc (Obj.cells #[Value.int IntKind.i64 k2, Value.int IntKind.i64 n2, Value.string t2] 23)).cell? ⟨w7.heap.size, 0, none⟩ = some (.int .i64 k2) := (g7).at_ 0; have i1 : (w7.alloc (Obj.cells #[Value.int IntKind.i64 k2, Value.int IntKind.i64 n2, Value.string t2] 23)).cell? ⟨w7.heap.size, 1, none⟩ = some (.int .i64 n2) := (g7).at_ 1; have i2 : (w7.alloc (Obj.cells #[Value.int IntKind.i64 k2, Value.int IntKind.i64 n2, Value.string t2] 23)).cell? ⟨w7.heap.size, 2, none⟩ = some (.string t2) := (g7).at_ 2; clear HV) | (go_at_call 14; refine (HM.out _).mono ?_; rintro e w8 ⟨vy, rfl, owny, b8⟩; obtain ⟨Ay, cy, rfl, byy, _, _, _⟩ := owny.form; have q11 := q10.trans (b8.mono q10.size); clear HM))
  have y1 : ∀ k, (convert 28 9 (.slice Ay M.length cy)).run Tryd.prog (w8.drewN k) = .ok (.string (str M)) (w8.drewN k) := fun k => conv (w := w8.drewN k) (byy.keep (Below.drewN' (Below.refl _ _) k)) cy
  have y2 : ∀ k, (convert 28 9 (.slice (some ⟨b0, o0, none⟩) P c)).run Tryd.prog (w8.drewN k) = .ok (.string (str M)) (w8.drewN k) := fun k => by
    have := conv (w := w8.drewN k) (HP.out.keep (Below.drewN' q11 k)) c
    rwa [HPl.out] at this
  have y10 := y1 0
  have y20 := y2 0
  go_quiet (fail)
  go_wp2_with (first | (go_at_call 20; refine (HB.out _ (Below.drewN' q11 _)).mono ?_; rintro e w9 ⟨rfl, b9⟩; have q12 := (Below.drewN' q11 _).trans (b9.mono (Below.drewN' q11 _).size); have x9 : Below w9.heap.size w9 (w9.alloc (Obj.cells #[Value.int IntKind.i64 k3, Value.int IntKind.i64 n3, Value.string t3] 23)) := (Below.refl _ _).alloc (Nat.le_refl _) _; have q13 := q12.trans (x9.mono q12.size); have g9 := Blk.born w9 23 [.int .i64 k3, .int .i64 n3, .string t3]; have j0 : (w9.alloc (Obj.cells #[Value.int IntKind.i64 k3, Value.int IntKind.i64 n3, Value.string t3] 23)).cell? ⟨w9.heap.size, 0, none⟩ = some (.int .i64 k3) := (g9).at_ 0; have j1 : (w9.alloc (Obj.cells #[Value.int IntKind.i64 k3, Value.int IntKind.i64 n3, Value.string t3] 23)).cell? ⟨w9.heap.size, 1, none⟩ = some (.int .i64 n3) := (g9).at_ 1; have j2 : (w9.alloc (Obj.cells #[Value.int IntKind.i64 k3, Value.int IntKind.i64 n3, Value.string t3] 23)).cell? ⟨w9.heap.size, 2, none⟩ = some (.string t3) := (g9).at_ 2; clear HB) | (go_at_call 18; refine (HW.out _ q13).mono ?_; rintro e w10 ⟨rfl, b10⟩; have q14 := q13.trans (b10.mono q13.size); clear HW))
  go_ret
  exact ⟨rfl, q14⟩
end Go.Proofs.YtlflhigphfnhoaaDoor
