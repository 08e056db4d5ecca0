/- The walk of stackyardlaw01.PackBack (6). -/
import Derived.Test.YtcnnijhfliahgaaDoorPbV
namespace Go.Proofs.YtcnnijhfliahgaaDoor
open Go.RowKit
set_option linter.unusedVariables false

set_option maxRecDepth 100000 in
set_option maxHeartbeats 4000000 in
theorem pback_gg (w n : Int) (A0 B0 : Option Addr) (ca cb : Nat) (l : List W64) (b : List UInt8) (W : World) (hT : TabAt W) (hl : Num W A0 l) (hb : Byt W B0 b) (hn : l.length ≤ 4611686018427387904) (e1 : pkE w l = 0) (e2 : unE n w b = 0) :
    Calls Tryd.prog 6 #[.int .i64 w, .slice A0 l.length ca, .slice B0 b.length cb, .int .i64 n] W fun e W' => e = .returned (.bool true) ∧ Below W.heap.size W W' := by
  have HSH := Lib.hid (shown1_any W hT)
  have HT : Hid (∀ W', Below W.heap.size W W' → TabAt W') := fun W' h => hT.keep h
  have HL : Hid (∀ W', Below W.heap.size W W' → Num W' A0 l) := fun W' h => hl.keep h
  have HBY : Hid (∀ W', Below W.heap.size W W' → Byt W' B0 b) := fun W' h => hb.keep h
  have hp1 := fun W' h => pk_all w A0 ca l W' (HL.out W' h) hn (HT.out W' h)
  have hu2 := fun W' h => (un_all n w B0 cb b W' (HBY.out W' h) (HT.out W' h)).1
  obtain ⟨g1, g2⟩ := back1 e1
  have hu1 := fun (W' : World) (A : Option Addr) (c : Nat) (hy : Byt W' A (pkB w l)) (h : Below W.heap.size W W') => (un_all (l.length : Int) w A c (pkB w l) W' hy (HT.out W' h)).1
  rw [g1, g2] at hu1
  have hs := fun (W' : World) (A1 A2 : Option Addr) (c1 c2 : Nat) (h1 : Num W' A1 l) (h2 : Num W' A2 l) => same_any A1 A2 c1 c2 l l W' h1 h2 hn hn
  rw [decide_eq_true (show l = l from rfl)] at hs
  rw [e1] at hp1
  generalize pkB w l = x at hp1 hu1
  have HP1 := Lib.hid hp1
  have HU1 := Lib.hid hu1
  have HS := Lib.hid hs
  clear hp1 hu1 hs g1 g2 e1
  obtain ⟨g3, g4, g5⟩ := back2 e2
  have hl2 := unV_len (n := n) (w := w) (b := b)
  have hp2 := fun (W' : World) (A : Option Addr) (c : Nat) (hy : Num W' A (unV n w b)) (h : Below W.heap.size W W') => pk_all w A c (unV n w b) W' hy (by omega) (HT.out W' h)
  rw [g4, g5] at hp2
  rw [e2] at hu2
  generalize unV n w b = m at hp2 hu2 g3 hl2
  have HG3 := Lib.hid g3
  have HP2 := Lib.hid hp2
  have HU2 := Lib.hid hu2
  clear hp2 hu2 g4 g5 e2
  clear hT hl hb
  go_enter Tryd.func6, Tryd.ntmps6
  go_wp2_with (first | (go_at_call 13; refine HSH.out.mono ?_; rintro e w1 ⟨rfl, hb1⟩; have HB1 := Lib.hid hb1; clear hb1 HSH) | (go_at_call 18; refine (HP1.out w1 HB1.out).mono ?_; rintro e w2 ⟨A1, c1, rfl, hy1, _, _, _, hb2⟩; have HB2 := Lib.hid (HB1.out.trans (hb2.mono HB1.out.size)); have HY1 := Lib.hid hy1; clear hb2 hy1 HP1) | (go_at_call 20; refine (HU1.out w2 A1 c1 HY1.out HB2.out).mono ?_; rintro e w3 ⟨A2, c2, rfl, hy2, hb3⟩; have HB3 := Lib.hid (HB2.out.trans (hb3.mono HB2.out.size)); have HY2 := Lib.hid hy2; clear hb3 hy2 HU1) | (go_at_call 22; refine (HS.out w3 A2 A0 c2 ca HY2.out (HL.out w3 HB3.out)).mono ?_; rintro e w4 ⟨rfl, hb4⟩; have HB4 := Lib.hid (HB3.out.trans (hb4.mono HB3.out.size)); clear hb4 HS) | (go_at_call 20; refine (HU2.out w4 HB4.out).mono ?_; rintro e w5 ⟨A3, c3, rfl, hy3, hb5⟩; have HB5 := Lib.hid (HB4.out.trans (hb5.mono HB4.out.size)); have HY3 := Lib.hid hy3; clear hb5 hy3 HU2) | (go_at_call 18; refine (HP2.out w5 A3 c3 HY3.out HB5.out).mono ?_; rintro e w6 ⟨A4, c4, rfl, hy4, _, _, _, hb6⟩; have HB6 := Lib.hid (HB5.out.trans (hb6.mono HB5.out.size)); have hcv1 := conv hy4 c4; have hcv2 := conv (HBY.out w6 HB6.out) cb; have hg3 := HG3.out; clear hb6 hy4 HP2))
  all_goals first | (exfalso; omega) | skip
  go_ret
  exact ⟨rfl, HB6.out⟩
set_option maxRecDepth 100000 in
set_option maxHeartbeats 4000000 in
theorem pback_gb (w n : Int) (A0 B0 : Option Addr) (ca cb : Nat) (l : List W64) (b : List UInt8) (W : World) (hT : TabAt W) (hl : Num W A0 l) (hb : Byt W B0 b) (hn : l.length ≤ 4611686018427387904) (e1 : pkE w l = 0) (e2 : ¬ unE n w b = 0) :
    Calls Tryd.prog 6 #[.int .i64 w, .slice A0 l.length ca, .slice B0 b.length cb, .int .i64 n] W fun e W' => e = .returned (.bool true) ∧ Below W.heap.size W W' := by
  have HSH := Lib.hid (shown1_any W hT)
  have HT : Hid (∀ W', Below W.heap.size W W' → TabAt W') := fun W' h => hT.keep h
  have HL : Hid (∀ W', Below W.heap.size W W' → Num W' A0 l) := fun W' h => hl.keep h
  have HBY : Hid (∀ W', Below W.heap.size W W' → Byt W' B0 b) := fun W' h => hb.keep h
  have hp1 := fun W' h => pk_all w A0 ca l W' (HL.out W' h) hn (HT.out W' h)
  have hu2 := fun W' h => (un_all n w B0 cb b W' (HBY.out W' h) (HT.out W' h)).1
  obtain ⟨g1, g2⟩ := back1 e1
  have hu1 := fun (W' : World) (A : Option Addr) (c : Nat) (hy : Byt W' A (pkB w l)) (h : Below W.heap.size W W') => (un_all (l.length : Int) w A c (pkB w l) W' hy (HT.out W' h)).1
  rw [g1, g2] at hu1
  have hs := fun (W' : World) (A1 A2 : Option Addr) (c1 c2 : Nat) (h1 : Num W' A1 l) (h2 : Num W' A2 l) => same_any A1 A2 c1 c2 l l W' h1 h2 hn hn
  rw [decide_eq_true (show l = l from rfl)] at hs
  rw [e1] at hp1
  generalize pkB w l = x at hp1 hu1
  have HP1 := Lib.hid hp1
  have HU1 := Lib.hid hu1
  have HS := Lib.hid hs
  clear hp1 hu1 hs g1 g2 e1
  rw [unV_bad e2] at hu2
  have e2i : ¬ unE n w b = 0 := e2
  have e2b : (unE n w b == 0) = false := by rw [beq_eq_false_iff_ne]; exact e2i
  generalize unE n w b = er2 at hu2 e2i e2b
  have HU2 := Lib.hid hu2
  clear hu2 e2
  clear hT hl hb
  go_enter Tryd.func6, Tryd.ntmps6
  go_wp2_with (first | (go_at_call 13; refine HSH.out.mono ?_; rintro e w1 ⟨rfl, hb1⟩; have HB1 := Lib.hid hb1; clear hb1 HSH) | (go_at_call 18; refine (HP1.out w1 HB1.out).mono ?_; rintro e w2 ⟨A1, c1, rfl, hy1, _, _, _, hb2⟩; have HB2 := Lib.hid (HB1.out.trans (hb2.mono HB1.out.size)); have HY1 := Lib.hid hy1; clear hb2 hy1 HP1) | (go_at_call 20; refine (HU1.out w2 A1 c1 HY1.out HB2.out).mono ?_; rintro e w3 ⟨A2, c2, rfl, hy2, hb3⟩; have HB3 := Lib.hid (HB2.out.trans (hb3.mono HB2.out.size)); have HY2 := Lib.hid hy2; clear hb3 hy2 HU1) | (go_at_call 22; refine (HS.out w3 A2 A0 c2 ca HY2.out (HL.out w3 HB3.out)).mono ?_; rintro e w4 ⟨rfl, hb4⟩; have HB4 := Lib.hid (HB3.out.trans (hb4.mono HB3.out.size)); clear hb4 HS) | (go_at_call 20; refine (HU2.out w4 HB4.out).mono ?_; rintro e w5 ⟨A3, c3, rfl, hy3, hb5⟩; have HB5 := Lib.hid (HB4.out.trans (hb5.mono HB4.out.size)); have HY3 := Lib.hid hy3; clear hb5 hy3 HU2))
  all_goals first | (exfalso; omega) | skip
  go_ret
  exact ⟨rfl, HB5.out⟩
set_option maxRecDepth 100000 in
set_option maxHeartbeats 4000000 in
theorem pback_bg (w n : Int) (A0 B0 : Option Addr) (ca cb : Nat) (l : List W64) (b : List UInt8) (W : World) (hT : TabAt W) (hl : Num W A0 l) (hb : Byt W B0 b) (hn : l.length ≤ 4611686018427387904) (e1 : ¬ pkE w l = 0) (e2 : unE n w b = 0) :
    Calls Tryd.prog 6 #[.int .i64 w, .slice A0 l.length ca, .slice B0 b.length cb, .int .i64 n] W fun e W' => e = .returned (.bool true) ∧ Below W.heap.size W W' := by
  have HSH := Lib.hid (shown1_any W hT)
  have HT : Hid (∀ W', Below W.heap.size W W' → TabAt W') := fun W' h => hT.keep h
  have HL : Hid (∀ W', Below W.heap.size W W' → Num W' A0 l) := fun W' h => hl.keep h
  have HBY : Hid (∀ W', Below W.heap.size W W' → Byt W' B0 b) := fun W' h => hb.keep h
  have hp1 := fun W' h => pk_all w A0 ca l W' (HL.out W' h) hn (HT.out W' h)
  have hu2 := fun W' h => (un_all n w B0 cb b W' (HBY.out W' h) (HT.out W' h)).1
  generalize pkB w l = x at hp1
  have e1i : ¬ pkE w l = 0 := e1
  have e1b : (pkE w l == 0) = false := by rw [beq_eq_false_iff_ne]; exact e1i
  generalize pkE w l = er1 at hp1 e1i e1b
  have HP1 := Lib.hid hp1
  clear hp1 e1
  obtain ⟨g3, g4, g5⟩ := back2 e2
  have hl2 := unV_len (n := n) (w := w) (b := b)
  have hp2 := fun (W' : World) (A : Option Addr) (c : Nat) (hy : Num W' A (unV n w b)) (h : Below W.heap.size W W') => pk_all w A c (unV n w b) W' hy (by omega) (HT.out W' h)
  rw [g4, g5] at hp2
  rw [e2] at hu2
  generalize unV n w b = m at hp2 hu2 g3 hl2
  have HG3 := Lib.hid g3
  have HP2 := Lib.hid hp2
  have HU2 := Lib.hid hu2
  clear hp2 hu2 g4 g5 e2
  clear hT hl hb
  go_enter Tryd.func6, Tryd.ntmps6
  go_wp2_with (first | (go_at_call 13; refine HSH.out.mono ?_; rintro e w1 ⟨rfl, hb1⟩; have HB1 := Lib.hid hb1; clear hb1 HSH) | (go_at_call 18; refine (HP1.out w1 HB1.out).mono ?_; rintro e w2 ⟨A1, c1, rfl, hy1, _, _, _, hb2⟩; have HB2 := Lib.hid (HB1.out.trans (hb2.mono HB1.out.size)); have HY1 := Lib.hid hy1; clear hb2 hy1 HP1) | (go_at_call 20; refine (HU2.out w2 HB2.out).mono ?_; rintro e w5 ⟨A3, c3, rfl, hy3, hb5⟩; have HB5 := Lib.hid (HB2.out.trans (hb5.mono HB2.out.size)); have HY3 := Lib.hid hy3; clear hb5 hy3 HU2) | (go_at_call 18; refine (HP2.out w5 A3 c3 HY3.out HB5.out).mono ?_; rintro e w6 ⟨A4, c4, rfl, hy4, _, _, _, hb6⟩; have HB6 := Lib.hid (HB5.out.trans (hb6.mono HB5.out.size)); have hcv1 := conv hy4 c4; have hcv2 := conv (HBY.out w6 HB6.out) cb; have hg3 := HG3.out; clear hb6 hy4 HP2))
  all_goals first | (exfalso; omega) | skip
  go_ret
  exact ⟨rfl, HB6.out⟩
set_option maxRecDepth 100000 in
set_option maxHeartbeats 4000000 in
theorem pback_bb (w n : Int) (A0 B0 : Option Addr) (ca cb : Nat) (l : List W64) (b : List UInt8) (W : World) (hT : TabAt W) (hl : Num W A0 l) (hb : Byt W B0 b) (hn : l.length ≤ 4611686018427387904) (e1 : ¬ pkE w l = 0) (e2 : ¬ unE n w b = 0) :
    Calls Tryd.prog 6 #[.int .i64 w, .slice A0 l.length ca, .slice B0 b.length cb, .int .i64 n] W fun e W' => e = .returned (.bool true) ∧ Below W.heap.size W W' := by
  have HSH := Lib.hid (shown1_any W hT)
  have HT : Hid (∀ W', Below W.heap.size W W' → TabAt W') := fun W' h => hT.keep h
  have HL : Hid (∀ W', Below W.heap.size W W' → Num W' A0 l) := fun W' h => hl.keep h
  have HBY : Hid (∀ W', Below W.heap.size W W' → Byt W' B0 b) := fun W' h => hb.keep h
  have hp1 := fun W' h => pk_all w A0 ca l W' (HL.out W' h) hn (HT.out W' h)
  have hu2 := fun W' h => (un_all n w B0 cb b W' (HBY.out W' h) (HT.out W' h)).1
  generalize pkB w l = x at hp1
  have e1i : ¬ pkE w l = 0 := e1
  have e1b : (pkE w l == 0) = false := by rw [beq_eq_false_iff_ne]; exact e1i
  generalize pkE w l = er1 at hp1 e1i e1b
  have HP1 := Lib.hid hp1
  clear hp1 e1
  rw [unV_bad e2] at hu2
  have e2i : ¬ unE n w b = 0 := e2
  have e2b : (unE n w b == 0) = false := by rw [beq_eq_false_iff_ne]; exact e2i
  generalize unE n w b = er2 at hu2 e2i e2b
  have HU2 := Lib.hid hu2
  clear hu2 e2
  clear hT hl hb
  go_enter Tryd.func6, Tryd.ntmps6
  go_wp2_with (first | (go_at_call 13; refine HSH.out.mono ?_; rintro e w1 ⟨rfl, hb1⟩; have HB1 := Lib.hid hb1; clear hb1 HSH) | (go_at_call 18; refine (HP1.out w1 HB1.out).mono ?_; rintro e w2 ⟨A1, c1, rfl, hy1, _, _, _, hb2⟩; have HB2 := Lib.hid (HB1.out.trans (hb2.mono HB1.out.size)); have HY1 := Lib.hid hy1; clear hb2 hy1 HP1) | (go_at_call 20; refine (HU2.out w2 HB2.out).mono ?_; rintro e w5 ⟨A3, c3, rfl, hy3, hb5⟩; have HB5 := Lib.hid (HB2.out.trans (hb5.mono HB2.out.size)); have HY3 := Lib.hid hy3; clear hb5 hy3 HU2))
  all_goals first | (exfalso; omega) | skip
  go_ret
  exact ⟨rfl, HB5.out⟩
theorem pback_walk (w n : Int) (A0 B0 : Option Addr) (ca cb : Nat) (l : List W64) (b : List UInt8) (W : World) (hT : TabAt W) (hl : Num W A0 l) (hb : Byt W B0 b) (hn : l.length ≤ 4611686018427387904) :
    Calls Tryd.prog 6 #[.int .i64 w, .slice A0 l.length ca, .slice B0 b.length cb, .int .i64 n] W fun e W' => e = .returned (.bool true) ∧ Below W.heap.size W W' := by
  by_cases e1 : pkE w l = 0
  · by_cases e2 : unE n w b = 0
    · exact pback_gg w n A0 B0 ca cb l b W hT hl hb hn e1 e2
    · exact pback_gb w n A0 B0 ca cb l b W hT hl hb hn e1 e2
  · by_cases e2 : unE n w b = 0
    · exact pback_bg w n A0 B0 ca cb l b W hT hl hb hn e1 e2
    · exact pback_bb w n A0 B0 ca cb l b W hT hl hb hn e1 e2
end Go.Proofs.YtcnnijhfliahgaaDoor
