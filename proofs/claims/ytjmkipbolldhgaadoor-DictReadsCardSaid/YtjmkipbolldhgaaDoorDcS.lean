/- Best, on both sides; the walk of stackyardlaw07.DictWords. -/
import Derived.Test.YtjmkipbolldhgaaDoorDcR
namespace Go.Proofs.YtjmkipbolldhgaaDoor
open Go.RowKit
set_option linter.unusedVariables false

/-- The form that takes fewer bytes. -/
def bestT (l : List Tx) : Int := if (encT 1 l).length < (encT 0 l).length then 1 else 0

set_option maxHeartbeats 2000000 in
theorem tbest_no (A : Option Addr) (cap : Nat) (l : List Tx) (W : World) (hl : Strs W A l) (hn : l.length ≤ 9223372036854775807) (hs : ∀ x ∈ l, x.length ≤ 9223372036854775807) (hr : ¬ rightT l) :
    Calls Tryd.prog 10 #[.slice A l.length cap] W fun e W' => e = .returned (.tuple #[.int .i64 0, .int .i64 2]) ∧ Below W.heap.size W W' := by
  have HE := Lib.hid (fun (f : Int) (w1 : World) (h : Below W.heap.size W w1) => tenc_bad f A cap l w1 (hl.keep h) hn hs (.inr hr))
  have HREF : Hid (Below W.heap.size W W) := Below.refl _ _
  generalize l.length = n at *
  have tok1 : True := trivial
  clear hl hs hr
  go_enter Tryd.func10, Tryd.ntmps10
  go_wp2_with (first | (go_at_call 8; have _t := tok1; clear tok1; refine (HE.out 0 _ HREF.out).mono ?_; rintro e w1 ⟨rfl, hb⟩; have HB := Lib.hid hb; clear hb) | (go_at_call 8; refine (HE.out 1 _ HB.out).mono ?_; rintro e w2 ⟨rfl, hb2⟩; have HB2 := Lib.hid (HB.out.trans (hb2.mono HB.out.size)); clear hb2))
  go_ret2
  exact ⟨rfl, by first | exact HB2.out | exact HB.out⟩
set_option maxHeartbeats 2000000 in
theorem tbest_yes (A : Option Addr) (cap : Nat) (l : List Tx) (W : World) (hl : Strs W A l) (hr : rightT l) (hT : TabAt W) :
    Calls Tryd.prog 10 #[.slice A l.length cap] W fun e W' => e = .returned (.tuple #[.int .i64 (bestT l), .int .i64 0]) ∧ Below W.heap.size W W' := by
  have HE0 := Lib.hid (fun (w1 : World) (h : Below W.heap.size W w1) => tenc0_any A cap l w1 (hl.keep h) hr)
  have HE1 := Lib.hid (fun (w1 : World) (h : Below W.heap.size W w1) => tenc1_any A cap l w1 (hl.keep h) hr (hT.keep h))
  have HREF : Hid (Below W.heap.size W W) := Below.refl _ _
  unfold LaidT at HE0 HE1
  unfold bestT
  have k0 := encT_len (f := 0) hr
  have k1 := encT_len (f := 1) hr
  generalize encT 0 l = e0 at *
  generalize encT 1 l = e1 at *
  obtain ⟨n0, hn0⟩ : ∃ n, e0.length = n := ⟨_, rfl⟩
  obtain ⟨n1, hn1⟩ : ∃ n, e1.length = n := ⟨_, rfl⟩
  rw [hn0] at k0 ⊢
  rw [hn1] at k1 ⊢
  have HN0 := Lib.hid hn0
  have HN1 := Lib.hid hn1
  generalize l.length = n at *
  have tok1 : True := trivial
  clear hl hr hT hn0 hn1
  obtain ⟨bv, hbv⟩ : ∃ bv : Int, (if n1 < n0 then (1 : Int) else 0) = bv := ⟨_, rfl⟩
  rw [hbv]
  have hb1 : n1 < n0 → bv = 1 ∧ (n1 : Int) < (n0 : Int) := fun h => ⟨by rw [← hbv, if_pos h], by omega⟩
  have hb0 : ¬ n1 < n0 → bv = 0 ∧ ¬ (n1 : Int) < (n0 : Int) := fun h => ⟨by rw [← hbv, if_neg h], by omega⟩
  clear hbv
  by_cases hlt : n1 < n0
  all_goals
    first | (have hq := hb1 hlt) | (have hq := hb0 hlt)
    clear hb1 hb0
    obtain ⟨rfl, hli⟩ := hq
    go_enter Tryd.func10, Tryd.ntmps10
    go_wp2_with (first | (go_at_call 8; have _t := tok1; clear tok1; refine (HE0.out _ HREF.out).mono ?_; rintro e w1 ⟨v1, rfl, ho, hb⟩; obtain ⟨A1, c1, rfl, _, _, _, _⟩ := ho.form; rw [HN0.out]; have HB := Lib.hid hb; clear hb ho) | (go_at_call 8; refine (HE1.out _ HB.out).mono ?_; rintro e w2 ⟨v2, rfl, ho, hb2⟩; obtain ⟨A2, c2, rfl, _, _, _, _⟩ := ho.form; rw [HN1.out]; have HB2 := Lib.hid (HB.out.trans (hb2.mono HB.out.size)); clear hb2 ho))
    go_ret2
    exact ⟨rfl, HB2.out⟩

set_option maxHeartbeats 2000000 in
theorem rbest_no (A : Option Addr) (cap : Nat) (l : List Tx) (W : World) (hl : Strs W A l) (hn : l.length ≤ 9223372036854775807) (hs : ∀ x ∈ l, x.length ≤ 9223372036854775807) (hr : ¬ rightT l) :
    Calls Tryd.prog 11 #[.slice A l.length cap] W fun e W' => e = .returned (.tuple #[.int .i64 0, .int .i64 2]) ∧ Below W.heap.size W W' := by
  have HE := Lib.hid (fun (f : Int) (w1 : World) (h : Below W.heap.size W w1) => renc_bad f A cap l w1 (hl.keep h) hn hs (.inr hr))
  have HREF : Hid (Below W.heap.size W W) := Below.refl _ _
  generalize l.length = n at *
  have tok1 : True := trivial
  clear hl hs hr
  go_enter Tryd.func11, Tryd.ntmps11
  go_wp2_with (first | (go_at_call 9; have _t := tok1; clear tok1; refine (HE.out 0 _ HREF.out).mono ?_; rintro e w1 ⟨rfl, hb⟩; have HB := Lib.hid hb; clear hb) | (go_at_call 9; refine (HE.out 1 _ HB.out).mono ?_; rintro e w2 ⟨rfl, hb2⟩; have HB2 := Lib.hid (HB.out.trans (hb2.mono HB.out.size)); clear hb2))
  go_ret2
  exact ⟨rfl, by first | exact HB2.out | exact HB.out⟩
set_option maxHeartbeats 2000000 in
theorem rbest_yes (A : Option Addr) (cap : Nat) (l : List Tx) (W : World) (hl : Strs W A l) (hr : rightT l) (hT : TabAt W) :
    Calls Tryd.prog 11 #[.slice A l.length cap] W fun e W' => e = .returned (.tuple #[.int .i64 (bestT l), .int .i64 0]) ∧ Below W.heap.size W W' := by
  have HE0 := Lib.hid (fun (w1 : World) (h : Below W.heap.size W w1) => renc0_any A cap l w1 (hl.keep h) hr)
  have HE1 := Lib.hid (fun (w1 : World) (h : Below W.heap.size W w1) => renc1_any A cap l w1 (hl.keep h) hr)
  have HREF : Hid (Below W.heap.size W W) := Below.refl _ _
  unfold LaidT at HE0 HE1
  unfold bestT
  have k0 := encT_len (f := 0) hr
  have k1 := encT_len (f := 1) hr
  generalize encT 0 l = e0 at *
  generalize encT 1 l = e1 at *
  obtain ⟨n0, hn0⟩ : ∃ n, e0.length = n := ⟨_, rfl⟩
  obtain ⟨n1, hn1⟩ : ∃ n, e1.length = n := ⟨_, rfl⟩
  rw [hn0] at k0 ⊢
  rw [hn1] at k1 ⊢
  have HN0 := Lib.hid hn0
  have HN1 := Lib.hid hn1
  generalize l.length = n at *
  have tok1 : True := trivial
  clear hl hr hT hn0 hn1
  obtain ⟨bv, hbv⟩ : ∃ bv : Int, (if n1 < n0 then (1 : Int) else 0) = bv := ⟨_, rfl⟩
  rw [hbv]
  have hb1 : n1 < n0 → bv = 1 ∧ (n1 : Int) < (n0 : Int) := fun h => ⟨by rw [← hbv, if_pos h], by omega⟩
  have hb0 : ¬ n1 < n0 → bv = 0 ∧ ¬ (n1 : Int) < (n0 : Int) := fun h => ⟨by rw [← hbv, if_neg h], by omega⟩
  clear hbv
  by_cases hlt : n1 < n0
  all_goals
    first | (have hq := hb1 hlt) | (have hq := hb0 hlt)
    clear hb1 hb0
    obtain ⟨rfl, hli⟩ := hq
    go_enter Tryd.func11, Tryd.ntmps11
    go_wp2_with (first | (go_at_call 9; have _t := tok1; clear tok1; refine (HE0.out _ HREF.out).mono ?_; rintro e w1 ⟨v1, rfl, ho, hb⟩; obtain ⟨A1, c1, rfl, _, _, _, _⟩ := ho.form; rw [HN0.out]; have HB := Lib.hid hb; clear hb ho) | (go_at_call 9; refine (HE1.out _ HB.out).mono ?_; rintro e w2 ⟨v2, rfl, ho, hb2⟩; obtain ⟨A2, c2, rfl, _, _, _, _⟩ := ho.form; rw [HN1.out]; have HB2 := Lib.hid (HB.out.trans (hb2.mono HB.out.size)); clear hb2 ho))
    go_ret2
    exact ⟨rfl, HB2.out⟩

/-- What encoding hands back: bytes, and whether. -/
def EncRT (W : World) (bs : List UInt8) (er : Int) (e : Ending) (W' : World) : Prop :=
  ∃ A' c', e = .returned (.tuple #[.slice A' bs.length c', .int .i64 er]) ∧ Byt W' A' bs ∧ Below W.heap.size W W'
theorem LaidT.enc {W : World} {bs : List UInt8} {e : Ending} {W' : World} (h : LaidT W bs e W') : EncRT W bs 0 e W' := by
  obtain ⟨v, rfl, ho, hb⟩ := h
  obtain ⟨A, c, rfl, hy, _, _, _⟩ := ho.form
  exact ⟨A, c, rfl, hy, hb⟩
theorem encs7_any (f : Int) (A : Option Addr) (cap : Nat) (l : List Tx) (W0 : World) (hl : Strs W0 A l) (hn : l.length ≤ 9223372036854775807) (hs : ∀ x ∈ l, x.length ≤ 9223372036854775807) (hT : TabAt W0) :
    ∃ bs er, (∀ W : World, Below W0.heap.size W0 W → Calls Tryd.prog 8 #[.int .i64 f, .slice A l.length cap] W (EncRT W bs er)) ∧ (∀ W : World, Below W0.heap.size W0 W → Calls Tryd.prog 9 #[.int .i64 f, .slice A l.length cap] W (EncRT W bs er)) := by
  by_cases hok : (¬ f = 0 ∧ ¬ f = 1) ∨ ¬ rightT l
  · refine ⟨[], 2, fun W hb => ?_, fun W hb => ?_⟩
    · refine (tenc_bad f A cap l W (hl.keep hb) hn hs hok).mono ?_
      rintro e W' ⟨rfl, h⟩
      exact ⟨_, _, rfl, Byt.empty _ _, h⟩
    · refine (renc_bad f A cap l W (hl.keep hb) hn hs hok).mono ?_
      rintro e W' ⟨rfl, h⟩
      exact ⟨_, _, rfl, Byt.empty _ _, h⟩
  · have hr : rightT l := Classical.byContradiction fun h => hok (.inr h)
    by_cases h0 : f = 0
    · subst h0
      exact ⟨encT 0 l, 0, fun W hb => (tenc0_any A cap l W (hl.keep hb) hr).mono fun e W' h => h.enc, fun W hb => (renc0_any A cap l W (hl.keep hb) hr).mono fun e W' h => h.enc⟩
    · obtain rfl : f = 1 := Classical.byContradiction fun h1 => hok (.inl ⟨h0, h1⟩)
      exact ⟨encT 1 l, 0, fun W hb => (tenc1_any A cap l W (hl.keep hb) hr (hT.keep hb)).mono fun e W' h => h.enc, fun W hb => (renc1_any A cap l W (hl.keep hb) hr).mono fun e W' h => h.enc⟩
theorem bests7_any (A : Option Addr) (cap : Nat) (l : List Tx) (W0 : World) (hl : Strs W0 A l) (hn : l.length ≤ 9223372036854775807) (hs : ∀ x ∈ l, x.length ≤ 9223372036854775807) (hT : TabAt W0) :
    ∃ bs er : Int, (∀ W : World, Below W0.heap.size W0 W → Calls Tryd.prog 10 #[.slice A l.length cap] W fun e W' => e = .returned (.tuple #[.int .i64 bs, .int .i64 er]) ∧ Below W.heap.size W W') ∧ (∀ W : World, Below W0.heap.size W0 W → Calls Tryd.prog 11 #[.slice A l.length cap] W fun e W' => e = .returned (.tuple #[.int .i64 bs, .int .i64 er]) ∧ Below W.heap.size W W') := by
  by_cases hr : rightT l
  · exact ⟨bestT l, 0, fun W hb => tbest_yes A cap l W (hl.keep hb) hr (hT.keep hb), fun W hb => rbest_yes A cap l W (hl.keep hb) hr (hT.keep hb)⟩
  · exact ⟨0, 2, fun W hb => tbest_no A cap l W (hl.keep hb) hn hs hr, fun W hb => rbest_no A cap l W (hl.keep hb) hn hs hr⟩

set_option maxRecDepth 100000 in
set_option maxHeartbeats 4000000 in
theorem dwords_any (f : Int) (A : Option Addr) (cap : Nat) (l : List Tx) (W : World) (hl : Strs W A l) (hn : l.length ≤ 9223372036854775807) (hs : ∀ x ∈ l, x.length ≤ 9223372036854775807) (hT : TabAt W) :
    Calls Tryd.prog 3 #[.int .i64 f, .slice A l.length cap] W fun e W' => e = .returned (.bool true) ∧ Below W.heap.size W W' := by
  have HSH := Lib.hid (shown7_any W hT)
  obtain ⟨bs, er, h1, h2⟩ := encs7_any f A cap l W hl hn hs hT
  obtain ⟨bv, br, h3, h4⟩ := bests7_any A cap l W hl hn hs hT
  have H1 := Lib.hid h1
  have H2 := Lib.hid h2
  have H3 := Lib.hid h3
  have H4 := Lib.hid h4
  clear h1 h2 h3 h4 hl hs hT
  generalize l.length = n at *
  go_enter Tryd.func3, Tryd.ntmps3
  go_wp2_with (first | (go_at_call 7; refine HSH.out.mono ?_; rintro e w1 ⟨rfl, hb⟩; have HB := Lib.hid hb; clear hb) | (go_at_call 8; refine (H1.out w1 HB.out).mono ?_; rintro e w2 ⟨A1, c1, rfl, hy1, hb2⟩; have HB2 := Lib.hid (HB.out.trans (hb2.mono HB.out.size)); have HY1 := Lib.hid hy1; clear hb2 hy1) | (go_at_call 9; refine (H2.out w2 HB2.out).mono ?_; rintro e w3 ⟨A2, c2, rfl, hy2, hb3⟩; have HB3 := Lib.hid (HB2.out.trans (hb3.mono HB2.out.size)); have HY13 := Lib.hid (HY1.out.keep hb3); have HY2 := Lib.hid hy2; clear hb3 hy2) | (go_at_call 10; refine (H3.out w3 HB3.out).mono ?_; rintro e w4 ⟨rfl, hb4⟩; have HB4 := Lib.hid (HB3.out.trans (hb4.mono HB3.out.size)); have HY14 := Lib.hid (HY13.out.keep hb4); have HY24 := Lib.hid (HY2.out.keep hb4); clear hb4) | (go_at_call 11; refine (H4.out w4 HB4.out).mono ?_; rintro e w5 ⟨rfl, hb5⟩; have HB5 := Lib.hid (HB4.out.trans (hb5.mono HB4.out.size)); have hc1 := conv (HY14.out.keep hb5) c1; have hc2 := conv (HY24.out.keep hb5) c2; clear hb5))
  go_ret
  exact ⟨rfl, HB5.out⟩
end Go.Proofs.YtjmkipbolldhgaaDoor
