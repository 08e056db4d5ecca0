/- Lists of integers in memory; the least of one, its steps, its numbers held against the least. -/
import Derived.Test.YtdchaojgldfagaaDoorInL
import Derived.Test.YtdchaojgldfagaaDoorPbU
import Derived.Test.YtdchaojgldfagaaDoorPaY
import Derived.Test.YtdchaojgldfagaaDoorSigned
import Derived.Test.YtdchaojgldfagaaDoorRegB
import Derived.IntWalk
import Derived.Outline
namespace Go.Proofs.YtdchaojgldfagaaDoor
open Go.RowKit
set_option linter.unusedVariables false

/-- The slice at A holds the integers l. -/
def Ints (w : World) (A : Option Addr) (l : List Int) : Prop :=
  ∀ k (h : k < l.length), ∃ b o, A = some ⟨b, o, none⟩ ∧ w.cell? ⟨b, o + k, none⟩ = some (.int .i64 l[k])
theorem Ints.keep {w w' : World} {A : Option Addr} {l : List Int} (h : Ints w A l) (hb : Below w.heap.size w w') : Ints w' A l := by
  intro k hk
  obtain ⟨b, o, e, hc⟩ := h k hk
  exact ⟨b, o, e, (hb.cell (World.block_lt_of_cell? w _ hc)).trans hc⟩
theorem Ints.nil {w : World} {l : List Int} (h : Ints w none l) : l = [] := by
  cases l with
  | nil => rfl
  | cons a t => obtain ⟨b, o, e, _⟩ := h 0 (by simp); cases e
theorem cell_low {w W : World} {p : Addr} {v : Value} (h : Below w.heap.size w W) (hc : w.cell? p = some v) : W.cell? p = some v := (h.cell (World.block_lt_of_cell? w _ hc)).trans hc
theorem minL_take (l : List Int) (k : Nat) (h : k < l.length) (h0 : 1 ≤ k) : minL (l.take (k + 1)) = min (minL (l.take k)) l[k] := by
  rw [List.take_succ_eq_append_getElem h, minL_snoc _ _ (by intro e; have := congrArg List.length e; rw [List.length_take, List.length_nil] at this; omega)]

set_option maxHeartbeats 1000000 in
theorem first_any (A : Option Addr) (cap : Nat) (a : Int) (t : List Int) (W : World) (hl : Ints W A (a :: t)) (hn : (a :: t).length ≤ 4611686018427387904) :
    Calls Tryd.prog 21 #[.slice A (a :: t).length cap] W fun e W' => e = .returned (.int .i64 a) ∧ W = W' := by
  obtain ⟨b, o, rfl, hc⟩ := hl 0 (by simp)
  have hc0 : W.cell? ⟨b, o, none⟩ = some (.int .i64 a) := hc
  have hpos : 0 < (a :: t).length := by simp
  generalize (a :: t).length = n at *
  clear hl hc
  go_enter Tryd.func21, Tryd.ntmps21
  go_wp2
  go_ret
  exact ⟨rfl, rfl⟩

set_option maxHeartbeats 2000000 in
theorem min_any (A : Option Addr) (cap : Nat) (l : List Int) (W : World) (hl : Ints W A l) (hn : l.length ≤ 4611686018427387904) (h0 : 0 < l.length) :
    Calls Tryd.prog 23 #[.slice A l.length cap] W fun e W' => e = .returned (.int .i64 (minL l)) ∧ W = W' := by
  obtain ⟨b, o, rfl, hc⟩ := hl 0 h0
  have hc0 : W.cell? ⟨b, o, none⟩ = some (.int .i64 l[0]) := hc
  have hm1 : l[0] = minL (l.take 1) := by
    cases l with
    | nil => simp at h0
    | cons a t => rfl
  rw [hm1] at hc0
  have hfull : minL l = minL (l.take l.length) := by rw [List.take_length]
  rw [hfull]
  obtain ⟨n, hn2⟩ : ∃ n, l.length = n := ⟨_, rfl⟩
  have HL := Lib.hid hl
  have HN := Lib.hid hn2
  rw [hn2] at hn h0 ⊢
  clear hl hc hm1 hfull hn2
  have h1 : ¬ (n : Int) < 1 := by omega
  go_enter Tryd.func23, Tryd.ntmps23
  go_wp2
  go_loop [3, 4] (fun m i => ∃ k : Nat, (1 ≤ k ∧ k ≤ n) ∧ i = .int .i64 k ∧ m = .int .i64 (minL (l.take k))) (fun _ i => n - (intOf i).toNat)
  case atStart => exact ⟨1, by omega, rfl, rfl⟩
  case round =>
    obtain ⟨k, hk, rfl, rfl⟩ := hrel
    by_cases hlt : k < n
    · obtain ⟨b', o', e', hck⟩ := HL.out k (by rw [HN.out]; exact hlt)
      injection e' with e'
      injection e' with e1 e2
      subst e1 e2
      have hs := minL_take l k (by rw [HN.out]; exact hlt) hk.1
      generalize l[k]'(by rw [HN.out]; exact hlt) = x at hck hs
      have HS := Lib.hid hs
      clear hs
      generalize minL (l.take k) = m at *
      go_wp2
      go_round
      case rel => exact ⟨k + 1, by omega, by go_num, by rw [HS.out]⟩
      case measure => simp [intOf]; omega
    · obtain rfl : k = n := by omega
      go_wp2
      go_ret
      exact ⟨rfl, rfl⟩

theorem n64s_put (l : List W64) (k n : Nat) (x : W64) (h : k = l.length) (hk : k < n) : (n64s (l ++ List.replicate (n - k) 0)).set k (.int .u64 (x.toNat : Int)) = n64s ((l ++ [x]) ++ List.replicate (n - (k + 1)) 0) := by
  subst h
  rw [n64s_set, List.set_append_right _ _ (Nat.le_refl _), Nat.sub_self, show n - l.length = (n - (l.length + 1)) + 1 by omega, List.replicate_succ]
  simp
theorem stepsL_take (l : List Int) (k : Nat) (h : k + 1 < l.length) : (stepsL l).take (k + 1) = (stepsL l).take k ++ [stepW (l[k]'(by omega)) l[k + 1]] := by
  rw [List.take_add_one, stepsL_get l k h]
  rfl

set_option maxRecDepth 100000 in
set_option maxHeartbeats 4000000 in
theorem steps_any (A : Option Addr) (cap : Nat) (l : List Int) (W : World) (hl : Ints W A l) (hn : l.length ≤ 4096) (h0 : 0 < l.length) :
    Calls Tryd.prog 22 #[.slice A l.length cap] W fun e W' => e = .returned (.slice (some ⟨W.heap.size, 0, none⟩) (stepsL l).length (stepsL l).length) ∧ Num W' (some ⟨W.heap.size, 0, none⟩) (stepsL l) ∧ Below W.heap.size W W' := by
  have hsl : (stepsL l).length + 1 = l.length := by
    cases l with
    | nil => simp at h0
    | cons a t => rw [stepsL_len]; rfl
  obtain ⟨n, hn2⟩ : ∃ n, (stepsL l).length = n := ⟨_, rfl⟩
  rw [hn2] at hsl
  have hln : l.length = n + 1 := by omega
  obtain ⟨N, hN⟩ : ∃ N, W.heap.size = N := ⟨_, rfl⟩
  obtain ⟨W1, hW1⟩ : ∃ x, x = W.alloc (.cells (n64s (List.replicate n 0#64)).toArray 46) := ⟨_, rfl⟩
  have hb1 : Blk W1 N 46 (n64s ((stepsL l).take 0 ++ List.replicate (n - 0) 0)) := by
    rw [hW1, ← hN]
    exact Blk.born W _ _
  have hbel1 : Below N W W1 := by rw [hW1, ← hN]; exact (Below.refl _ _).alloc (Nat.le_refl _) _
  have HL := Lib.hid hl
  have HN := Lib.hid hn2
  have HNN := Lib.hid hN
  have HLN := Lib.hid hln
  have HB1 := Lib.hid hb1
  have HE1 := Lib.hid hbel1
  have HW1 := Lib.hid hW1
  rw [hn2, hln, hN]
  rw [hln] at hn h0
  have hwr : IntKind.i64.wrap (((n + 1 : Nat) : Int) - 1) = (n : Int) := by rw [IntKind.wrap_i64]; omega
  clear hl hn2 hsl hb1 hbel1 hW1 hN hln
  go_enter Tryd.func22, Tryd.ntmps22
  go_wp2_with (first | (refine mk_pl22 rfl _ _ rfl n rfl rfl (by omega) ?_))
  rw [← HW1.out, HNN.out]
  go_loopw [12] (fun i wr => ∃ k : Nat, k ≤ n ∧ i = .int .i64 k ∧ Blk wr N 46 (n64s ((stepsL l).take k ++ List.replicate (n - k) 0)) ∧ Below N W wr) (fun i _ => n - (intOf i).toNat)
  case atStart => exact ⟨0, by omega, rfl, HB1.out, HE1.out⟩
  case round =>
    obtain ⟨k, hk, rfl, hblk, hbel⟩ := hrel
    have HBEL := Lib.hid hbel
    have HBLK := Lib.hid hblk
    by_cases hlt : k < n
    · have hk1 : k + 1 < l.length := by rw [HLN.out]; omega
      obtain ⟨b, o, rfl, hca⟩ := HL.out k (by omega)
      obtain ⟨b', o', e', hcb⟩ := HL.out (k + 1) hk1
      injection e' with e'
      injection e' with e1 e2
      subst e1 e2
      have hbN : b < N := by rw [← HNN.out]; exact World.block_lt_of_cell? W _ hca
      have hst := stepsL_take l k hk1
      have hca2 := (hbel.drew.cell (p := ⟨b, o + k, none⟩) hbN).trans hca
      have hcb2 := (hbel.drew.cell (p := ⟨b, o + (k + 1), none⟩) hbN).trans hcb
      have hdw := dif_64 (l[k]'(by omega)) l[k + 1]
      have hnat := stepW_nat (l[k]'(by omega)) l[k + 1]
      have hdef : dif (l[k]'(by omega)) l[k + 1] = IntKind.i64.wrap (l[k + 1] - l[k]'(by omega)) := rfl
      generalize l[k]'(by omega) = x at hca2 hst hdw hnat hdef
      generalize l[k + 1] = y at hcb2 hst hdw hnat hdef
      have hcell := (hblk.at_ k)
      have hfr := hblk.free k
      have hkl : k < (n64s ((stepsL l).take k ++ List.replicate (n - k) 0)).length := by
        rw [n64s_len, List.length_append, List.length_take, List.length_replicate, HN.out]; omega
      rw [List.getElem?_eq_getElem hkl] at hcell
      have hput := n64s_put ((stepsL l).take k) k n (stepW x y) (by rw [List.length_take, HN.out]; omega) hlt
      rw [← hst] at hput
      have HPUT := Lib.hid hput
      generalize (n64s ((stepsL l).take k ++ List.replicate (n - k) 0))[k] = old at hcell
      obtain ⟨d, hd⟩ : ∃ d, dif x y = d := ⟨_, rfl⟩
      rw [hd] at hdw hnat hdef
      obtain ⟨sw, hsw⟩ : ∃ sw, stepW x y = sw := ⟨_, rfl⟩
      rw [hsw] at hnat HPUT
      have hz := zig_wire d hdw.1 hdw.2
      have hZ : bits .xor .u64 (IntKind.u64.wrap (IntKind.u64.wrap d * 2)) (IntKind.u64.wrap (d / 9223372036854775808)) = (sw.toNat : Int) := by rw [hz, hnat]
      have HZ := Lib.hid hZ
      have HDEF := Lib.hid hdef
      have hd0 := hdw.1
      have hd1 := hdw.2
      have HK : Hid (k < n) := hlt
      clear hst hput hblk hbel hca hcb hd hsw hz hZ hnat hdef hdw hkl HB1 HE1 HW1 hk1
      go_upto_region 5 with (fail)
      refine wpB_start 11 (by kernel_rfl) rfl (fun R HR => ?_)
      refine wpB_take HR (i := 0) rfl (by decide +kernel) (by decide +kernel) (by decide +kernel) (fun _ _ _ h => h) (by rfl) (fun W hW => by rfl) ?_
      go_simp
      refine wpB_take HR (i := 1) rfl (by decide +kernel) (by decide +kernel) (by decide +kernel) (fun _ _ _ h => h) (by rfl) (fun W hW => by rfl) ?_
      go_simp
      refine wpB_take HR (i := 2) (v := .int .i64 ((k : Int) + 1)) rfl (by decide +kernel) (by decide +kernel) (by decide +kernel) (fun _ _ _ h => h) (by rfl) (fun W hW => by go_simp; exact IntWalk.i64_in _ ⟨by omega, by omega⟩) ?_
      go_simp
      refine wpB_take HR (i := 3) (v := .pointer (some ⟨b, o + (k + 1), none⟩)) rfl (by decide +kernel) (by decide +kernel) (by decide +kernel) (fun _ _ _ h => h) (by rfl) (fun W hW => by first | (go_simp; done) | (go_simp; intro hx; exact absurd hx (by omega)) | (go_simp; rw [if_pos ⟨by omega, by omega⟩]; done)) ?_
      go_simp
      refine wpB_take HR (i := 4) (v := .int .i64 y) rfl (by decide +kernel) (by decide +kernel) (by decide +kernel) (fun _ _ _ h => h) (by rfl) (fun W hW => by have q := cell_low hW hcb2; go_simp) ?_
      go_simp
      refine wpB_take HR (i := 5) rfl (by decide +kernel) (by decide +kernel) (by decide +kernel) (fun _ _ _ h => h) (by rfl) (fun W hW => by rfl) ?_
      go_simp
      refine wpB_take HR (i := 6) rfl (by decide +kernel) (by decide +kernel) (by decide +kernel) (fun _ _ _ h => h) (by rfl) (fun W hW => by rfl) ?_
      go_simp
      refine wpB_take HR (i := 7) (v := .pointer (some ⟨b, o + k, none⟩)) rfl (by decide +kernel) (by decide +kernel) (by decide +kernel) (fun _ _ _ h => h) (by rfl) (fun W hW => by first | (go_simp; done) | (go_simp; intro hx; exact absurd hx (by omega)) | (go_simp; rw [if_pos ⟨by omega, by omega⟩]; done)) ?_
      go_simp
      refine wpB_take HR (i := 8) (v := .int .i64 x) rfl (by decide +kernel) (by decide +kernel) (by decide +kernel) (fun _ _ _ h => h) (by rfl) (fun W hW => by have q := cell_low hW hca2; go_simp) ?_
      go_simp
      refine wpB_take HR (i := 9) (v := .int .i64 d) rfl (by decide +kernel) (by decide +kernel) (by decide +kernel) (fun _ _ _ h => h) (by rfl) (fun W hW => by go_simp; rw [HDEF.out]) ?_
      go_simp
      refine wpB_take HR (i := 10) rfl (by decide +kernel) (by decide +kernel) (by decide +kernel) (fun _ _ _ h => h) (by rfl) (fun W hW => by rfl) ?_
      go_simp
      refine wpB_done HR (by decide +kernel) ?_
      have hc2 : wr.drew.cell? ⟨N, k, none⟩ = some old := hcell
      have hf2 : wr.drew.frozen? ⟨N, k, none⟩ = false := hfr
      clear hca2 hcb2 hcell hfr
      have hnew : Blk (wr.setCell ⟨N, k, none⟩ (.int .u64 (sw.toNat : Int))) N 46 (n64s ((stepsL l).take (k + 1) ++ List.replicate (n - (k + 1)) 0)) := by rw [← HPUT.out]; exact HBLK.out.store k _
      have HNEW := Lib.hid hnew
      clear hnew
      go_wp2
      go_roundw
      case rel => exact ⟨k + 1, HK.out, by go_num, by rw [HZ.out]; exact HNEW.out, HBEL.out.drew.setCell (by simp) _⟩
      case measure => simp [intOf]; have := HK.out; omega
    · obtain rfl : k = n := by omega
      have hnum : Num wr (some ⟨N, 0, none⟩) (stepsL l) := by
        have hb2 := HBLK.out
        rw [Nat.sub_self, List.replicate_zero, List.append_nil, List.take_of_length_le (by rw [HN.out]; omega)] at hb2
        intro i hi
        refine ⟨N, 0, rfl, ?_⟩
        rw [Nat.zero_add, hb2.at_]
        simp [n64s, hi]
      have HNUM := Lib.hid hnum
      clear hnum
      go_wp2
      go_ret
      exact ⟨rfl, HNUM.out, HBEL.out⟩

theorem off_wire (m x : Int) : IntKind.u64.wrap (IntKind.u64.wrap x - IntKind.u64.wrap m) = ((offW m x).toNat : Int) := by
  rw [IntKind.wrap_u64, IntKind.wrap_u64, IntKind.wrap_u64]
  unfold offW
  rw [BitVec.toNat_ofInt]
  omega
set_option maxRecDepth 100000 in
set_option maxHeartbeats 4000000 in
theorem offs_any (A : Option Addr) (cap : Nat) (l : List Int) (W : World) (hl : Ints W A l) (hn : l.length ≤ 4096) (h0 : 0 < l.length) :
    Calls Tryd.prog 24 #[.slice A l.length cap] W fun e W' => e = .returned (.slice (some ⟨W.heap.size, 0, none⟩) (l.map (offW (minL l))).length (l.map (offW (minL l))).length) ∧ Num W' (some ⟨W.heap.size, 0, none⟩) (l.map (offW (minL l))) ∧ Below W.heap.size W W' := by
  have hmin := min_any A cap l W hl (by omega) h0
  obtain ⟨m, hm⟩ : ∃ m, minL l = m := ⟨_, rfl⟩
  rw [hm] at hmin ⊢
  obtain ⟨D, hD⟩ : ∃ D, l.map (offW m) = D := ⟨_, rfl⟩
  rw [hD]
  have hlD : D.length = l.length := by rw [← hD, List.length_map]
  obtain ⟨n, hn2⟩ : ∃ n, l.length = n := ⟨_, rfl⟩
  rw [hn2] at hlD hmin hn h0
  obtain ⟨N, hN⟩ : ∃ N, W.heap.size = N := ⟨_, rfl⟩
  obtain ⟨W1, hW1⟩ : ∃ x, x = W.alloc (.cells (n64s (List.replicate n 0#64)).toArray 46) := ⟨_, rfl⟩
  have hb1 : Blk W1 N 46 (n64s (D.take 0 ++ List.replicate (n - 0) 0)) := by
    rw [hW1, ← hN]
    exact Blk.born W _ _
  have hbel1 : Below N W W1 := by rw [hW1, ← hN]; exact (Below.refl _ _).alloc (Nat.le_refl _) _
  have HL := Lib.hid hl
  have HN := Lib.hid hn2
  have HD := Lib.hid hD
  have HLD := Lib.hid hlD
  have HNN := Lib.hid hN
  have HB1 := Lib.hid hb1
  have HE1 := Lib.hid hbel1
  have HW1 := Lib.hid hW1
  have HMIN := Lib.hid hmin
  rw [hlD, hN, hn2]
  clear hl hn2 hD hlD hb1 hbel1 hW1 hN hmin hm
  go_enter Tryd.func24, Tryd.ntmps24
  go_wp2_with (first | (go_at_call 23; refine HMIN.out.mono ?_; rintro e w1 ⟨rfl, rfl⟩; clear HMIN) | (refine mk_pl22 rfl _ _ rfl n rfl rfl (by omega) ?_))
  rw [← HW1.out, HNN.out]
  go_loopw [14] (fun i wr => ∃ k : Nat, k ≤ n ∧ i = .int .i64 k ∧ Blk wr N 46 (n64s (D.take k ++ List.replicate (n - k) 0)) ∧ Below N W wr) (fun i _ => n - (intOf i).toNat)
  case atStart => exact ⟨0, by omega, rfl, HB1.out, HE1.out⟩
  case round =>
    obtain ⟨k, hk, rfl, hblk, hbel⟩ := hrel
    have HBEL := Lib.hid hbel
    have HBLK := Lib.hid hblk
    by_cases hlt : k < n
    · have hk1 : k < l.length := by rw [HN.out]; exact hlt
      obtain ⟨b, o, rfl, hca⟩ := HL.out k hk1
      have hbN : b < N := by rw [← HNN.out]; exact World.block_lt_of_cell? W _ hca
      have hca2 := (hbel.cell (p := ⟨b, o + k, none⟩) hbN).trans hca
      have hst : D.take (k + 1) = D.take k ++ [offW m l[k]] := by
        rw [← HD.out, List.take_add_one, List.getElem?_map, List.getElem?_eq_getElem hk1]; rfl
      have hz := off_wire m l[k]
      generalize l[k] = x at hca2 hst hz
      have hcell := (hblk.at_ k)
      have hfr := hblk.free k
      have hkl : k < (n64s (D.take k ++ List.replicate (n - k) 0)).length := by
        rw [n64s_len, List.length_append, List.length_take, List.length_replicate, HLD.out]; omega
      rw [List.getElem?_eq_getElem hkl] at hcell
      have hput := n64s_put (D.take k) k n (offW m x) (by rw [List.length_take, HLD.out]; omega) hlt
      rw [← hst] at hput
      generalize (n64s (D.take k ++ List.replicate (n - k) 0))[k] = old at hcell
      obtain ⟨sw, hsw⟩ : ∃ sw, offW m x = sw := ⟨_, rfl⟩
      rw [hsw] at hput hz
      have hnew : Blk (wr.setCell ⟨N, k, none⟩ (.int .u64 (sw.toNat : Int))) N 46 (n64s (D.take (k + 1) ++ List.replicate (n - (k + 1)) 0)) := by rw [← hput]; exact hblk.store k _
      have HNEW := Lib.hid hnew
      have HZ := Lib.hid hz
      have HK : Hid (k < n) := hlt
      clear hst hput hblk hbel hca hsw hz hkl HB1 HE1 HW1 hk1 hnew
      go_wp2
      go_roundw
      case rel => exact ⟨k + 1, HK.out, by go_num, by first | (rw [HZ.out]; exact HNEW.out) | exact HNEW.out, HBEL.out.setCell (by simp) _⟩
      case measure => simp [intOf]; have := HK.out; omega
    · obtain rfl : k = n := by omega
      have hnum : Num wr (some ⟨N, 0, none⟩) D := by
        have hb2 := HBLK.out
        rw [Nat.sub_self, List.replicate_zero, List.append_nil, List.take_of_length_le (by rw [HLD.out]; omega)] at hb2
        intro i hi
        refine ⟨N, 0, rfl, ?_⟩
        rw [Nat.zero_add, hb2.at_]
        simp [n64s, hi]
      have HNUM := Lib.hid hnum
      clear hnum
      go_wp2
      go_ret
      exact ⟨rfl, HNUM.out, HBEL.out⟩
end Go.Proofs.YtdchaojgldfagaaDoor
