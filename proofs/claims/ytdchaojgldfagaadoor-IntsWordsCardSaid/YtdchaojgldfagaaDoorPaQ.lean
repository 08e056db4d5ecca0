/- The walk of pack.Pack (18): numbers that a width has. -/
import Derived.Test.YtdchaojgldfagaaDoorPaP
import Derived.Test.YtdchaojgldfagaaDoorPaR
import Derived.Test.YtdchaojgldfagaaDoorPaH
import Derived.Test.YtdchaojgldfagaaDoorPaH
namespace Go.Proofs.YtdchaojgldfagaaDoor
open Go.RowKit Go.Shelf
set_option linter.unusedVariables false
attribute [local go_sem] Oper.semAt_some

set_option maxRecDepth 100000 in
set_option maxHeartbeats 2000000 in
theorem pack_bad (w : Int) (A : Option Addr) (cap : Nat) (ls : List W64) (W : World) (hl : Num W A ls) (hn : ls.length ≤ 4611686018427387904) (hbad : ¬ (0 ≤ w ∧ w ≤ 64 ∧ ls.length ≤ 4096) ∨ w < (widL ls : Int)) :
    Calls Tryd.prog 39 #[.int .i64 w, .slice A ls.length cap] W fun e W' => e = .returned (.tuple #[.slice none 0 0, .int .i64 2]) ∧ W' = W := by
  have hsz := size_any (ls.length : Int) w W
  have hwd := width_any A cap ls W hl hn
  by_cases h : (0 : Int) ≤ (ls.length : Int) ∧ (ls.length : Int) ≤ 4096 ∧ 0 ≤ w ∧ w ≤ 64
  · rw [sizeR_good h] at hsz
    have hlt : w < (widL ls : Int) := by
      rcases hbad with hb | hb
      · exfalso; omega
      · exact hb
    clear hbad h hl
    go_enter Tryd.func39, Tryd.ntmps39
    go_wp2_with (first | (go_at_call 55; refine hsz.mono ?_; rintro e w1 ⟨rfl, rfl⟩) | (go_at_call 38; refine hwd.mono ?_; rintro e w1 ⟨rfl, rfl⟩))
    all_goals first | omega | (go_ret2; exact ⟨rfl, rfl⟩)
  · rw [sizeR_bad h] at hsz
    clear hbad h hl
    go_enter Tryd.func39, Tryd.ntmps39
    go_wp2_with (first | (go_at_call 55; refine hsz.mono ?_; rintro e w1 ⟨rfl, rfl⟩) | (go_at_call 38; refine hwd.mono ?_; rintro e w1 ⟨rfl, rfl⟩))
    all_goals first | omega | (go_ret2; exact ⟨rfl, rfl⟩)

set_option maxRecDepth 100000 in
set_option maxHeartbeats 2000000 in
theorem pack_good (w : Nat) (A : Option Addr) (cap : Nat) (ls : List W64) (W : World) (hl : Num W A ls) (hw : w ≤ 64) (hlen : ls.length ≤ 4096) (hwd : widL ls ≤ w) (hT : TabAt W) :
    Calls Tryd.prog 39 #[.int .i64 (w : Int), .slice A ls.length cap] W fun e W' => e = .returned (.tuple #[.slice (some ⟨W.heap.size, 0, none⟩) ((ls.length * w + 7) / 8) ((ls.length * w + 7) / 8), .int .i64 0]) ∧ Blk W' W.heap.size 5 (u8s (packL ((ls.length * w + 7) / 8) (bitsP w ls))) ∧ Below W.heap.size W W' := by
  obtain ⟨N, hN⟩ : ∃ N, W.heap.size = N := ⟨_, rfl⟩
  rw [hN]
  obtain ⟨M, hM⟩ : ∃ M, ls.length * w = M := ⟨_, rfl⟩
  have hM1 : M ≤ 262144 := by
    rw [← hM]
    have := Nat.mul_le_mul hlen hw
    omega
  obtain ⟨xs, hxs⟩ := lift_fin M (posAt w 0 (ls.map BitVec.toNat)) (by rw [← hM]; exact pos_lt ((of_width hw).1 hwd))
  rw [hM]
  obtain ⟨sz, hsz⟩ : ∃ sz, (M + 7) / 8 = sz := ⟨_, rfl⟩
  rw [hsz]
  have h2N : 0 < N := by have := World.block_lt_of_cell? W _ (hT 0 (by omega)); rw [← hN]; exact this
  have hnum : numAt W N (N + 4) A ls := by
    intro k hk
    obtain ⟨b, o, e, hc⟩ := hl k hk
    have := World.block_lt_of_cell? W _ hc
    have hbN : b < N := by rw [← hN]; exact this
    exact ⟨b, o, e, by omega, by omega, hc⟩
  have hsize : ∀ W : World, Calls Tryd.prog 55 #[.int .i64 (ls.length : Int), .int .i64 (w : Int)] W fun e W' => e = .returned (.tuple #[.int .i64 (sz : Int), .int .i64 0]) ∧ W' = W := by
    intro W
    have h := size_any (ls.length : Int) (w : Int) W
    rw [sizeR_good (by omega), show ((ls.length : Int) * (w : Int) + 7) / 8 = (sz : Int) by rw [← hsz, ← hM]; simp] at h
    exact h
  have hwid := width_any A cap ls W hl (by omega)
  have hlt : ¬ (w : Int) < (widL ls : Int) := by omega
  have HSZ : Hid (∀ W : World, CallsIn Fence.wide 9 Tryd.prog 55 #[.int .i64 (ls.length : Int), .int .i64 (w : Int)] W fun e W' => e = .returned (.tuple #[.int .i64 (sz : Int), .int .i64 0]) ∧ W' = W) := fun W => callsIn_wide.2 (hsize W)
  have HWID : Hid (CallsIn Fence.wide 9 Tryd.prog 38 #[.slice A ls.length cap] W fun e W' => e = .returned (.int .i64 (widL ls : Int)) ∧ W' = W) := callsIn_wide.2 hwid
  have hsz2 : M ≤ 8 * sz := by omega
  have hsz3 : sz ≤ 32768 := by omega
  have HT := Lib.hid hT
  have HNUM := Lib.hid hnum
  have HM := Lib.hid hM
  have HNN := Lib.hid hN
  have hR : ∀ W' : World, Below N W W' → True := fun _ _ => trivial
  clear hsize hwid hT hnum hM hsz hl hwd hR
  refine (callsIn_wide (n := 10)).1 ?_
  refine callsIn_of_wp_marks Tryd.func39 rfl trivial ?_ rfl
  simp only [Tryd.ntmps39, List.size_toArray, List.length_cons, List.length_nil, Nat.reduceAdd, Nat.reduceSub, Array.replicate_succ, Array.replicate_zero, List.push_toArray, List.append_toArray, List.nil_append, List.cons_append]
  gi_wp2_with (first | (refine ⟨trivial, ?_⟩; gi_at_call 55; refine (HSZ.out _).mono ?_; rintro e w1 ⟨rfl, rfl⟩) | (refine ⟨trivial, ?_⟩; gi_at_call 38; refine HWID.out.mono ?_; rintro e w1 ⟨rfl, rfl⟩) | (gi_at_make; refine mk_in rfl _ _ rfl sz rfl rfl (by omega) ?_) | (refine ⟨trivial, ?_⟩; gi_at_call 56; refine (ones33 9 w A ls.length cap _).mono ?_; rintro e w1 ⟨rfl, rfl⟩))
  obtain ⟨W4, hW4⟩ : ∃ x, x = ((((w1.alloc (Obj.cells (u8s (List.replicate sz 0)).toArray 5)).alloc (Obj.cells #[Value.slice (some ⟨N, 0, none⟩) sz sz] 24)).alloc (Obj.cells #[Value.int IntKind.i64 (w : Int)] 3)).alloc (Obj.cells #[Value.slice A ls.length cap] 63)) := ⟨_, rfl⟩
  rw [← hW4]
  have s1 := HNN.out
  have b0 : Blk W4 N 5 (u8s (packL sz (fun _ => false))) := by
    rw [hW4, packL_none, ← s1]
    exact (((Blk.born w1 5 _).later _).later _).later _
  have b1 : Blk W4 (N + 1) 24 [Value.slice (some ⟨N, 0, none⟩) sz sz] := by
    rw [hW4]
    have := ((Blk.born (w1.alloc (Obj.cells (u8s (List.replicate sz 0)).toArray 5)) 24 [Value.slice (some ⟨N, 0, none⟩) sz sz]).later (Obj.cells #[Value.int IntKind.i64 (w : Int)] 3)).later (Obj.cells #[Value.slice A ls.length cap] 63)
    rw [World.size_alloc, s1] at this
    exact this
  have b2 : Blk W4 (N + 1 + 1) 3 [Value.int IntKind.i64 (w : Int)] := by
    rw [hW4]
    have := (Blk.born ((w1.alloc (Obj.cells (u8s (List.replicate sz 0)).toArray 5)).alloc (Obj.cells #[Value.slice (some ⟨N, 0, none⟩) sz sz] 24)) 3 [Value.int IntKind.i64 (w : Int)]).later (Obj.cells #[Value.slice A ls.length cap] 63)
    rw [World.size_alloc, World.size_alloc, s1] at this
    exact this
  have b3 : Blk W4 (N + 1 + 1 + 1) 63 [Value.slice A ls.length cap] := by
    rw [hW4]
    have := Blk.born (((w1.alloc (Obj.cells (u8s (List.replicate sz 0)).toArray 5)).alloc (Obj.cells #[Value.slice (some ⟨N, 0, none⟩) sz sz] 24)).alloc (Obj.cells #[Value.int IntKind.i64 (w : Int)] 3)) 63 [Value.slice A ls.length cap]
    rw [World.size_alloc, World.size_alloc, World.size_alloc, s1] at this
    exact this
  have bel : Below N w1 W4 := by
    rw [hW4]
    exact ((((Below.refl _ _).alloc (by omega) _).alloc (by simp; omega) _).alloc (by simp; omega) _).alloc (by simp; omega) _
  have s4 : W4.heap.size = N + 4 := by rw [hW4]; simp [s1]
  clear hW4
  refine wpIn_rangeFunc_ownF rfl (by omega) (gf := 63) (lb := #[.pointer (some ⟨N + 1 + 1 + 1, 0, none⟩), .pointer (some ⟨N + 1 + 1, 0, none⟩)]) rfl trivial (enters_of Tryd.func63 (by kernel_rfl) rfl)
    (ones_stops 9 (by omega) (N + 1 + 1 + 1) (N + 1 + 1) N (N + 4) A cap w M ls xs hxs hw hlen (by omega) W4 (by omega) (by omega) (by omega) (by omega) ((b3.at_ 0).trans rfl) ((b2.at_ 0).trans rfl)
      (fun k hk => by obtain ⟨b, o, e, h1, h2, h3⟩ := HNUM.out k hk; have hb := World.block_lt_of_cell? w1 _ h3; exact ⟨b, o, e, h1, h2, (bel.cell (p := ⟨b, o + k, none⟩) (by rw [← s1]; exact hb)).trans h3⟩)
      (HT.out.below bel h2N) (by omega) (by omega))
    Kept.trans (Kept.putObj (by omega)) (Below.refl _ _) (fun _ => rfl)
    (fun pre Wd => (Blk Wd N 5 (u8s (packL sz (fun i => decide (i ∈ pre.map Fin.val)))) ∧ Blk Wd (N + 1) 24 [Value.slice (some ⟨N, 0, none⟩) sz sz]) ∧ Below N w1 Wd)
    (fun _ _ _ => False)
    (OwnFrom.and (Own.from (fun s A B row hs hg hr => ⟨(grownBy_keeps_cells hg hr hs.1 rfl).trans hs.1, (grownBy_keeps_cells hg hr hs.2 rfl).trans hs.2⟩) _) (ownFrom_below (by omega) (by omega)))
    (fun _ _ _ _ _ hs _ _ => hs)
    ⟨⟨by simpa using b0, b1⟩, bel⟩
    (fun x => { tmps := #[Value.int IntKind.i64 (w : Int), Value.slice A ls.length cap, undef, undef, Value.slice none 0 0,
          Value.int IntKind.i64 0, Value.int IntKind.i64 (sz : Int), Value.int IntKind.i64 0,
          Value.pointer (some ⟨N + 1, 0, none⟩), .int .i64 (x.val : Int),
          Value.tuple #[Value.int IntKind.i64 (sz : Int), Value.int IntKind.i64 0], Value.slice A ls.length cap,
          Value.int IntKind.i64 (ls.length : Int), Value.int IntKind.i64 (w : Int),
          Value.tuple #[Value.int IntKind.i64 (sz : Int), Value.int IntKind.i64 0], Value.int IntKind.i64 (sz : Int),
          Value.int IntKind.i64 0, Value.int IntKind.i64 0, Value.bool false, Value.bool false,
          Value.slice A ls.length cap, Value.int IntKind.i64 (widL ls : Int), Value.int IntKind.i64 (w : Int), Value.bool false,
          Value.bool false, Value.int IntKind.i64 (sz : Int), Value.slice (some ⟨N, 0, none⟩) sz sz,
          Value.int IntKind.i64 (w : Int), Value.slice A ls.length cap,
          Value.func (Fn.func 63) #[] #[Value.pointer (some ⟨N + 1 + 1 + 1, 0, none⟩), Value.pointer (some ⟨N + 1 + 1, 0, none⟩)],
          .int .i64 (x.val : Int), undef, undef, undef, undef, undef, undef, undef, undef, undef, undef, undef], defers := [] }) ?assign ?body ?done ?stop
  case assign =>
    intro l x W K hK
    gi_wp2
    exact hK
  case body =>
    rintro l pre x Wd ⟨⟨hblk, hbox⟩, hbel⟩ hlt2
    have hxM := x.isLt
    have hset := fun (j r : Nat) (hj : j < sz) (hr : r < 8) => packL_set (fun i => decide (i ∈ pre.map Fin.val)) hj hr
    have hget := fun (j : Nat) (hj : j < sz) => packL_get (fun i => decide (i ∈ pre.map Fin.val)) hj
    obtain ⟨j, hj⟩ : ∃ j, x.val / 8 = j := ⟨_, rfl⟩
    obtain ⟨r, hr⟩ : ∃ r, x.val % 8 = r := ⟨_, rfl⟩
    obtain ⟨v, hv⟩ : ∃ v, x.val = v := ⟨_, rfl⟩
    have hsnoc : packL sz (fun i => decide (i ∈ (pre ++ [x]).map Fin.val)) = packL sz (fun i => decide (i ∈ pre.map Fin.val) || i == v) := by
      apply packL_congr
      intro i _
      rw [Bool.eq_iff_iff]
      rw [decide_eq_true_iff, Bool.or_eq_true, decide_eq_true_iff, beq_iff_eq, List.map_append, List.mem_append, List.map_cons, List.map_nil, List.mem_singleton, hv]
    rw [hv] at hj hr hxM
    have hjs : j < sz := by omega
    have hr8 : r < 8 := by omega
    have hjr : 8 * j + r = v := by omega
    have hset2 := hset j r hjs hr8
    have hget2 := hget j hjs
    rw [hjr] at hset2
    clear hset hget
    rw [← hsnoc] at hset2
    have hpl := packL_len sz (fun i => decide (i ∈ pre.map Fin.val))
    generalize (fun i => decide (i ∈ pre.map Fin.val)) = P at hblk hset2 hget2 hpl
    have hread : Wd.drew.cell? ⟨N, j, none⟩ = some (.int .u8 ((byP P j).toNat : Int)) := by
      have h := hblk.at_ j
      rw [u8s_at (by rw [hpl]; exact hjs), hget2] at h
      exact h
    have hfree : Wd.drew.frozen? ⟨N, j, none⟩ = false := hblk.free j
    have hbox1 : Wd.drew.cell? ⟨N + 1, 0, none⟩ = some (.slice (some ⟨N, 0, none⟩) sz sz) := hbox.at_ 0
    have d0 : (0 : Int) ≤ (v : Int) := by omega
    have d1 : (v : Int) / 8 = (j : Int) := by omega
    have d2 : (v : Int) % 8 = (r : Int) := by omega
    have j0 : (0 : Int) ≤ (j : Int) := by omega
    have j1 : (j : Int) < (sz : Int) := by omega
    have r0 : (0 : Int) ≤ (r : Int) := by omega
    have r1 : (r : Int) < 8 := by omega
    have d3 : (v : Int).tmod 8 = (r : Int) := by rw [Int.tmod_eq_emod_of_nonneg d0]; omega
    have hwj : IntKind.i64.wrap (j : Int) = (j : Int) := wrap_i64_of (by omega) (by omega)
    have h2r : 2 ^ r < 256 := by
      have := Nat.pow_lt_pow_right (a := 2) (by decide) hr8
      simpa using this
    obtain ⟨sh, hsh⟩ : ∃ sh, UInt8.ofNat (2 ^ r) = sh := ⟨_, rfl⟩
    have hshn : 2 ^ r = sh.toNat := by rw [← hsh, UInt8.toNat_ofNat']; exact (Nat.mod_eq_of_lt h2r).symm
    rw [hsh] at hset2
    generalize byP P j = by0 at hread hset2
    have hor := bits_or8 by0 sh
    have hshw : IntKind.u8.wrap ((2 : Int) ^ r) = (sh.toNat : Int) := by
      have e : ((2 : Int) ^ r) = ((2 ^ r : Nat) : Int) := by simp
      rw [e, hshn]
      have := sh.toNat_lt
      simp [IntKind.wrap, IntKind.signed, IntKind.bits]
      omega
    have hmx : Tryd.prog.follows .mixedOrders = true := by kernel_rfl
    rw [hv]
    gi_wp2
    refine tame_region 11 hmx (by kernel_rfl) rfl ?_
    refine wpAnyIn_take (i := 1) (v := .int .i64 (v : Int)) rfl rfl (by kernel_rfl) (by kernel_rfl) (by kernel_rfl) (fun _ _ _ h => h) ⟨Or.inl ⟨by rfl, by intro w; go_simp⟩, fun _ => rfl⟩ ?_
    go_simp
    refine wpAnyIn_take (i := 2) (v := .int .i64 (j : Int)) rfl rfl (by kernel_rfl) (by kernel_rfl) (by kernel_rfl) (fun _ _ _ h => h) ⟨Or.inl ⟨by rfl, by intro w; go_simp⟩, fun _ => rfl⟩ ?_
    go_simp
    refine wpAnyIn_take (i := 5) (v := .int .i64 (v : Int)) rfl rfl (by kernel_rfl) (by kernel_rfl) (by kernel_rfl) (fun _ _ _ h => h) ⟨Or.inl ⟨by rfl, by intro w; go_simp⟩, fun _ => rfl⟩ ?_
    go_simp
    refine wpAnyIn_take (i := 6) (v := .int .i64 (r : Int)) rfl rfl (by kernel_rfl) (by kernel_rfl) (by kernel_rfl) (fun _ _ _ h => h) ⟨Or.inl ⟨by rfl, by intro w; go_simp⟩, fun _ => rfl⟩ ?_
    go_simp
    refine wpAnyIn_take (i := 7) (v := .int .u8 (sh.toNat : Int)) rfl rfl (by kernel_rfl) (by kernel_rfl) (by kernel_rfl) (fun _ _ _ h => h) ⟨Or.inl ⟨by rfl, by intro w; go_simp⟩, fun _ => rfl⟩ ?_
    go_simp
    refine wpAnyIn_ready (rs := [0]) (by kernel_rfl) (by simp) (AllReadyIn.cons rfl (fun K hK => ?_) AllReadyIn.nil)
    go_simp
    refine hK _ _ ?_
    clear hK K
    refine wpAnyIn_take (i := 3) (v := .pointer (some ⟨N, j, none⟩)) rfl rfl (by kernel_rfl) (by kernel_rfl) (by kernel_rfl) (fun _ _ _ h => h) ⟨Or.inl ⟨by rfl, by intro w; go_simp⟩, fun _ => rfl⟩ ?_
    go_simp
    refine wpAnyIn_ready (rs := [4]) (by kernel_rfl) (by simp) (AllReadyIn.cons rfl (fun K hK => ?_) AllReadyIn.nil)
    go_simp
    refine hK _ _ ?_
    clear hK K
    refine wpAnyIn_take (i := 8) (v := .int .u8 ((by0 ||| sh).toNat : Int)) rfl rfl (by kernel_rfl) (by kernel_rfl) (by kernel_rfl) (fun _ _ _ h => h) ⟨Or.inl ⟨by rfl, by intro w; go_simp⟩, fun _ => rfl⟩ ?_
    go_simp
    refine wpAnyIn_take (i := 9) (v := .pointer (some ⟨N, j, none⟩)) rfl rfl (by kernel_rfl) (by kernel_rfl) (by kernel_rfl) (fun _ _ _ h => h) ⟨Or.inl ⟨by rfl, by intro w; go_simp⟩, fun _ => rfl⟩ ?_
    go_simp
    refine wpAnyIn_ready (rs := [10]) (by kernel_rfl) (by simp) (AllReadyIn.cons rfl (fun K hK => ?_) AllReadyIn.nil)
    go_simp
    refine hK _ _ ?_
    clear hK K
    refine wpAnyIn_done (by kernel_rfl) ?_ _
    have hst := hblk.store j (.int .u8 ((by0 ||| sh).toNat : Int))
    rw [u8s_set, hset2, UInt8.toNat_or] at hst
    have hso : Sole N Wd (Wd.setCell ⟨N, j, none⟩ (.int .u8 ((by0.toNat ||| sh.toNat : Nat) : Int))).drew := ((Sole.refl N Wd).setCell j _).drew
    refine (⟨(KeepsOthers.setCell _ _ _).trans (KeepsOthers.drew _), fun k _ hB => hso.block k hB, ⟨⟨hst, hbox.sole hso (by omega)⟩, hso.below hbel (Nat.le_refl _)⟩⟩ : _ ∧ _ ∧ ((_ ∧ _) ∧ _))
  case done =>
    rintro D ys Wd hD rfl ⟨⟨hblk, hbox⟩, hB⟩ hK
    have hbox1 : Wd.cell? ⟨N + 1, 0, none⟩ = some (.slice (some ⟨N, 0, none⟩) sz sz) := hbox.at_ 0
    have HB := Lib.hid hblk
    have HBEL := Lib.hid hB
    clear hblk hB
    gi_wp2
    refine ⟨by simp, .inl ⟨_, _, rfl, run_takeDeferred hK, ?_⟩⟩
    rw [hxs] at HB
    exact ⟨_, results_tmp2 rfl _ _ _, rfl, (World.putObj_heap_other (by omega)).trans HB.out, HBEL.out.trans (belowK_b (w := w1) (by omega) Wd D _ _ (by omega) hK rfl rfl)⟩
  case stop =>
    rintro D c pre Wd _ _ h _
    exact h.elim
end Go.Proofs.YtdchaojgldfagaaDoor
