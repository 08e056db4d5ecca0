/- The walk of the document's mixed (47). -/
import Derived.Test.YtcnnijhfliahgaaDoorHaE
import Derived.Test.YtcnnijhfliahgaaDoorRegB
import Derived.Deep.Cut
namespace Go.Proofs.YtcnnijhfliahgaaDoor
open Go.RowKit
set_option linter.unusedVariables false

section
variable {P : Program} {Q : Exit → Act → World → Prop} {ops R : Array Oper} {S : World → Prop}
/-- The only operation that may come now is a call. -/
theorem wpS_call {i : Nat} {o : Oper} {f : FuncId} {args : Array Value} {fuel : Nat} {listed : Array Bool} {a : Act} {w : World} (hR : Hid (R = ops)) (hi : ops[i]? = some o)
    (hr : Region.ready .any ops listed = [i]) (hw : Region.wanted o (yielded ops a.tmps) = true) (hv : (execOp a.eval o).run P w = .ok (.enter f args) w)
    (h : Calls P f args w fun e w' => ∃ v, e = .returned v ∧ S w' ∧ wpS P R Q S fuel (listed.setIfInBounds i true) (a.put o.dst v) w') : wpS P R Q S (fuel + 1) listed a w := by
  have e : R = ops := hR
  subst e
  refine wpAnyH_all hr (by simp) ?_
  intro j hj
  obtain rfl : j = i := by simpa using hj
  unfold wpOp
  simp only [hi, hw, if_true]
  refine .inl ?_
  unfold Oper.wp
  rw [hv]
  simp only [Oper.upon]
  refine h.mono fun e w' h' => ?_
  obtain ⟨v, rfl, hb, h''⟩ := h'
  exact ⟨hb, h''⟩
theorem wpOp_val {K : Act → World → Prop} {i : Nat} {o : Oper} {v : Value} {a : Act} {w : World} (hi : ops[i]? = some o) (hw : Region.wanted o (yielded ops a.tmps) = true) (hv : (execOp a.eval o).run P w = .ok (.value v) w) (h : K (a.put o.dst v) w) : wpOp P ops Q i K a w := by
  unfold wpOp
  simp only [hi, hw, if_true]
  refine .inl ?_
  unfold Oper.wp
  rw [hv]
  exact h
/-- Two that read may come now, in either order. -/
theorem wpS_reads {i k : Nat} {o u : Oper} {v1 v2 : Value} {fuel : Nat} {listed : Array Bool} {a : Act} {w : World} (hR : Hid (R = ops)) (hi : ops[i]? = some o) (hk : ops[k]? = some u) (hr : Region.ready .any ops listed = [i, k])
    (hr1 : Region.ready .any ops (listed.setIfInBounds i true) = [k]) (hr2 : Region.ready .any ops (listed.setIfInBounds k true) = [i])
    (hw1 : Region.wanted o (yielded ops a.tmps) = true) (hw2 : Region.wanted u (yielded ops a.tmps) = true)
    (hw3 : Region.wanted u (yielded ops (a.put o.dst v1).tmps) = true) (hw4 : Region.wanted o (yielded ops (a.put u.dst v2).tmps) = true) (hS : S w)
    (h1 : (execOp a.eval o).run P w = .ok (.value v1) w) (h2 : (execOp (a.put o.dst v1).eval u).run P w = .ok (.value v2) w)
    (h3 : (execOp a.eval u).run P w = .ok (.value v2) w) (h4 : (execOp (a.put u.dst v2).eval o).run P w = .ok (.value v1) w)
    (ha : (a.put u.dst v2).put o.dst v1 = (a.put o.dst v1).put u.dst v2) (hl : (listed.setIfInBounds k true).setIfInBounds i true = (listed.setIfInBounds i true).setIfInBounds k true)
    (h : wpS P R Q S fuel ((listed.setIfInBounds i true).setIfInBounds k true) ((a.put o.dst v1).put u.dst v2) w) : wpS P R Q S (fuel + 1 + 1) listed a w := by
  have e : R = ops := hR
  subst e
  refine wpAnyH_all hr (by simp) ?_
  intro j hj
  simp only [List.mem_cons, List.not_mem_nil, or_false] at hj
  rcases hj with rfl | rfl
  · refine wpOp_val hi hw1 h1 ⟨hS, wpAnyH_all hr1 (by simp) ?_⟩
    intro j hj
    obtain rfl : j = k := by simpa using hj
    exact wpOp_val hk hw3 h2 ⟨hS, h⟩
  · refine wpOp_val hk hw2 h3 ⟨hS, wpAnyH_all hr2 (by simp) ?_⟩
    intro j hj
    obtain rfl : j = i := by simpa using hj
    refine wpOp_val hi hw4 h4 ⟨hS, ?_⟩
    rw [ha, hl]
    exact h
end
theorem Blk.heap {w w' : World} {g : Nat} {t : TypeId} {cs : List Value} (h : Blk w g t cs) (e : w'.heap = w.heap) : Blk w' g t cs := by unfold Blk at h ⊢; rw [e]; exact h
theorem Sole.heap {g : Nat} {a w w' : World} (h : Sole g a w) (hs : Sole 0 w w') (e : w'.heap = w.heap) : Sole g a w' := h.trans ⟨hs.os, hs.tape, hs.output, hs.size, fun k _ => by rw [e]⟩
theorem mix_step2 {w w1 : World} {g p : Nat} {t : TypeId} {v : List W32} {x : W32} (hb : Blk w g t (u32s v)) (h : w1 = w.setCell ⟨g, p, none⟩ (.int .u32 (x.toNat : Int))) : Blk w1 g t (u32s (v.set p x)) ∧ Sole g w w1 := by
  subst h
  refine ⟨?_, (Sole.refl g w).setCell p _⟩
  rw [← u32s_set]
  exact hb.store p _

def chrs (a b c d : Nat) : List UInt8 := [UInt8.ofNat (97 + a), UInt8.ofNat (97 + b), UInt8.ofNat (97 + c), UInt8.ofNat (97 + d)]
theorem chr_val (a : Nat) (h : a < 16) : ((UInt8.ofNat (97 + a)).toNat : Int) = 97 + (a : Int) := by rw [UInt8.toNat_ofNat']; omega

set_option maxHeartbeats 8000000 in
set_option maxRecDepth 100000 in
theorem refmix_walk (a b c d : Nat) (v : List W32) (X Y : W32) (p : ByteArray) (w : World) (hp : p.data.toList = chrs a b c d) (hl : v.length = 16)
    (la : a < 16) (lb : b < 16) (lc : c < 16) (ld : d < 16) (ab : a ≠ b) (ac : a ≠ c) (ad : a ≠ d) (bc : b ≠ c) (bd : b ≠ d) (cd : c ≠ d) :
    Calls Tryd.prog 47 #[.agg (u32s v).toArray, .string p, .int .u32 (X.toNat : Int), .int .u32 (Y.toNat : Int)] w
      fun e w' => e = .returned (.agg (u32s (mixL v a b c d X Y)).toArray) ∧ Below w.heap.size w w' := by
  have hps : p.size = 4 := by rw [← str_len, hp]; rfl
  have xa := fun w' => idx_str p 0 (by omega) w'
  rw [hp] at xa
  have xa : ∀ w', (Instr.index 9 (.string p) (.int .i64 0)).run Tryd.prog w' = .ok (.int .u8 (97 + (a : Int))) w' := fun w' => by
    have := xa w'
    rw [← chr_val a la]
    exact this
  have za : (0 : Int) ≤ (a : Int) := by omega
  have ua : (a : Int) < 16 := by omega
  have sa : (97 : Int) + (a : Int) - 97 = (a : Int) := by omega
  have xb := fun w' => idx_str p 1 (by omega) w'
  rw [hp] at xb
  have xb : ∀ w', (Instr.index 9 (.string p) (.int .i64 1)).run Tryd.prog w' = .ok (.int .u8 (97 + (b : Int))) w' := fun w' => by
    have := xb w'
    rw [← chr_val b lb]
    exact this
  have zb : (0 : Int) ≤ (b : Int) := by omega
  have ub : (b : Int) < 16 := by omega
  have sb : (97 : Int) + (b : Int) - 97 = (b : Int) := by omega
  have xc := fun w' => idx_str p 2 (by omega) w'
  rw [hp] at xc
  have xc : ∀ w', (Instr.index 9 (.string p) (.int .i64 2)).run Tryd.prog w' = .ok (.int .u8 (97 + (c : Int))) w' := fun w' => by
    have := xc w'
    rw [← chr_val c lc]
    exact this
  have zc : (0 : Int) ≤ (c : Int) := by omega
  have uc : (c : Int) < 16 := by omega
  have sc : (97 : Int) + (c : Int) - 97 = (c : Int) := by omega
  have xd := fun w' => idx_str p 3 (by omega) w'
  rw [hp] at xd
  have xd : ∀ w', (Instr.index 9 (.string p) (.int .i64 3)).run Tryd.prog w' = .ok (.int .u8 (97 + (d : Int))) w' := fun w' => by
    have := xd w'
    rw [← chr_val d ld]
    exact this
  have zd : (0 : Int) ≤ (d : Int) := by omega
  have ud : (d : Int) < 16 := by omega
  have sd : (97 : Int) + (d : Int) - 97 = (d : Int) := by omega
  obtain ⟨W0, hW0⟩ : ∃ x, x = (w.alloc (Obj.cells (u32s v).toArray 71)).alloc (Obj.cells #[Value.int .u32 0, Value.int .u32 0, Value.int .u32 0, Value.int .u32 0, Value.int .u32 0, Value.int .u32 0, Value.int .u32 0, Value.int .u32 0, Value.int .u32 0, Value.int .u32 0, Value.int .u32 0, Value.int .u32 0, Value.int .u32 0, Value.int .u32 0, Value.int .u32 0, Value.int .u32 0] 71) := ⟨_, rfl⟩
  have b0 : Blk W0 w.heap.size 71 (u32s v) := by rw [hW0]; exact (Blk.born w 71 (u32s v)).later _
  have br0 : Blk W0 (w.heap.size + 1) 71 (u32s zero16) := by
    have := born71 (w.alloc (Obj.cells (u32s v).toArray 71))
    rw [hW0]; simpa using this
  have bel0 : Below w.heap.size w W0 := by rw [hW0]; exact ((Below.refl _ _).alloc (Nat.le_refl _) _).alloc (by simp) _
  have BR0 := Lib.hid br0
  have BEL0 := Lib.hid bel0
  have HW0 := Lib.hid hW0
  have B0 := Lib.hid b0
  have HP := Lib.hid hp
  have HPS := Lib.hid hps
  obtain ⟨N, hN⟩ : ∃ N, w.heap.size = N := ⟨_, rfl⟩
  rw [hN] at BR0 BEL0 B0
  have LV0 := Lib.hid hl
  clear b0 br0 bel0 hW0 hp hps hl
  obtain ⟨A, eA⟩ : ∃ A, wat v a = A := ⟨_, rfl⟩
  obtain ⟨B, eB⟩ : ∃ B, wat v b = B := ⟨_, rfl⟩
  obtain ⟨C, eC⟩ : ∃ C, wat v c = C := ⟨_, rfl⟩
  obtain ⟨D, eD⟩ : ∃ D, wat v d = D := ⟨_, rfl⟩
  have Ea0 := Lib.hid eA
  have Eb0 := Lib.hid eB
  have Ec0 := Lib.hid eC
  have Ed0 := Lib.hid eD
  have NE : Hid ((a ≠ b ∧ a ≠ c ∧ a ≠ d) ∧ (b ≠ c ∧ b ≠ d ∧ c ≠ d)) := ⟨⟨ab, ac, ad⟩, ⟨bc, bd, cd⟩⟩
  have SO0 : Hid (Sole N W0 W0) := Sole.refl _ _
  clear eA eB eC eD ab ac ad bc bd cd
  go_enter Tryd.func47, Tryd.ntmps47
  go_upto_region 5 with (fail)
  rw [← HW0.out]
  try rw [hN]
  -- step 1
  have ca := u32s_at B0.out (i := a) (by rw [LV0.out]; exact la)
  rw [Ea0.out] at ca
  have cb := u32s_at B0.out (i := b) (by rw [LV0.out]; exact lb)
  rw [Eb0.out] at cb
  have fa := B0.out.free a
  obtain ⟨p1, q1⟩ : ∃ x : W32, A + B = x := ⟨_, rfl⟩
  obtain ⟨n1, e1⟩ : ∃ x : W32, p1 + X = x := ⟨_, rfl⟩
  have R1 := addw A B
  rw [q1] at R1
  have T1 := addw p1 X
  rw [e1] at T1
  obtain ⟨ra, rb⟩ := R1
  obtain ⟨rc, rd⟩ := T1
  have EE1 : Hid (A + (B + X) = n1) := by rw [← BitVec.add_assoc, q1, e1]; exact rfl
  clear q1 e1
  go_still_tail 11, (by kernel_rfl)
  change wpList _ _ _ _ _ W0.drew
  go_upto_region 6 with (fail)
  obtain ⟨U1, hU⟩ : ∃ x, x = (W0.setCell ⟨N, a, none⟩ (.int .u32 (n1.toNat : Int))).drew := ⟨_, rfl⟩
  rw [← hU]
  obtain ⟨bb, ss⟩ := mix_step B0.out hU
  have B1 := Lib.hid bb
  have SO1 : Hid (Sole N W0 U1) := SO0.out.trans ss
  clear bb ss hU ra rb rc rd ca cb fa
  have LV1 : Hid ((v.set a n1).length = 16) := by rw [List.length_set]; exact LV0.out
  have Ea1 : Hid (wat (v.set a n1) a = n1) := wat_set _ _ _ (by rw [LV0.out]; exact la)
  have Eb1 : Hid (wat (v.set a n1) b = B) := by rw [wat_ne _ _ _ _ NE.out.1.1, Eb0.out]; exact rfl
  have Ec1 : Hid (wat (v.set a n1) c = C) := by rw [wat_ne _ _ _ _ NE.out.1.2.1, Ec0.out]; exact rfl
  have Ed1 : Hid (wat (v.set a n1) d = D) := by rw [wat_ne _ _ _ _ NE.out.1.2.2, Ed0.out]; exact rfl
  -- step 2
  have ca := u32s_at B1.out (i := a) (by rw [LV1.out]; exact la)
  rw [Ea1.out] at ca
  have cd := u32s_at B1.out (i := d) (by rw [LV1.out]; exact ld)
  rw [Ed1.out] at cd
  have fd := B1.out.free d
  obtain ⟨m2, fm⟩ : ∃ x : W32, D ^^^ n1 = x := ⟨_, rfl⟩
  obtain ⟨n2, e2⟩ : ∃ x : W32, ror m2 16 = x := ⟨_, rfl⟩
  have rx := bits_xor32 D n1
  rw [fm] at rx
  have rr := rotr16 m2
  rw [e2] at rr
  have RR := Lib.hid rr
  have EM2 := Lib.hid fm
  have EE2 := Lib.hid e2
  clear fm e2 rr
  refine wpS_start (fun W => Sole N U1 W) 11 (by kernel_rfl) rfl (fun RG HR => ?_)
  have hS0 : Sole N U1 U1.drew := (Sole.refl _ _).drew
  refine wpS_take HR (i := 0) rfl (by decide +kernel) (by decide +kernel) (by decide +kernel) (fun _ _ _ h => h) (by rfl) hS0 (fun W hW => by rfl) ?_
  go_simp
  refine wpS_take HR (i := 1) rfl (by decide +kernel) (by decide +kernel) (by decide +kernel) (fun _ _ _ h => h) (by rfl) hS0 (fun W hW => by rfl) ?_
  go_simp
  refine wpS_take HR (i := 2) (v := .pointer (some ⟨N, d, none⟩)) rfl (by decide +kernel) (by decide +kernel) (by decide +kernel) (fun _ _ _ h => h) (by rfl) hS0 (fun W hW => by go_simp) ?_
  go_simp
  refine wpS_take HR (i := 4) rfl (by decide +kernel) (by decide +kernel) (by decide +kernel) (fun _ _ _ h => h) (by rfl) hS0 (fun W hW => by rfl) ?_
  go_simp
  refine wpS_take HR (i := 5) (v := .pointer (some ⟨N, a, none⟩)) rfl (by decide +kernel) (by decide +kernel) (by decide +kernel) (fun _ _ _ h => h) (by rfl) hS0 (fun W hW => by go_simp) ?_
  go_simp
  refine wpS_reads HR (i := 3) (k := 6) (v1 := .int .u32 (D.toNat : Int)) (v2 := .int .u32 (n1.toNat : Int)) rfl rfl (by decide +kernel) (by decide +kernel) (by decide +kernel) (by rfl) (by rfl) (by rfl) (by rfl) hS0 (by go_simp) (by go_simp) (by go_simp) (by go_simp) (by rfl) (by rfl) ?_
  go_simp
  refine wpS_take HR (i := 7) (v := .int .u32 (m2.toNat : Int)) rfl (by decide +kernel) (by decide +kernel) (by decide +kernel) (fun _ _ _ h => h) (by rfl) hS0 (fun W hW => by go_simp) ?_
  go_simp
  refine wpS_call HR (i := 8) rfl (by decide +kernel) (by rfl) (by go_simp; exact ⟨rfl, rfl⟩) ?_
  refine (RR.out _).mono ?_; rintro e X2 ⟨rfl, hs8, hh8⟩; refine ⟨_, rfl, hS0.heap hs8 hh8, ?_⟩
  have hS8 : Sole N U1 X2 := hS0.heap hs8 hh8
  have BT : Hid (Blk X2 N 71 (u32s (v.set a n1))) := Blk.heap (w := U1.drew) B1.out hh8
  have gd := BT.out.free d
  have hd := u32s_at BT.out (i := d) (by rw [LV1.out]; exact ld)
  rw [Ed1.out] at hd
  clear hs8 hh8
  go_simp
  refine wpS_take HR (i := 9) (v := .pointer (some ⟨N, d, none⟩)) rfl (by decide +kernel) (by decide +kernel) (by decide +kernel) (fun _ _ _ h => h) (by rfl) hS8 (fun W hW => by go_simp) ?_
  go_simp
  refine wpS_one HR (i := 10) rfl (by decide +kernel) rfl ?_
  intro K hK; refine wpList_plain rfl (fun K' hK' => ?_); go_simp; refine hK' _ _ (wpList_nil (hK _ _ (hS8.setCell d _) ?_)); clear hK K hK' K'
  refine wpS_done HR (by decide +kernel) ?_
  clear HR RG
  go_upto_region 7 with (fail)
  obtain ⟨U2, hU⟩ : ∃ x, x = X2.setCell ⟨N, d, none⟩ (.int .u32 (n2.toNat : Int)) := ⟨_, rfl⟩
  rw [← hU]
  obtain ⟨bb, ss⟩ := mix_step2 BT.out hU
  have B2 := Lib.hid bb
  have SO2 : Hid (Sole N W0 U2) := (SO1.out.trans hS8).trans ss
  clear bb ss hU hS0 hS8 BT RR rx ca cd fd gd hd
  have LV2 : Hid (((v.set a n1).set d n2).length = 16) := by rw [List.length_set]; exact LV1.out
  have Ea2 : Hid (wat ((v.set a n1).set d n2) a = n1) := by rw [wat_ne _ _ _ _ NE.out.1.2.2.symm, Ea1.out]; exact rfl
  have Eb2 : Hid (wat ((v.set a n1).set d n2) b = B) := by rw [wat_ne _ _ _ _ NE.out.2.2.1.symm, Eb1.out]; exact rfl
  have Ec2 : Hid (wat ((v.set a n1).set d n2) c = C) := by rw [wat_ne _ _ _ _ NE.out.2.2.2.symm, Ec1.out]; exact rfl
  have Ed2 : Hid (wat ((v.set a n1).set d n2) d = n2) := wat_set _ _ _ (by rw [LV1.out]; exact ld)
  -- step 3
  have cc := u32s_at B2.out (i := c) (by rw [LV2.out]; exact lc)
  rw [Ec2.out] at cc
  have cd := u32s_at B2.out (i := d) (by rw [LV2.out]; exact ld)
  rw [Ed2.out] at cd
  have fc := B2.out.free c
  obtain ⟨n3, e3⟩ : ∃ x : W32, C + n2 = x := ⟨_, rfl⟩
  have R3 := addw C n2
  rw [e3] at R3
  obtain ⟨ra, rb⟩ := R3
  have EE3 := Lib.hid e3
  clear e3
  go_still_tail 9, (by kernel_rfl)
  change wpList _ _ _ _ _ U2.drew
  go_upto_region 8 with (fail)
  obtain ⟨U3, hU⟩ : ∃ x, x = (U2.setCell ⟨N, c, none⟩ (.int .u32 (n3.toNat : Int))).drew := ⟨_, rfl⟩
  rw [← hU]
  obtain ⟨bb, ss⟩ := mix_step B2.out hU
  have B3 := Lib.hid bb
  have SO3 : Hid (Sole N W0 U3) := SO2.out.trans ss
  clear bb ss hU ra rb cc cd fc
  have LV3 : Hid ((((v.set a n1).set d n2).set c n3).length = 16) := by rw [List.length_set]; exact LV2.out
  have Ea3 : Hid (wat (((v.set a n1).set d n2).set c n3) a = n1) := by rw [wat_ne _ _ _ _ NE.out.1.2.1.symm, Ea2.out]; exact rfl
  have Eb3 : Hid (wat (((v.set a n1).set d n2).set c n3) b = B) := by rw [wat_ne _ _ _ _ NE.out.2.1.symm, Eb2.out]; exact rfl
  have Ec3 : Hid (wat (((v.set a n1).set d n2).set c n3) c = n3) := wat_set _ _ _ (by rw [LV2.out]; exact lc)
  have Ed3 : Hid (wat (((v.set a n1).set d n2).set c n3) d = n2) := by rw [wat_ne _ _ _ _ NE.out.2.2.2, Ed2.out]; exact rfl
  -- step 4
  have cb := u32s_at B3.out (i := b) (by rw [LV3.out]; exact lb)
  rw [Eb3.out] at cb
  have cc := u32s_at B3.out (i := c) (by rw [LV3.out]; exact lc)
  rw [Ec3.out] at cc
  have fb := B3.out.free b
  obtain ⟨m4, fm⟩ : ∃ x : W32, B ^^^ n3 = x := ⟨_, rfl⟩
  obtain ⟨n4, e4⟩ : ∃ x : W32, ror m4 12 = x := ⟨_, rfl⟩
  have rx := bits_xor32 B n3
  rw [fm] at rx
  have rr := rotr12 m4
  rw [e4] at rr
  have RR := Lib.hid rr
  have EM4 := Lib.hid fm
  have EE4 := Lib.hid e4
  clear fm e4 rr
  refine wpS_start (fun W => Sole N U3 W) 11 (by kernel_rfl) rfl (fun RG HR => ?_)
  have hS0 : Sole N U3 U3.drew := (Sole.refl _ _).drew
  refine wpS_take HR (i := 0) rfl (by decide +kernel) (by decide +kernel) (by decide +kernel) (fun _ _ _ h => h) (by rfl) hS0 (fun W hW => by rfl) ?_
  go_simp
  refine wpS_take HR (i := 1) rfl (by decide +kernel) (by decide +kernel) (by decide +kernel) (fun _ _ _ h => h) (by rfl) hS0 (fun W hW => by rfl) ?_
  go_simp
  refine wpS_take HR (i := 2) (v := .pointer (some ⟨N, b, none⟩)) rfl (by decide +kernel) (by decide +kernel) (by decide +kernel) (fun _ _ _ h => h) (by rfl) hS0 (fun W hW => by go_simp) ?_
  go_simp
  refine wpS_take HR (i := 4) rfl (by decide +kernel) (by decide +kernel) (by decide +kernel) (fun _ _ _ h => h) (by rfl) hS0 (fun W hW => by rfl) ?_
  go_simp
  refine wpS_take HR (i := 5) (v := .pointer (some ⟨N, c, none⟩)) rfl (by decide +kernel) (by decide +kernel) (by decide +kernel) (fun _ _ _ h => h) (by rfl) hS0 (fun W hW => by go_simp) ?_
  go_simp
  refine wpS_reads HR (i := 3) (k := 6) (v1 := .int .u32 (B.toNat : Int)) (v2 := .int .u32 (n3.toNat : Int)) rfl rfl (by decide +kernel) (by decide +kernel) (by decide +kernel) (by rfl) (by rfl) (by rfl) (by rfl) hS0 (by go_simp) (by go_simp) (by go_simp) (by go_simp) (by rfl) (by rfl) ?_
  go_simp
  refine wpS_take HR (i := 7) (v := .int .u32 (m4.toNat : Int)) rfl (by decide +kernel) (by decide +kernel) (by decide +kernel) (fun _ _ _ h => h) (by rfl) hS0 (fun W hW => by go_simp) ?_
  go_simp
  refine wpS_call HR (i := 8) rfl (by decide +kernel) (by rfl) (by go_simp; exact ⟨rfl, rfl⟩) ?_
  refine (RR.out _).mono ?_; rintro e X4 ⟨rfl, hs8, hh8⟩; refine ⟨_, rfl, hS0.heap hs8 hh8, ?_⟩
  have hS8 : Sole N U3 X4 := hS0.heap hs8 hh8
  have BT : Hid (Blk X4 N 71 (u32s (((v.set a n1).set d n2).set c n3))) := Blk.heap (w := U3.drew) B3.out hh8
  have gb := BT.out.free b
  have hb := u32s_at BT.out (i := b) (by rw [LV3.out]; exact lb)
  rw [Eb3.out] at hb
  clear hs8 hh8
  go_simp
  refine wpS_take HR (i := 9) (v := .pointer (some ⟨N, b, none⟩)) rfl (by decide +kernel) (by decide +kernel) (by decide +kernel) (fun _ _ _ h => h) (by rfl) hS8 (fun W hW => by go_simp) ?_
  go_simp
  refine wpS_one HR (i := 10) rfl (by decide +kernel) rfl ?_
  intro K hK; refine wpList_plain rfl (fun K' hK' => ?_); go_simp; refine hK' _ _ (wpList_nil (hK _ _ (hS8.setCell b _) ?_)); clear hK K hK' K'
  refine wpS_done HR (by decide +kernel) ?_
  clear HR RG
  go_upto_region 9 with (fail)
  obtain ⟨U4, hU⟩ : ∃ x, x = X4.setCell ⟨N, b, none⟩ (.int .u32 (n4.toNat : Int)) := ⟨_, rfl⟩
  rw [← hU]
  obtain ⟨bb, ss⟩ := mix_step2 BT.out hU
  have B4 := Lib.hid bb
  have SO4 : Hid (Sole N W0 U4) := (SO3.out.trans hS8).trans ss
  clear bb ss hU hS0 hS8 BT RR rx cb cc fb gb hb
  have LV4 : Hid (((((v.set a n1).set d n2).set c n3).set b n4).length = 16) := by rw [List.length_set]; exact LV3.out
  have Ea4 : Hid (wat ((((v.set a n1).set d n2).set c n3).set b n4) a = n1) := by rw [wat_ne _ _ _ _ NE.out.1.1.symm, Ea3.out]; exact rfl
  have Eb4 : Hid (wat ((((v.set a n1).set d n2).set c n3).set b n4) b = n4) := wat_set _ _ _ (by rw [LV3.out]; exact lb)
  have Ec4 : Hid (wat ((((v.set a n1).set d n2).set c n3).set b n4) c = n3) := by rw [wat_ne _ _ _ _ NE.out.2.1, Ec3.out]; exact rfl
  have Ed4 : Hid (wat ((((v.set a n1).set d n2).set c n3).set b n4) d = n2) := by rw [wat_ne _ _ _ _ NE.out.2.2.1, Ed3.out]; exact rfl
  -- step 5
  have ca := u32s_at B4.out (i := a) (by rw [LV4.out]; exact la)
  rw [Ea4.out] at ca
  have cb := u32s_at B4.out (i := b) (by rw [LV4.out]; exact lb)
  rw [Eb4.out] at cb
  have fa := B4.out.free a
  obtain ⟨p5, q5⟩ : ∃ x : W32, n1 + n4 = x := ⟨_, rfl⟩
  obtain ⟨n5, e5⟩ : ∃ x : W32, p5 + Y = x := ⟨_, rfl⟩
  have R5 := addw n1 n4
  rw [q5] at R5
  have T5 := addw p5 Y
  rw [e5] at T5
  obtain ⟨ra, rb⟩ := R5
  obtain ⟨rc, rd⟩ := T5
  have EE5 : Hid (n1 + (n4 + Y) = n5) := by rw [← BitVec.add_assoc, q5, e5]; exact rfl
  clear q5 e5
  go_still_tail 11, (by kernel_rfl)
  change wpList _ _ _ _ _ U4.drew
  go_upto_region 10 with (fail)
  obtain ⟨U5, hU⟩ : ∃ x, x = (U4.setCell ⟨N, a, none⟩ (.int .u32 (n5.toNat : Int))).drew := ⟨_, rfl⟩
  rw [← hU]
  obtain ⟨bb, ss⟩ := mix_step B4.out hU
  have B5 := Lib.hid bb
  have SO5 : Hid (Sole N W0 U5) := SO4.out.trans ss
  clear bb ss hU ra rb rc rd ca cb fa
  have LV5 : Hid ((((((v.set a n1).set d n2).set c n3).set b n4).set a n5).length = 16) := by rw [List.length_set]; exact LV4.out
  have Ea5 : Hid (wat (((((v.set a n1).set d n2).set c n3).set b n4).set a n5) a = n5) := wat_set _ _ _ (by rw [LV4.out]; exact la)
  have Eb5 : Hid (wat (((((v.set a n1).set d n2).set c n3).set b n4).set a n5) b = n4) := by rw [wat_ne _ _ _ _ NE.out.1.1, Eb4.out]; exact rfl
  have Ec5 : Hid (wat (((((v.set a n1).set d n2).set c n3).set b n4).set a n5) c = n3) := by rw [wat_ne _ _ _ _ NE.out.1.2.1, Ec4.out]; exact rfl
  have Ed5 : Hid (wat (((((v.set a n1).set d n2).set c n3).set b n4).set a n5) d = n2) := by rw [wat_ne _ _ _ _ NE.out.1.2.2, Ed4.out]; exact rfl
  -- step 6
  have ca := u32s_at B5.out (i := a) (by rw [LV5.out]; exact la)
  rw [Ea5.out] at ca
  have cd := u32s_at B5.out (i := d) (by rw [LV5.out]; exact ld)
  rw [Ed5.out] at cd
  have fd := B5.out.free d
  obtain ⟨m6, fm⟩ : ∃ x : W32, n2 ^^^ n5 = x := ⟨_, rfl⟩
  obtain ⟨n6, e6⟩ : ∃ x : W32, ror m6 8 = x := ⟨_, rfl⟩
  have rx := bits_xor32 n2 n5
  rw [fm] at rx
  have rr := rotr8 m6
  rw [e6] at rr
  have RR := Lib.hid rr
  have EM6 := Lib.hid fm
  have EE6 := Lib.hid e6
  clear fm e6 rr
  refine wpS_start (fun W => Sole N U5 W) 11 (by kernel_rfl) rfl (fun RG HR => ?_)
  have hS0 : Sole N U5 U5.drew := (Sole.refl _ _).drew
  refine wpS_take HR (i := 0) rfl (by decide +kernel) (by decide +kernel) (by decide +kernel) (fun _ _ _ h => h) (by rfl) hS0 (fun W hW => by rfl) ?_
  go_simp
  refine wpS_take HR (i := 1) rfl (by decide +kernel) (by decide +kernel) (by decide +kernel) (fun _ _ _ h => h) (by rfl) hS0 (fun W hW => by rfl) ?_
  go_simp
  refine wpS_take HR (i := 2) (v := .pointer (some ⟨N, d, none⟩)) rfl (by decide +kernel) (by decide +kernel) (by decide +kernel) (fun _ _ _ h => h) (by rfl) hS0 (fun W hW => by go_simp) ?_
  go_simp
  refine wpS_take HR (i := 4) rfl (by decide +kernel) (by decide +kernel) (by decide +kernel) (fun _ _ _ h => h) (by rfl) hS0 (fun W hW => by rfl) ?_
  go_simp
  refine wpS_take HR (i := 5) (v := .pointer (some ⟨N, a, none⟩)) rfl (by decide +kernel) (by decide +kernel) (by decide +kernel) (fun _ _ _ h => h) (by rfl) hS0 (fun W hW => by go_simp) ?_
  go_simp
  refine wpS_reads HR (i := 3) (k := 6) (v1 := .int .u32 (n2.toNat : Int)) (v2 := .int .u32 (n5.toNat : Int)) rfl rfl (by decide +kernel) (by decide +kernel) (by decide +kernel) (by rfl) (by rfl) (by rfl) (by rfl) hS0 (by go_simp) (by go_simp) (by go_simp) (by go_simp) (by rfl) (by rfl) ?_
  go_simp
  refine wpS_take HR (i := 7) (v := .int .u32 (m6.toNat : Int)) rfl (by decide +kernel) (by decide +kernel) (by decide +kernel) (fun _ _ _ h => h) (by rfl) hS0 (fun W hW => by go_simp) ?_
  go_simp
  refine wpS_call HR (i := 8) rfl (by decide +kernel) (by rfl) (by go_simp; exact ⟨rfl, rfl⟩) ?_
  refine (RR.out _).mono ?_; rintro e X6 ⟨rfl, hs8, hh8⟩; refine ⟨_, rfl, hS0.heap hs8 hh8, ?_⟩
  have hS8 : Sole N U5 X6 := hS0.heap hs8 hh8
  have BT : Hid (Blk X6 N 71 (u32s (((((v.set a n1).set d n2).set c n3).set b n4).set a n5))) := Blk.heap (w := U5.drew) B5.out hh8
  have gd := BT.out.free d
  have hd := u32s_at BT.out (i := d) (by rw [LV5.out]; exact ld)
  rw [Ed5.out] at hd
  clear hs8 hh8
  go_simp
  refine wpS_take HR (i := 9) (v := .pointer (some ⟨N, d, none⟩)) rfl (by decide +kernel) (by decide +kernel) (by decide +kernel) (fun _ _ _ h => h) (by rfl) hS8 (fun W hW => by go_simp) ?_
  go_simp
  refine wpS_one HR (i := 10) rfl (by decide +kernel) rfl ?_
  intro K hK; refine wpList_plain rfl (fun K' hK' => ?_); go_simp; refine hK' _ _ (wpList_nil (hK _ _ (hS8.setCell d _) ?_)); clear hK K hK' K'
  refine wpS_done HR (by decide +kernel) ?_
  clear HR RG
  go_upto_region 11 with (fail)
  obtain ⟨U6, hU⟩ : ∃ x, x = X6.setCell ⟨N, d, none⟩ (.int .u32 (n6.toNat : Int)) := ⟨_, rfl⟩
  rw [← hU]
  obtain ⟨bb, ss⟩ := mix_step2 BT.out hU
  have B6 := Lib.hid bb
  have SO6 : Hid (Sole N W0 U6) := (SO5.out.trans hS8).trans ss
  clear bb ss hU hS0 hS8 BT RR rx ca cd fd gd hd
  have LV6 : Hid (((((((v.set a n1).set d n2).set c n3).set b n4).set a n5).set d n6).length = 16) := by rw [List.length_set]; exact LV5.out
  have Ea6 : Hid (wat ((((((v.set a n1).set d n2).set c n3).set b n4).set a n5).set d n6) a = n5) := by rw [wat_ne _ _ _ _ NE.out.1.2.2.symm, Ea5.out]; exact rfl
  have Eb6 : Hid (wat ((((((v.set a n1).set d n2).set c n3).set b n4).set a n5).set d n6) b = n4) := by rw [wat_ne _ _ _ _ NE.out.2.2.1.symm, Eb5.out]; exact rfl
  have Ec6 : Hid (wat ((((((v.set a n1).set d n2).set c n3).set b n4).set a n5).set d n6) c = n3) := by rw [wat_ne _ _ _ _ NE.out.2.2.2.symm, Ec5.out]; exact rfl
  have Ed6 : Hid (wat ((((((v.set a n1).set d n2).set c n3).set b n4).set a n5).set d n6) d = n6) := wat_set _ _ _ (by rw [LV5.out]; exact ld)
  -- step 7
  have cc := u32s_at B6.out (i := c) (by rw [LV6.out]; exact lc)
  rw [Ec6.out] at cc
  have cd := u32s_at B6.out (i := d) (by rw [LV6.out]; exact ld)
  rw [Ed6.out] at cd
  have fc := B6.out.free c
  obtain ⟨n7, e7⟩ : ∃ x : W32, n3 + n6 = x := ⟨_, rfl⟩
  have R7 := addw n3 n6
  rw [e7] at R7
  obtain ⟨ra, rb⟩ := R7
  have EE7 := Lib.hid e7
  clear e7
  go_still_tail 9, (by kernel_rfl)
  change wpList _ _ _ _ _ U6.drew
  go_upto_region 12 with (fail)
  obtain ⟨U7, hU⟩ : ∃ x, x = (U6.setCell ⟨N, c, none⟩ (.int .u32 (n7.toNat : Int))).drew := ⟨_, rfl⟩
  rw [← hU]
  obtain ⟨bb, ss⟩ := mix_step B6.out hU
  have B7 := Lib.hid bb
  have SO7 : Hid (Sole N W0 U7) := SO6.out.trans ss
  clear bb ss hU ra rb cc cd fc
  have LV7 : Hid ((((((((v.set a n1).set d n2).set c n3).set b n4).set a n5).set d n6).set c n7).length = 16) := by rw [List.length_set]; exact LV6.out
  have Ea7 : Hid (wat (((((((v.set a n1).set d n2).set c n3).set b n4).set a n5).set d n6).set c n7) a = n5) := by rw [wat_ne _ _ _ _ NE.out.1.2.1.symm, Ea6.out]; exact rfl
  have Eb7 : Hid (wat (((((((v.set a n1).set d n2).set c n3).set b n4).set a n5).set d n6).set c n7) b = n4) := by rw [wat_ne _ _ _ _ NE.out.2.1.symm, Eb6.out]; exact rfl
  have Ec7 : Hid (wat (((((((v.set a n1).set d n2).set c n3).set b n4).set a n5).set d n6).set c n7) c = n7) := wat_set _ _ _ (by rw [LV6.out]; exact lc)
  have Ed7 : Hid (wat (((((((v.set a n1).set d n2).set c n3).set b n4).set a n5).set d n6).set c n7) d = n6) := by rw [wat_ne _ _ _ _ NE.out.2.2.2, Ed6.out]; exact rfl
  -- step 8
  have cb := u32s_at B7.out (i := b) (by rw [LV7.out]; exact lb)
  rw [Eb7.out] at cb
  have cc := u32s_at B7.out (i := c) (by rw [LV7.out]; exact lc)
  rw [Ec7.out] at cc
  have fb := B7.out.free b
  obtain ⟨m8, fm⟩ : ∃ x : W32, n4 ^^^ n7 = x := ⟨_, rfl⟩
  obtain ⟨n8, e8⟩ : ∃ x : W32, ror m8 7 = x := ⟨_, rfl⟩
  have rx := bits_xor32 n4 n7
  rw [fm] at rx
  have rr := rotr7 m8
  rw [e8] at rr
  have RR := Lib.hid rr
  have EM8 := Lib.hid fm
  have EE8 := Lib.hid e8
  clear fm e8 rr
  refine wpS_start (fun W => Sole N U7 W) 11 (by kernel_rfl) rfl (fun RG HR => ?_)
  have hS0 : Sole N U7 U7.drew := (Sole.refl _ _).drew
  refine wpS_take HR (i := 0) rfl (by decide +kernel) (by decide +kernel) (by decide +kernel) (fun _ _ _ h => h) (by rfl) hS0 (fun W hW => by rfl) ?_
  go_simp
  refine wpS_take HR (i := 1) rfl (by decide +kernel) (by decide +kernel) (by decide +kernel) (fun _ _ _ h => h) (by rfl) hS0 (fun W hW => by rfl) ?_
  go_simp
  refine wpS_take HR (i := 2) (v := .pointer (some ⟨N, b, none⟩)) rfl (by decide +kernel) (by decide +kernel) (by decide +kernel) (fun _ _ _ h => h) (by rfl) hS0 (fun W hW => by go_simp) ?_
  go_simp
  refine wpS_take HR (i := 4) rfl (by decide +kernel) (by decide +kernel) (by decide +kernel) (fun _ _ _ h => h) (by rfl) hS0 (fun W hW => by rfl) ?_
  go_simp
  refine wpS_take HR (i := 5) (v := .pointer (some ⟨N, c, none⟩)) rfl (by decide +kernel) (by decide +kernel) (by decide +kernel) (fun _ _ _ h => h) (by rfl) hS0 (fun W hW => by go_simp) ?_
  go_simp
  refine wpS_reads HR (i := 3) (k := 6) (v1 := .int .u32 (n4.toNat : Int)) (v2 := .int .u32 (n7.toNat : Int)) rfl rfl (by decide +kernel) (by decide +kernel) (by decide +kernel) (by rfl) (by rfl) (by rfl) (by rfl) hS0 (by go_simp) (by go_simp) (by go_simp) (by go_simp) (by rfl) (by rfl) ?_
  go_simp
  refine wpS_take HR (i := 7) (v := .int .u32 (m8.toNat : Int)) rfl (by decide +kernel) (by decide +kernel) (by decide +kernel) (fun _ _ _ h => h) (by rfl) hS0 (fun W hW => by go_simp) ?_
  go_simp
  refine wpS_call HR (i := 8) rfl (by decide +kernel) (by rfl) (by go_simp; exact ⟨rfl, rfl⟩) ?_
  refine (RR.out _).mono ?_; rintro e X8 ⟨rfl, hs8, hh8⟩; refine ⟨_, rfl, hS0.heap hs8 hh8, ?_⟩
  have hS8 : Sole N U7 X8 := hS0.heap hs8 hh8
  have BT : Hid (Blk X8 N 71 (u32s (((((((v.set a n1).set d n2).set c n3).set b n4).set a n5).set d n6).set c n7))) := Blk.heap (w := U7.drew) B7.out hh8
  have gb := BT.out.free b
  have hb := u32s_at BT.out (i := b) (by rw [LV7.out]; exact lb)
  rw [Eb7.out] at hb
  clear hs8 hh8
  go_simp
  refine wpS_take HR (i := 9) (v := .pointer (some ⟨N, b, none⟩)) rfl (by decide +kernel) (by decide +kernel) (by decide +kernel) (fun _ _ _ h => h) (by rfl) hS8 (fun W hW => by go_simp) ?_
  go_simp
  refine wpS_one HR (i := 10) rfl (by decide +kernel) rfl ?_
  intro K hK; refine wpList_plain rfl (fun K' hK' => ?_); go_simp; refine hK' _ _ (wpList_nil (hK _ _ (hS8.setCell b _) ?_)); clear hK K hK' K'
  refine wpS_done HR (by decide +kernel) ?_
  clear HR RG
  go_upto_region 13 with (fail)
  obtain ⟨U8, hU⟩ : ∃ x, x = X8.setCell ⟨N, b, none⟩ (.int .u32 (n8.toNat : Int)) := ⟨_, rfl⟩
  rw [← hU]
  obtain ⟨bb, ss⟩ := mix_step2 BT.out hU
  have B8 := Lib.hid bb
  have SO8 : Hid (Sole N W0 U8) := (SO7.out.trans hS8).trans ss
  clear bb ss hU hS0 hS8 BT RR rx cb cc fb gb hb
  have LV8 : Hid (((((((((v.set a n1).set d n2).set c n3).set b n4).set a n5).set d n6).set c n7).set b n8).length = 16) := by rw [List.length_set]; exact LV7.out
  have Ea8 : Hid (wat ((((((((v.set a n1).set d n2).set c n3).set b n4).set a n5).set d n6).set c n7).set b n8) a = n5) := by rw [wat_ne _ _ _ _ NE.out.1.1.symm, Ea7.out]; exact rfl
  have Eb8 : Hid (wat ((((((((v.set a n1).set d n2).set c n3).set b n4).set a n5).set d n6).set c n7).set b n8) b = n8) := wat_set _ _ _ (by rw [LV7.out]; exact lb)
  have Ec8 : Hid (wat ((((((((v.set a n1).set d n2).set c n3).set b n4).set a n5).set d n6).set c n7).set b n8) c = n7) := by rw [wat_ne _ _ _ _ NE.out.2.1, Ec7.out]; exact rfl
  have Ed8 : Hid (wat ((((((((v.set a n1).set d n2).set c n3).set b n4).set a n5).set d n6).set c n7).set b n8) d = n6) := by rw [wat_ne _ _ _ _ NE.out.2.2.1, Ed7.out]; exact rfl
  have hm : mixL v a b c d X Y = ((((((((v.set a n1).set d n2).set c n3).set b n4).set a n5).set d n6).set c n7).set b n8) := by
    have e1 := EE1.out
    have e2 := EE2.out
    have f2 := EM2.out
    have e3 := EE3.out
    have e4 := EE4.out
    have f4 := EM4.out
    have e5 := EE5.out
    have e6 := EE6.out
    have f6 := EM6.out
    have e7 := EE7.out
    have e8 := EE8.out
    have f8 := EM8.out
    have g1 := Ea0.out
    have g2 := Eb0.out
    have g3 := Ec0.out
    have g4 := Ed0.out
    rw [sets8 v a b c d NE.out.1.1 NE.out.1.2.1 NE.out.1.2.2 NE.out.2.1 NE.out.2.2.1 NE.out.2.2.2]
    simp only [mixL, mixA1, mixD1, mixC1, mixB1, mixA2, mixD2, mixC2, mixB2, g1, g2, g3, g4, e1, f2, e2, e3, f4, e4, e5, f6, e6, e7, f8, e8]
  have lm : (mixL v a b c d X Y).length = 16 := by rw [mixL_len, LV0.out]
  rw [← hm] at B8
  have LM := Lib.hid lm
  have BR8 : Hid (Blk U8 (N + 1) 71 (u32s zero16)) := BR0.out.sole SO8.out (by omega)
  have BEL8 : Hid (Below N w U8) := SO8.out.below BEL0.out (Nat.le_refl _)
  clear hm lm
  go_wp2_with (first | (refine ld_row rfl 71 (.tmp 4) rfl 16 60 ar71 sz71 N 71 (u32s (mixL v a b c d X Y)) rfl B8.out (by rw [u32s_len]; exact LM.out) ?_) | (refine st_row rfl 71 (.tmp 8) (.tmp 109) rfl 16 sz71 (N + 1) 71 (u32s zero16) (u32s (mixL v a b c d X Y)) rfl rfl BR8.out (by rw [u32s_len]; exact LM.out) (by rfl) (u32s_one _) ?_; intro w9 hg9 hs9; have HG := Lib.hid hg9; have HS9 := Lib.hid hs9; clear hg9 hs9))
  exact bodyPost_ret (v := .agg (u32s (mixL v a b c d X Y)).toArray) (results_cell_row Tryd.results47 _ _ (N + 1) 71 _ (0, 0) (.array 16 60) rfl HG.out ar71 rfl (by rw [sz71]; simp [u32s_len, LM.out])) rfl ⟨rfl, by rw [hN]; exact HS9.out.below BEL8.out (by omega)⟩
end Go.Proofs.YtcnnijhfliahgaaDoor
