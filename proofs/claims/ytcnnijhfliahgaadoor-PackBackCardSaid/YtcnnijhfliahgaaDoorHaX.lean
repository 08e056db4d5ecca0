/- The walk of hash.mix (45). -/
import Derived.Test.YtcnnijhfliahgaaDoorHaR
import Derived.StillTailTactics
import Derived.Lib.Hide
namespace Go.Proofs.YtcnnijhfliahgaaDoor
open Go.RowKit
set_option linter.unusedVariables false

/-- All but block g lies as it lay. -/
structure Sole (g : Nat) (w w' : World) : Prop where
  os : w'.os = w.os
  tape : w'.tape = w.tape
  output : w'.output = w.output
  size : w'.heap.size = w.heap.size
  block : ∀ k, k ≠ g → w'.heap[k]? = w.heap[k]?
theorem Sole.refl (g : Nat) (w : World) : Sole g w w := ⟨rfl, rfl, rfl, rfl, fun _ _ => rfl⟩
theorem Sole.drew {g : Nat} {a w : World} (h : Sole g a w) : Sole g a w.drew := ⟨h.os, h.tape, h.output, h.size, h.block⟩
theorem Sole.trans {g : Nat} {a b c : World} (h : Sole g a b) (k : Sole g b c) : Sole g a c :=
  ⟨k.os.trans h.os, k.tape.trans h.tape, k.output.trans h.output, k.size.trans h.size, fun i hi => (k.block i hi).trans (h.block i hi)⟩
theorem Sole.setCell {g : Nat} {a w : World} (h : Sole g a w) (i : Nat) (u : Value) : Sole g a (w.setCell ⟨g, i, none⟩ u) :=
  h.trans ⟨rfl, rfl, rfl, by simp [World.setCell], fun k hk => Below.heap_setCell w ⟨g, i, none⟩ u k hk⟩
theorem Sole.below {g B : Nat} {w0 w w' : World} (h : Sole g w w') (hb : Below B w0 w) (hg : B ≤ g) : Below B w0 w' :=
  hb.trans ⟨h.os, h.tape, h.output, Nat.le_of_eq h.size.symm, fun k hk => h.block k (by omega)⟩
theorem Blk.sole {w w' : World} {g k : Nat} {t : TypeId} {cs : List Value} (h : Blk w k t cs) (hs : Sole g w w') (hk : k ≠ g) : Blk w' k t cs := (hs.block k hk).trans h

def u32s (v : List W32) : List Value := v.map fun x => .int .u32 (x.toNat : Int)

theorem u32s_len (v : List W32) : (u32s v).length = v.length := by simp [u32s]
theorem u32s_set (v : List W32) (i : Nat) (x : W32) : (u32s v).set i (.int .u32 (x.toNat : Int)) = u32s (v.set i x) := by simp [u32s, List.map_set]
theorem u32s_at {w : World} {g : Nat} {t : TypeId} {v : List W32} (h : Blk w g t (u32s v)) {i : Nat} (hi : i < v.length) : w.cell? ⟨g, i, none⟩ = some (.int .u32 ((wat v i).toNat : Int)) := by
  rw [h.at_]
  simp [u32s, wat, hi]
theorem addw (a b : W32) : IntKind.u32.wrap ((a.toNat : Int) + (b.toNat : Int)) = ((a + b).toNat : Int) ∧ ((a.toNat : Int) + (b.toNat : Int)) % 4294967296 = ((a + b).toNat : Int) := ⟨by rw [IntKind.wrap_u32', add_bv], add_bv a b⟩
theorem wat_set (v : List W32) (i : Nat) (x : W32) (hi : i < v.length) : wat (v.set i x) i = x := by simp [wat, hi]
theorem wat_ne (v : List W32) (i j : Nat) (x : W32) (hij : i ≠ j) : wat (v.set i x) j = wat v j := by simp [wat, hij]
theorem mix_step {w w1 : World} {g p : Nat} {t : TypeId} {v : List W32} {x : W32} (hb : Blk w g t (u32s v)) (h : w1 = (w.setCell ⟨g, p, none⟩ (.int .u32 (x.toNat : Int))).drew) : Blk w1 g t (u32s (v.set p x)) ∧ Sole g w w1 := by
  subst h
  refine ⟨?_, ((Sole.refl g w).setCell p _).drew⟩
  rw [← u32s_set]
  exact hb.store p _
theorem sets8 (v : List W32) (a b c d : Nat) (ab : a ≠ b) (ac : a ≠ c) (ad : a ≠ d) (bc : b ≠ c) (bd : b ≠ d) (cd : c ≠ d) (n1 n2 n3 n4 n5 n6 n7 n8 : W32) :
    (((((((v.set a n1).set d n2).set c n3).set b n4).set a n5).set d n6).set c n7).set b n8 = (((v.set a n5).set b n8).set c n7).set d n6 := by
  apply List.ext_getElem?
  intro i
  simp only [List.getElem?_set, List.length_set]
  by_cases h1 : b = i <;> by_cases h2 : c = i <;> by_cases h3 : d = i <;> by_cases h4 : a = i <;> simp_all
set_option maxHeartbeats 4000000 in
set_option maxRecDepth 100000 in
theorem mix_walk (g a b c d : Nat) (v : List W32) (X Y : W32) (w : World) (b0 : Blk w g 71 (u32s v)) (hl : v.length = 16)
    (la : a < 16) (lb : b < 16) (lc : c < 16) (ld : d < 16) (ab : a ≠ b) (ac : a ≠ c) (ad : a ≠ d) (bc : b ≠ c) (bd : b ≠ d) (cd : c ≠ d) :
    Calls Tryd.prog 45 #[.pointer (some ⟨g, 0, none⟩), .int .i64 (a : Int), .int .i64 (b : Int), .int .i64 (c : Int), .int .i64 (d : Int), .int .u32 (X.toNat : Int), .int .u32 (Y.toNat : Int)] w
      fun e w' => e = .returned (.tuple #[]) ∧ ∃ w8, w' = w8 ∧ Blk w8 g 71 (u32s (mixL v a b c d X Y)) ∧ Sole g w w8 := by
  have za : (0 : Int) ≤ (a : Int) := by omega
  have zb : (0 : Int) ≤ (b : Int) := by omega
  have zc : (0 : Int) ≤ (c : Int) := by omega
  have zd : (0 : Int) ≤ (d : Int) := by omega
  have ua : (a : Int) < 16 := by omega
  have ub : (b : Int) < 16 := by omega
  have uc : (c : Int) < 16 := by omega
  have ud : (d : Int) < 16 := by omega
  have ea : wat v a = wat v a := rfl
  obtain ⟨A, eA⟩ : ∃ A, wat v a = A := ⟨_, rfl⟩
  obtain ⟨B, eB⟩ : ∃ B, wat v b = B := ⟨_, rfl⟩
  obtain ⟨C, eC⟩ : ∃ C, wat v c = C := ⟨_, rfl⟩
  obtain ⟨D, eD⟩ : ∃ D, wat v d = D := ⟨_, rfl⟩
  clear ea
  have Ea0 : wat v a = A := eA
  have Eb0 : wat v b = B := eB
  have Ec0 : wat v c = C := eC
  have Ed0 : wat v d = D := eD
  have hA0 := u32s_at b0 (i := a) (by simp [hl, la])
  have hB0 := u32s_at b0 (i := b) (by simp [hl, lb])
  have hC0 := u32s_at b0 (i := c) (by simp [hl, lc])
  have hD0 := u32s_at b0 (i := d) (by simp [hl, ld])
  have fA0 := b0.free a
  have fB0 := b0.free b
  have fC0 := b0.free c
  have fD0 := b0.free d
  rw [eA] at hA0
  rw [eB] at hB0
  rw [eC] at hC0
  rw [eD] at hD0
  obtain ⟨n1, e1⟩ : ∃ x : W32, A + (B + X) = x := ⟨_, rfl⟩
  obtain ⟨p1, q1⟩ : ∃ x : W32, B + X = x := ⟨_, rfl⟩
  have R1 : Hid ((IntKind.u32.wrap ((B.toNat : Int) + (X.toNat : Int)) = (p1.toNat : Int) ∧ ((B.toNat : Int) + (X.toNat : Int)) % 4294967296 = (p1.toNat : Int)) ∧ (IntKind.u32.wrap ((A.toNat : Int) + (p1.toNat : Int)) = (n1.toNat : Int) ∧ ((A.toNat : Int) + (p1.toNat : Int)) % 4294967296 = (n1.toNat : Int))) := by rw [← e1, ← q1]; exact ⟨addw _ _, addw _ _⟩
  clear q1
  obtain ⟨w1, h1⟩ : ∃ x, x = (w.setCell ⟨g, a, none⟩ (.int .u32 (n1.toNat : Int))).drew := ⟨_, rfl⟩
  obtain ⟨b1, s1⟩ := mix_step b0 h1
  have hA1 := u32s_at b1 (i := a) (by simp [hl, la])
  have hB1 := u32s_at b1 (i := b) (by simp [hl, lb])
  have hC1 := u32s_at b1 (i := c) (by simp [hl, lc])
  have hD1 := u32s_at b1 (i := d) (by simp [hl, ld])
  have fA1 := b1.free a
  have fB1 := b1.free b
  have fC1 := b1.free c
  have fD1 := b1.free d
  rw [wat_set _ _ _ (by simp [hl, la])] at hA1
  rw [wat_ne _ _ _ _ ab, Eb0] at hB1
  have Eb1 : wat (v.set a n1) b = B := by rw [wat_ne _ _ _ _ ab, Eb0]
  rw [wat_ne _ _ _ _ ac, Ec0] at hC1
  have Ec1 : wat (v.set a n1) c = C := by rw [wat_ne _ _ _ _ ac, Ec0]
  rw [wat_ne _ _ _ _ ad, Ed0] at hD1
  have Ed1 : wat (v.set a n1) d = D := by rw [wat_ne _ _ _ _ ad, Ed0]
  have Ea1 : wat (v.set a n1) a = n1 := wat_set _ _ _ (by simp [hl, la])
  obtain ⟨m2, f2⟩ : ∃ x : W32, D ^^^ n1 = x := ⟨_, rfl⟩
  obtain ⟨n2, e2⟩ : ∃ x : W32, ror m2 16 = x := ⟨_, rfl⟩
  have R2 : Hid (bits .xor .u32 (D.toNat : Int) (n1.toNat : Int) = (m2.toNat : Int)) := by rw [bits_xor32, f2]; exact rfl
  obtain ⟨w2, h2⟩ : ∃ x, x = (w1.setCell ⟨g, d, none⟩ (.int .u32 (n2.toNat : Int))).drew := ⟨_, rfl⟩
  obtain ⟨b2, s2⟩ := mix_step b1 h2
  have hA2 := u32s_at b2 (i := a) (by simp [hl, la])
  have hB2 := u32s_at b2 (i := b) (by simp [hl, lb])
  have hC2 := u32s_at b2 (i := c) (by simp [hl, lc])
  have hD2 := u32s_at b2 (i := d) (by simp [hl, ld])
  have fA2 := b2.free a
  have fB2 := b2.free b
  have fC2 := b2.free c
  have fD2 := b2.free d
  rw [wat_ne _ _ _ _ ad.symm, Ea1] at hA2
  have Ea2 : wat ((v.set a n1).set d n2) a = n1 := by rw [wat_ne _ _ _ _ ad.symm, Ea1]
  rw [wat_ne _ _ _ _ bd.symm, Eb1] at hB2
  have Eb2 : wat ((v.set a n1).set d n2) b = B := by rw [wat_ne _ _ _ _ bd.symm, Eb1]
  rw [wat_ne _ _ _ _ cd.symm, Ec1] at hC2
  have Ec2 : wat ((v.set a n1).set d n2) c = C := by rw [wat_ne _ _ _ _ cd.symm, Ec1]
  rw [wat_set _ _ _ (by simp [hl, ld])] at hD2
  have Ed2 : wat ((v.set a n1).set d n2) d = n2 := wat_set _ _ _ (by simp [hl, ld])
  obtain ⟨n3, e3⟩ : ∃ x : W32, C + n2 = x := ⟨_, rfl⟩
  have R3 : Hid (IntKind.u32.wrap ((C.toNat : Int) + (n2.toNat : Int)) = (n3.toNat : Int) ∧ ((C.toNat : Int) + (n2.toNat : Int)) % 4294967296 = (n3.toNat : Int)) := by rw [← e3]; exact addw _ _
  obtain ⟨w3, h3⟩ : ∃ x, x = (w2.setCell ⟨g, c, none⟩ (.int .u32 (n3.toNat : Int))).drew := ⟨_, rfl⟩
  obtain ⟨b3, s3⟩ := mix_step b2 h3
  have hA3 := u32s_at b3 (i := a) (by simp [hl, la])
  have hB3 := u32s_at b3 (i := b) (by simp [hl, lb])
  have hC3 := u32s_at b3 (i := c) (by simp [hl, lc])
  have hD3 := u32s_at b3 (i := d) (by simp [hl, ld])
  have fA3 := b3.free a
  have fB3 := b3.free b
  have fC3 := b3.free c
  have fD3 := b3.free d
  rw [wat_ne _ _ _ _ ac.symm, Ea2] at hA3
  have Ea3 : wat (((v.set a n1).set d n2).set c n3) a = n1 := by rw [wat_ne _ _ _ _ ac.symm, Ea2]
  rw [wat_ne _ _ _ _ bc.symm, Eb2] at hB3
  have Eb3 : wat (((v.set a n1).set d n2).set c n3) b = B := by rw [wat_ne _ _ _ _ bc.symm, Eb2]
  rw [wat_set _ _ _ (by simp [hl, lc])] at hC3
  rw [wat_ne _ _ _ _ cd, Ed2] at hD3
  have Ed3 : wat (((v.set a n1).set d n2).set c n3) d = n2 := by rw [wat_ne _ _ _ _ cd, Ed2]
  have Ec3 : wat (((v.set a n1).set d n2).set c n3) c = n3 := wat_set _ _ _ (by simp [hl, lc])
  obtain ⟨m4, f4⟩ : ∃ x : W32, B ^^^ n3 = x := ⟨_, rfl⟩
  obtain ⟨n4, e4⟩ : ∃ x : W32, ror m4 12 = x := ⟨_, rfl⟩
  have R4 : Hid (bits .xor .u32 (B.toNat : Int) (n3.toNat : Int) = (m4.toNat : Int)) := by rw [bits_xor32, f4]; exact rfl
  obtain ⟨w4, h4⟩ : ∃ x, x = (w3.setCell ⟨g, b, none⟩ (.int .u32 (n4.toNat : Int))).drew := ⟨_, rfl⟩
  obtain ⟨b4, s4⟩ := mix_step b3 h4
  have hA4 := u32s_at b4 (i := a) (by simp [hl, la])
  have hB4 := u32s_at b4 (i := b) (by simp [hl, lb])
  have hC4 := u32s_at b4 (i := c) (by simp [hl, lc])
  have hD4 := u32s_at b4 (i := d) (by simp [hl, ld])
  have fA4 := b4.free a
  have fB4 := b4.free b
  have fC4 := b4.free c
  have fD4 := b4.free d
  rw [wat_ne _ _ _ _ ab.symm, Ea3] at hA4
  have Ea4 : wat ((((v.set a n1).set d n2).set c n3).set b n4) a = n1 := by rw [wat_ne _ _ _ _ ab.symm, Ea3]
  rw [wat_set _ _ _ (by simp [hl, lb])] at hB4
  rw [wat_ne _ _ _ _ bc, Ec3] at hC4
  have Ec4 : wat ((((v.set a n1).set d n2).set c n3).set b n4) c = n3 := by rw [wat_ne _ _ _ _ bc, Ec3]
  rw [wat_ne _ _ _ _ bd, Ed3] at hD4
  have Ed4 : wat ((((v.set a n1).set d n2).set c n3).set b n4) d = n2 := by rw [wat_ne _ _ _ _ bd, Ed3]
  have Eb4 : wat ((((v.set a n1).set d n2).set c n3).set b n4) b = n4 := wat_set _ _ _ (by simp [hl, lb])
  obtain ⟨n5, e5⟩ : ∃ x : W32, n1 + (n4 + Y) = x := ⟨_, rfl⟩
  obtain ⟨p5, q5⟩ : ∃ x : W32, n4 + Y = x := ⟨_, rfl⟩
  have R5 : Hid ((IntKind.u32.wrap ((n4.toNat : Int) + (Y.toNat : Int)) = (p5.toNat : Int) ∧ ((n4.toNat : Int) + (Y.toNat : Int)) % 4294967296 = (p5.toNat : Int)) ∧ (IntKind.u32.wrap ((n1.toNat : Int) + (p5.toNat : Int)) = (n5.toNat : Int) ∧ ((n1.toNat : Int) + (p5.toNat : Int)) % 4294967296 = (n5.toNat : Int))) := by rw [← e5, ← q5]; exact ⟨addw _ _, addw _ _⟩
  clear q5
  obtain ⟨w5, h5⟩ : ∃ x, x = (w4.setCell ⟨g, a, none⟩ (.int .u32 (n5.toNat : Int))).drew := ⟨_, rfl⟩
  obtain ⟨b5, s5⟩ := mix_step b4 h5
  have hA5 := u32s_at b5 (i := a) (by simp [hl, la])
  have hB5 := u32s_at b5 (i := b) (by simp [hl, lb])
  have hC5 := u32s_at b5 (i := c) (by simp [hl, lc])
  have hD5 := u32s_at b5 (i := d) (by simp [hl, ld])
  have fA5 := b5.free a
  have fB5 := b5.free b
  have fC5 := b5.free c
  have fD5 := b5.free d
  rw [wat_set _ _ _ (by simp [hl, la])] at hA5
  rw [wat_ne _ _ _ _ ab, Eb4] at hB5
  have Eb5 : wat (((((v.set a n1).set d n2).set c n3).set b n4).set a n5) b = n4 := by rw [wat_ne _ _ _ _ ab, Eb4]
  rw [wat_ne _ _ _ _ ac, Ec4] at hC5
  have Ec5 : wat (((((v.set a n1).set d n2).set c n3).set b n4).set a n5) c = n3 := by rw [wat_ne _ _ _ _ ac, Ec4]
  rw [wat_ne _ _ _ _ ad, Ed4] at hD5
  have Ed5 : wat (((((v.set a n1).set d n2).set c n3).set b n4).set a n5) d = n2 := by rw [wat_ne _ _ _ _ ad, Ed4]
  have Ea5 : wat (((((v.set a n1).set d n2).set c n3).set b n4).set a n5) a = n5 := wat_set _ _ _ (by simp [hl, la])
  obtain ⟨m6, f6⟩ : ∃ x : W32, n2 ^^^ n5 = x := ⟨_, rfl⟩
  obtain ⟨n6, e6⟩ : ∃ x : W32, ror m6 8 = x := ⟨_, rfl⟩
  have R6 : Hid (bits .xor .u32 (n2.toNat : Int) (n5.toNat : Int) = (m6.toNat : Int)) := by rw [bits_xor32, f6]; exact rfl
  obtain ⟨w6, h6⟩ : ∃ x, x = (w5.setCell ⟨g, d, none⟩ (.int .u32 (n6.toNat : Int))).drew := ⟨_, rfl⟩
  obtain ⟨b6, s6⟩ := mix_step b5 h6
  have hA6 := u32s_at b6 (i := a) (by simp [hl, la])
  have hB6 := u32s_at b6 (i := b) (by simp [hl, lb])
  have hC6 := u32s_at b6 (i := c) (by simp [hl, lc])
  have hD6 := u32s_at b6 (i := d) (by simp [hl, ld])
  have fA6 := b6.free a
  have fB6 := b6.free b
  have fC6 := b6.free c
  have fD6 := b6.free d
  rw [wat_ne _ _ _ _ ad.symm, Ea5] at hA6
  have Ea6 : wat ((((((v.set a n1).set d n2).set c n3).set b n4).set a n5).set d n6) a = n5 := by rw [wat_ne _ _ _ _ ad.symm, Ea5]
  rw [wat_ne _ _ _ _ bd.symm, Eb5] at hB6
  have Eb6 : wat ((((((v.set a n1).set d n2).set c n3).set b n4).set a n5).set d n6) b = n4 := by rw [wat_ne _ _ _ _ bd.symm, Eb5]
  rw [wat_ne _ _ _ _ cd.symm, Ec5] at hC6
  have Ec6 : wat ((((((v.set a n1).set d n2).set c n3).set b n4).set a n5).set d n6) c = n3 := by rw [wat_ne _ _ _ _ cd.symm, Ec5]
  rw [wat_set _ _ _ (by simp [hl, ld])] at hD6
  have Ed6 : wat ((((((v.set a n1).set d n2).set c n3).set b n4).set a n5).set d n6) d = n6 := wat_set _ _ _ (by simp [hl, ld])
  obtain ⟨n7, e7⟩ : ∃ x : W32, n3 + n6 = x := ⟨_, rfl⟩
  have R7 : Hid (IntKind.u32.wrap ((n3.toNat : Int) + (n6.toNat : Int)) = (n7.toNat : Int) ∧ ((n3.toNat : Int) + (n6.toNat : Int)) % 4294967296 = (n7.toNat : Int)) := by rw [← e7]; exact addw _ _
  obtain ⟨w7, h7⟩ : ∃ x, x = (w6.setCell ⟨g, c, none⟩ (.int .u32 (n7.toNat : Int))).drew := ⟨_, rfl⟩
  obtain ⟨b7, s7⟩ := mix_step b6 h7
  have hA7 := u32s_at b7 (i := a) (by simp [hl, la])
  have hB7 := u32s_at b7 (i := b) (by simp [hl, lb])
  have hC7 := u32s_at b7 (i := c) (by simp [hl, lc])
  have hD7 := u32s_at b7 (i := d) (by simp [hl, ld])
  have fA7 := b7.free a
  have fB7 := b7.free b
  have fC7 := b7.free c
  have fD7 := b7.free d
  rw [wat_ne _ _ _ _ ac.symm, Ea6] at hA7
  have Ea7 : wat (((((((v.set a n1).set d n2).set c n3).set b n4).set a n5).set d n6).set c n7) a = n5 := by rw [wat_ne _ _ _ _ ac.symm, Ea6]
  rw [wat_ne _ _ _ _ bc.symm, Eb6] at hB7
  have Eb7 : wat (((((((v.set a n1).set d n2).set c n3).set b n4).set a n5).set d n6).set c n7) b = n4 := by rw [wat_ne _ _ _ _ bc.symm, Eb6]
  rw [wat_set _ _ _ (by simp [hl, lc])] at hC7
  rw [wat_ne _ _ _ _ cd, Ed6] at hD7
  have Ed7 : wat (((((((v.set a n1).set d n2).set c n3).set b n4).set a n5).set d n6).set c n7) d = n6 := by rw [wat_ne _ _ _ _ cd, Ed6]
  have Ec7 : wat (((((((v.set a n1).set d n2).set c n3).set b n4).set a n5).set d n6).set c n7) c = n7 := wat_set _ _ _ (by simp [hl, lc])
  obtain ⟨m8, f8⟩ : ∃ x : W32, n4 ^^^ n7 = x := ⟨_, rfl⟩
  obtain ⟨n8, e8⟩ : ∃ x : W32, ror m8 7 = x := ⟨_, rfl⟩
  have R8 : Hid (bits .xor .u32 (n4.toNat : Int) (n7.toNat : Int) = (m8.toNat : Int)) := by rw [bits_xor32, f8]; exact rfl
  obtain ⟨w8, h8⟩ : ∃ x, x = (w7.setCell ⟨g, b, none⟩ (.int .u32 (n8.toNat : Int))).drew := ⟨_, rfl⟩
  obtain ⟨b8, s8⟩ := mix_step b7 h8
  have hA8 := u32s_at b8 (i := a) (by simp [hl, la])
  have hB8 := u32s_at b8 (i := b) (by simp [hl, lb])
  have hC8 := u32s_at b8 (i := c) (by simp [hl, lc])
  have hD8 := u32s_at b8 (i := d) (by simp [hl, ld])
  have fA8 := b8.free a
  have fB8 := b8.free b
  have fC8 := b8.free c
  have fD8 := b8.free d
  rw [wat_ne _ _ _ _ ab.symm, Ea7] at hA8
  have Ea8 : wat ((((((((v.set a n1).set d n2).set c n3).set b n4).set a n5).set d n6).set c n7).set b n8) a = n5 := by rw [wat_ne _ _ _ _ ab.symm, Ea7]
  rw [wat_set _ _ _ (by simp [hl, lb])] at hB8
  rw [wat_ne _ _ _ _ bc, Ec7] at hC8
  have Ec8 : wat ((((((((v.set a n1).set d n2).set c n3).set b n4).set a n5).set d n6).set c n7).set b n8) c = n7 := by rw [wat_ne _ _ _ _ bc, Ec7]
  rw [wat_ne _ _ _ _ bd, Ed7] at hD8
  have Ed8 : wat ((((((((v.set a n1).set d n2).set c n3).set b n4).set a n5).set d n6).set c n7).set b n8) d = n6 := by rw [wat_ne _ _ _ _ bd, Ed7]
  have Eb8 : wat ((((((((v.set a n1).set d n2).set c n3).set b n4).set a n5).set d n6).set c n7).set b n8) b = n8 := wat_set _ _ _ (by simp [hl, lb])
  have Hpost : Blk w8 g 71 (u32s (mixL v a b c d X Y)) ∧ Sole g w w8 := by
    refine ⟨?_, s1.trans (s2.trans (s3.trans (s4.trans (s5.trans (s6.trans (s7.trans s8))))))⟩
    have hm : mixL v a b c d X Y = ((((((((v.set a n1).set d n2).set c n3).set b n4).set a n5).set d n6).set c n7).set b n8) := by
      subst e1 f2 e2 e3 f4 e4 e5 f6 e6 e7 f8 e8 eA eB eC eD
      rw [sets8 v a b c d ab ac ad bc bd cd]
      rfl
    rw [hm]; exact b8
  have H1 := Lib.hid h1
  have EE1 := Lib.hid e1
  clear h1 e1
  have H2 := Lib.hid h2
  have EE2 := Lib.hid e2
  clear h2 e2 f2
  have H3 := Lib.hid h3
  have EE3 := Lib.hid e3
  clear h3 e3
  have H4 := Lib.hid h4
  have EE4 := Lib.hid e4
  clear h4 e4 f4
  have H5 := Lib.hid h5
  have EE5 := Lib.hid e5
  clear h5 e5
  have H6 := Lib.hid h6
  have EE6 := Lib.hid e6
  clear h6 e6 f6
  have H7 := Lib.hid h7
  have EE7 := Lib.hid e7
  clear h7 e7
  have H8 := Lib.hid h8
  have EE8 := Lib.hid e8
  clear h8 e8 f8
  clear Ea0 Eb0 Ec0 Ed0 Ea1 Eb1 Ec1 Ed1 Ea2 Eb2 Ec2 Ed2 Ea3 Eb3 Ec3 Ed3 Ea4 Eb4 Ec4 Ed4 Ea5 Eb5 Ec5 Ed5 Ea6 Eb6 Ec6 Ed6 Ea7 Eb7 Ec7 Ed7 Ea8 Eb8 Ec8 Ed8 eA eB eC eD
  have HP := Lib.hid Hpost
  clear Hpost b0 b1 b2 b3 b4 b5 b6 b7 b8 s1 s2 s3 s4 s5 s6 s7 s8
  clear ab ac ad bc bd cd la lb lc ld hl
  go_enter Tryd.func45, Tryd.ntmps45
  go_wp2
  obtain ⟨⟨ra1, rb1⟩, ⟨r1, rd1⟩⟩ := R1.out
  go_still_tail 15, (by kernel_rfl)
  change wpList _ _ _ _ _ w.drew
  go_wp2
  rw [← H1.out]
  clear r1 ra1 rb1 rd1 R1
  have r2 := R2.out
  refine wp_region_still_tail 16 (by kernel_rfl) (by kernel_rfl) ?_
  simp only [List.take_succ_cons, List.take_zero, List.drop_succ_cons, List.drop_zero]
  repeat still_step
  still_call ((rot16 _ _).mono fun e w' h => ⟨h.1, h.2.symm⟩)
  repeat still_step
  refine wpStill_nil ?_
  change wpList _ _ _ _ _ w1.drew
  rw [EE2.out]
  go_wp2
  rw [← H2.out]
  clear r2 R2
  obtain ⟨ra3, r3⟩ := R3.out
  go_still_tail 13, (by kernel_rfl)
  change wpList _ _ _ _ _ w2.drew
  go_wp2
  rw [← H3.out]
  clear r3 ra3 R3
  have r4 := R4.out
  refine wp_region_still_tail 16 (by kernel_rfl) (by kernel_rfl) ?_
  simp only [List.take_succ_cons, List.take_zero, List.drop_succ_cons, List.drop_zero]
  repeat still_step
  still_call ((rot12 _ _).mono fun e w' h => ⟨h.1, h.2.symm⟩)
  repeat still_step
  refine wpStill_nil ?_
  change wpList _ _ _ _ _ w3.drew
  rw [EE4.out]
  go_wp2
  rw [← H4.out]
  clear r4 R4
  obtain ⟨⟨ra5, rb5⟩, ⟨r5, rd5⟩⟩ := R5.out
  go_still_tail 15, (by kernel_rfl)
  change wpList _ _ _ _ _ w4.drew
  go_wp2
  rw [← H5.out]
  clear r5 ra5 rb5 rd5 R5
  have r6 := R6.out
  refine wp_region_still_tail 16 (by kernel_rfl) (by kernel_rfl) ?_
  simp only [List.take_succ_cons, List.take_zero, List.drop_succ_cons, List.drop_zero]
  repeat still_step
  still_call ((rot8 _ _).mono fun e w' h => ⟨h.1, h.2.symm⟩)
  repeat still_step
  refine wpStill_nil ?_
  change wpList _ _ _ _ _ w5.drew
  rw [EE6.out]
  go_wp2
  rw [← H6.out]
  clear r6 R6
  obtain ⟨ra7, r7⟩ := R7.out
  go_still_tail 13, (by kernel_rfl)
  change wpList _ _ _ _ _ w6.drew
  go_wp2
  rw [← H7.out]
  clear r7 ra7 R7
  have r8 := R8.out
  refine wp_region_still_tail 16 (by kernel_rfl) (by kernel_rfl) ?_
  simp only [List.take_succ_cons, List.take_zero, List.drop_succ_cons, List.drop_zero]
  repeat still_step
  still_call ((rot7 _ _).mono fun e w' h => ⟨h.1, h.2.symm⟩)
  repeat still_step
  refine wpStill_nil ?_
  change wpList _ _ _ _ _ w7.drew
  rw [EE8.out]
  go_wp2
  rw [← H8.out]
  clear r8 R8
  go_end0
  exact ⟨rfl, _, rfl, HP.out⟩
end Go.Proofs.YtcnnijhfliahgaaDoor
