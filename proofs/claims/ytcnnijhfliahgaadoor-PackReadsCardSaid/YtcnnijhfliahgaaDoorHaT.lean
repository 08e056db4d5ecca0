/- The walk of hash.Sum (24). -/
import Derived.Test.YtcnnijhfliahgaaDoorHaC
import Derived.Test.YtcnnijhfliahgaaDoorHaS
namespace Go.Proofs.YtcnnijhfliahgaaDoor
open Go.RowKit
set_option linter.unusedVariables false

/-- The slice at A holds slices of bytes, ps. -/
def PartsC (w : World) (A : Option Addr) (ps : List (List UInt8)) : Prop :=
  ∀ k (h : k < ps.length), ∃ b o a c, A = some ⟨b, o, none⟩ ∧ w.cell? ⟨b, o + k, none⟩ = some (.slice a (ps[k]).length c) ∧ Byt w a ps[k] ∧ (ps[k]).length ≤ c ∧ c ≤ maxLen ∧ (a = none → c = 0)
theorem PartsC.keep {w w' : World} {A : Option Addr} {ps : List (List UInt8)} (h : PartsC w A ps) (hb : Below w.heap.size w w') : PartsC w' A ps := by
  intro k hk
  obtain ⟨b, o, a, c, e, hc, hy, hl, hm, hn⟩ := h k hk
  exact ⟨b, o, a, c, e, (hb.cell (World.block_lt_of_cell? w _ hc)).trans hc, hy.keep hb, hl, hm, hn⟩
def zero64 : List UInt8 := List.replicate 64 0
theorem born64 (w : World) : Blk (w.alloc (Obj.cells #[Value.int .u8 0, Value.int .u8 0, Value.int .u8 0, Value.int .u8 0, Value.int .u8 0, Value.int .u8 0, Value.int .u8 0, Value.int .u8 0, Value.int .u8 0, Value.int .u8 0, Value.int .u8 0, Value.int .u8 0, Value.int .u8 0, Value.int .u8 0, Value.int .u8 0, Value.int .u8 0, Value.int .u8 0, Value.int .u8 0, Value.int .u8 0, Value.int .u8 0, Value.int .u8 0, Value.int .u8 0, Value.int .u8 0, Value.int .u8 0, Value.int .u8 0, Value.int .u8 0, Value.int .u8 0, Value.int .u8 0, Value.int .u8 0, Value.int .u8 0, Value.int .u8 0, Value.int .u8 0, Value.int .u8 0, Value.int .u8 0, Value.int .u8 0, Value.int .u8 0, Value.int .u8 0, Value.int .u8 0, Value.int .u8 0, Value.int .u8 0, Value.int .u8 0, Value.int .u8 0, Value.int .u8 0, Value.int .u8 0, Value.int .u8 0, Value.int .u8 0, Value.int .u8 0, Value.int .u8 0, Value.int .u8 0, Value.int .u8 0, Value.int .u8 0, Value.int .u8 0, Value.int .u8 0, Value.int .u8 0, Value.int .u8 0, Value.int .u8 0, Value.int .u8 0, Value.int .u8 0, Value.int .u8 0, Value.int .u8 0, Value.int .u8 0, Value.int .u8 0, Value.int .u8 0, Value.int .u8 0] 63)) w.heap.size 63 (u8s zero64) := heap_alloc_new w _
theorem mixed_any (h : List W32) (b : List UInt8) (n : Nat) (last : Bool) (w : World) (hl : h.length = 8) (bl : b.length = 64) (hn : n < 18446744073709551616) {t0 t1 : TypeId} (g0 : Blk w 0 t0 (u32s ivs)) (g1 : Blk w 1 t1 (u8s permB)) :
    Calls Tryd.prog 35 #[.agg (u32s h).toArray, .agg (u8s b).toArray, .int .u64 (n : Int), .bool last] w fun e w' => e = .returned (.agg (u32s (blockL h b n last)).toArray) ∧ Below w.heap.size w w' := by
  cases last with
  | true => exact mixed_true h b n w hl bl hn g0 g1
  | false => exact mixed_false h b n w hl bl hn g0 g1
theorem h0_xor : bits .xor .u32 (((wat ivs 0).toNat : Nat) : Int) 16842784 = (((wat h0 0).toNat : Nat) : Int) := by rfl

/-- What holds of Sum's memory: the blocks N + 1 (the state) and N + 2 (the block). -/
structure SumM (w wr : World) (N : Nat) (d : List UInt8) (k f : Nat) (blk : List UInt8) : Prop where
  h : Blk wr (N + 1) 62 (u32s (hsL d k))
  b : Blk wr (N + 1 + 1) 63 (u8s blk)
  r : Blk wr N 42 (u8s zero32)
  bel : Below N w wr

set_option maxHeartbeats 8000000 in
set_option maxRecDepth 100000 in
theorem sum_walk (A : Option Addr) (cap : Nat) (ps : List (List UInt8)) (w : World) (hp : PartsC w A ps) (hl : ps.length ≤ 140737488351232) (hd : ps.flatten.length ≤ 4611686018427387904) {t0 t1 : TypeId} (g0 : Blk w 0 t0 (u32s ivs)) (g1 : Blk w 1 t1 (u8s permB)) :
    Calls Tryd.prog 24 #[.slice A ps.length cap] w fun e w' => e = .returned (.agg (u8s (sumD ps.flatten)).toArray) ∧ Below w.heap.size w w' := by
  have HP := Lib.hid hp
  have HD := Lib.hid hd
  have G0 := Lib.hid g0
  have G1 := Lib.hid g1
  have sz2 := lt_of_block g1
  obtain ⟨N, hN⟩ : ∃ N, w.heap.size = N := ⟨_, rfl⟩
  have HN := Lib.hid hN
  rw [hN] at sz2
  clear hp hd g0 g1
  have bi0 : Blk (w.alloc (Obj.cells #[Value.int .u8 0, Value.int .u8 0, Value.int .u8 0, Value.int .u8 0, Value.int .u8 0, Value.int .u8 0, Value.int .u8 0, Value.int .u8 0, Value.int .u8 0, Value.int .u8 0, Value.int .u8 0, Value.int .u8 0, Value.int .u8 0, Value.int .u8 0, Value.int .u8 0, Value.int .u8 0, Value.int .u8 0, Value.int .u8 0, Value.int .u8 0, Value.int .u8 0, Value.int .u8 0, Value.int .u8 0, Value.int .u8 0, Value.int .u8 0, Value.int .u8 0, Value.int .u8 0, Value.int .u8 0, Value.int .u8 0, Value.int .u8 0, Value.int .u8 0, Value.int .u8 0, Value.int .u8 0] 42)) 0 t0 (u32s ivs) := G0.out.later _
  have BI0 := Lib.hid bi0
  clear bi0
  have bh0 : Blk ((w.alloc (Obj.cells #[Value.int .u8 0, Value.int .u8 0, Value.int .u8 0, Value.int .u8 0, Value.int .u8 0, Value.int .u8 0, Value.int .u8 0, Value.int .u8 0, Value.int .u8 0, Value.int .u8 0, Value.int .u8 0, Value.int .u8 0, Value.int .u8 0, Value.int .u8 0, Value.int .u8 0, Value.int .u8 0, Value.int .u8 0, Value.int .u8 0, Value.int .u8 0, Value.int .u8 0, Value.int .u8 0, Value.int .u8 0, Value.int .u8 0, Value.int .u8 0, Value.int .u8 0, Value.int .u8 0, Value.int .u8 0, Value.int .u8 0, Value.int .u8 0, Value.int .u8 0, Value.int .u8 0, Value.int .u8 0] 42)).alloc (Obj.cells #[Value.int .u32 0, Value.int .u32 0, Value.int .u32 0, Value.int .u32 0, Value.int .u32 0, Value.int .u32 0, Value.int .u32 0, Value.int .u32 0] 62)) (N + 1) 62 (u32s zero8) := by
    have := born8 (w.alloc (Obj.cells #[Value.int .u8 0, Value.int .u8 0, Value.int .u8 0, Value.int .u8 0, Value.int .u8 0, Value.int .u8 0, Value.int .u8 0, Value.int .u8 0, Value.int .u8 0, Value.int .u8 0, Value.int .u8 0, Value.int .u8 0, Value.int .u8 0, Value.int .u8 0, Value.int .u8 0, Value.int .u8 0, Value.int .u8 0, Value.int .u8 0, Value.int .u8 0, Value.int .u8 0, Value.int .u8 0, Value.int .u8 0, Value.int .u8 0, Value.int .u8 0, Value.int .u8 0, Value.int .u8 0, Value.int .u8 0, Value.int .u8 0, Value.int .u8 0, Value.int .u8 0, Value.int .u8 0, Value.int .u8 0] 42))
    simpa [hN] using this
  have BH0 := Lib.hid bh0
  clear bh0
  have br0 : Blk ((w.alloc (Obj.cells #[Value.int .u8 0, Value.int .u8 0, Value.int .u8 0, Value.int .u8 0, Value.int .u8 0, Value.int .u8 0, Value.int .u8 0, Value.int .u8 0, Value.int .u8 0, Value.int .u8 0, Value.int .u8 0, Value.int .u8 0, Value.int .u8 0, Value.int .u8 0, Value.int .u8 0, Value.int .u8 0, Value.int .u8 0, Value.int .u8 0, Value.int .u8 0, Value.int .u8 0, Value.int .u8 0, Value.int .u8 0, Value.int .u8 0, Value.int .u8 0, Value.int .u8 0, Value.int .u8 0, Value.int .u8 0, Value.int .u8 0, Value.int .u8 0, Value.int .u8 0, Value.int .u8 0, Value.int .u8 0] 42)).alloc (Obj.cells #[Value.int .u32 0, Value.int .u32 0, Value.int .u32 0, Value.int .u32 0, Value.int .u32 0, Value.int .u32 0, Value.int .u32 0, Value.int .u32 0] 62)) N 42 (u8s zero32) := by
    have := (born32 w).later (Obj.cells #[Value.int .u32 0, Value.int .u32 0, Value.int .u32 0, Value.int .u32 0, Value.int .u32 0, Value.int .u32 0, Value.int .u32 0, Value.int .u32 0] 62)
    rw [hN] at this
    exact this
  have BR0 := Lib.hid br0
  clear br0
  have bl0 : Below N w ((w.alloc (Obj.cells #[Value.int .u8 0, Value.int .u8 0, Value.int .u8 0, Value.int .u8 0, Value.int .u8 0, Value.int .u8 0, Value.int .u8 0, Value.int .u8 0, Value.int .u8 0, Value.int .u8 0, Value.int .u8 0, Value.int .u8 0, Value.int .u8 0, Value.int .u8 0, Value.int .u8 0, Value.int .u8 0, Value.int .u8 0, Value.int .u8 0, Value.int .u8 0, Value.int .u8 0, Value.int .u8 0, Value.int .u8 0, Value.int .u8 0, Value.int .u8 0, Value.int .u8 0, Value.int .u8 0, Value.int .u8 0, Value.int .u8 0, Value.int .u8 0, Value.int .u8 0, Value.int .u8 0, Value.int .u8 0] 42)).alloc (Obj.cells #[Value.int .u32 0, Value.int .u32 0, Value.int .u32 0, Value.int .u32 0, Value.int .u32 0, Value.int .u32 0, Value.int .u32 0, Value.int .u32 0] 62)) := by
    rw [← hN]; exact ((Below.refl _ _).alloc (Nat.le_refl _) _).alloc (by simp) _
  have BL0 := Lib.hid bl0
  clear bl0
  have sa : ((w.alloc (Obj.cells #[Value.int .u8 0, Value.int .u8 0, Value.int .u8 0, Value.int .u8 0, Value.int .u8 0, Value.int .u8 0, Value.int .u8 0, Value.int .u8 0, Value.int .u8 0, Value.int .u8 0, Value.int .u8 0, Value.int .u8 0, Value.int .u8 0, Value.int .u8 0, Value.int .u8 0, Value.int .u8 0, Value.int .u8 0, Value.int .u8 0, Value.int .u8 0, Value.int .u8 0, Value.int .u8 0, Value.int .u8 0, Value.int .u8 0, Value.int .u8 0, Value.int .u8 0, Value.int .u8 0, Value.int .u8 0, Value.int .u8 0, Value.int .u8 0, Value.int .u8 0, Value.int .u8 0, Value.int .u8 0] 42)).alloc (Obj.cells #[Value.int .u32 0, Value.int .u32 0, Value.int .u32 0, Value.int .u32 0, Value.int .u32 0, Value.int .u32 0, Value.int .u32 0, Value.int .u32 0] 62)).heap.size = N + 1 + 1 := by simp [hN]
  have SA := Lib.hid sa
  clear sa
  go_enter Tryd.func24, Tryd.ntmps24
  go_upto_region 2 with (first | (refine ld_row rfl 61 (.global 0) rfl 8 60 ar61 sz61 0 t0 (u32s ivs) rfl BI0.out (by rfl) ?_) | (refine st_row rfl 62 (.tmp 3) (.tmp 10) rfl 8 sz62 (N + 1) 62 (u32s zero8) (u32s ivs) rfl rfl BH0.out (by rfl) (by rfl) (u32s_one _) ?_; intro w3 hM hs3; have HM3 := Lib.hid hM; have HS3 := Lib.hid hs3; clear hM hs3))
  have sz3 : w3.heap.size = N + 1 + 1 := by rw [HS3.out.size, SA.out]
  have c0 := u32s_at HM3.out (i := 0) (by decide)
  have f0 := HM3.out.free 0
  have hx0 := h0_xor
  have hst := HM3.out.store 0 (.int .u32 ((wat h0 0).toNat : Int))
  rw [u32s_set] at hst
  have HST : Hid (Blk (w3.setCell ⟨N + 1, 0, none⟩ (.int .u32 ((wat h0 0).toNat : Int))) (N + 1) 62 (u32s h0)) := hst
  clear hst
  generalize wat ivs 0 = x0 at c0 hx0
  generalize wat h0 0 = x1 at hx0 HST
  go_wp2
  have b64 : Blk ((w3.setCell ⟨N + 1, 0, none⟩ (.int .u32 (x1.toNat : Int))).alloc (Obj.cells #[Value.int .u8 0, Value.int .u8 0, Value.int .u8 0, Value.int .u8 0, Value.int .u8 0, Value.int .u8 0, Value.int .u8 0, Value.int .u8 0, Value.int .u8 0, Value.int .u8 0, Value.int .u8 0, Value.int .u8 0, Value.int .u8 0, Value.int .u8 0, Value.int .u8 0, Value.int .u8 0, Value.int .u8 0, Value.int .u8 0, Value.int .u8 0, Value.int .u8 0, Value.int .u8 0, Value.int .u8 0, Value.int .u8 0, Value.int .u8 0, Value.int .u8 0, Value.int .u8 0, Value.int .u8 0, Value.int .u8 0, Value.int .u8 0, Value.int .u8 0, Value.int .u8 0, Value.int .u8 0, Value.int .u8 0, Value.int .u8 0, Value.int .u8 0, Value.int .u8 0, Value.int .u8 0, Value.int .u8 0, Value.int .u8 0, Value.int .u8 0, Value.int .u8 0, Value.int .u8 0, Value.int .u8 0, Value.int .u8 0, Value.int .u8 0, Value.int .u8 0, Value.int .u8 0, Value.int .u8 0, Value.int .u8 0, Value.int .u8 0, Value.int .u8 0, Value.int .u8 0, Value.int .u8 0, Value.int .u8 0, Value.int .u8 0, Value.int .u8 0, Value.int .u8 0, Value.int .u8 0, Value.int .u8 0, Value.int .u8 0, Value.int .u8 0, Value.int .u8 0, Value.int .u8 0, Value.int .u8 0] 63)) (N + 1 + 1) 63 (u8s zero64) := by
    have := born64 (w3.setCell ⟨N + 1, 0, none⟩ (.int .u32 (x1.toNat : Int)))
    have e : (w3.setCell ⟨N + 1, 0, none⟩ (.int .u32 (x1.toNat : Int))).heap.size = N + 1 + 1 := by simp [World.setCell, sz3]
    rw [e] at this
    exact this
  have hM0 : SumM w ((w3.setCell ⟨N + 1, 0, none⟩ (.int .u32 (x1.toNat : Int))).alloc (Obj.cells #[Value.int .u8 0, Value.int .u8 0, Value.int .u8 0, Value.int .u8 0, Value.int .u8 0, Value.int .u8 0, Value.int .u8 0, Value.int .u8 0, Value.int .u8 0, Value.int .u8 0, Value.int .u8 0, Value.int .u8 0, Value.int .u8 0, Value.int .u8 0, Value.int .u8 0, Value.int .u8 0, Value.int .u8 0, Value.int .u8 0, Value.int .u8 0, Value.int .u8 0, Value.int .u8 0, Value.int .u8 0, Value.int .u8 0, Value.int .u8 0, Value.int .u8 0, Value.int .u8 0, Value.int .u8 0, Value.int .u8 0, Value.int .u8 0, Value.int .u8 0, Value.int .u8 0, Value.int .u8 0, Value.int .u8 0, Value.int .u8 0, Value.int .u8 0, Value.int .u8 0, Value.int .u8 0, Value.int .u8 0, Value.int .u8 0, Value.int .u8 0, Value.int .u8 0, Value.int .u8 0, Value.int .u8 0, Value.int .u8 0, Value.int .u8 0, Value.int .u8 0, Value.int .u8 0, Value.int .u8 0, Value.int .u8 0, Value.int .u8 0, Value.int .u8 0, Value.int .u8 0, Value.int .u8 0, Value.int .u8 0, Value.int .u8 0, Value.int .u8 0, Value.int .u8 0, Value.int .u8 0, Value.int .u8 0, Value.int .u8 0, Value.int .u8 0, Value.int .u8 0, Value.int .u8 0, Value.int .u8 0] 63)) N (ps.take 0).flatten 0 0 zero64 := by
    have s1 := HS3.out.setCell 0 (.int .u32 (x1.toNat : Int))
    refine ⟨HST.out.later _, b64, (BR0.out.sole s1 (by omega)).later _, (s1.below BL0.out (by omega)).alloc ?_ _⟩
    simp [World.setCell, sz3]; omega
  generalize hW : (w3.setCell ⟨N + 1, 0, none⟩ (.int .u32 (x1.toNat : Int))).alloc (Obj.cells #[Value.int .u8 0, Value.int .u8 0, Value.int .u8 0, Value.int .u8 0, Value.int .u8 0, Value.int .u8 0, Value.int .u8 0, Value.int .u8 0, Value.int .u8 0, Value.int .u8 0, Value.int .u8 0, Value.int .u8 0, Value.int .u8 0, Value.int .u8 0, Value.int .u8 0, Value.int .u8 0, Value.int .u8 0, Value.int .u8 0, Value.int .u8 0, Value.int .u8 0, Value.int .u8 0, Value.int .u8 0, Value.int .u8 0, Value.int .u8 0, Value.int .u8 0, Value.int .u8 0, Value.int .u8 0, Value.int .u8 0, Value.int .u8 0, Value.int .u8 0, Value.int .u8 0, Value.int .u8 0, Value.int .u8 0, Value.int .u8 0, Value.int .u8 0, Value.int .u8 0, Value.int .u8 0, Value.int .u8 0, Value.int .u8 0, Value.int .u8 0, Value.int .u8 0, Value.int .u8 0, Value.int .u8 0, Value.int .u8 0, Value.int .u8 0, Value.int .u8 0, Value.int .u8 0, Value.int .u8 0, Value.int .u8 0, Value.int .u8 0, Value.int .u8 0, Value.int .u8 0, Value.int .u8 0, Value.int .u8 0, Value.int .u8 0, Value.int .u8 0, Value.int .u8 0, Value.int .u8 0, Value.int .u8 0, Value.int .u8 0, Value.int .u8 0, Value.int .u8 0, Value.int .u8 0, Value.int .u8 0] 63) = W1 at b64 hM0 ⊢
  have HM0 := Lib.hid hM0
  clear hW b64 hM0 c0 f0 hx0 HST HM3 HS3 BH0 BR0 BL0 BI0 SA sz3 hN
  go_loopw [5, 6, 17] (fun tot fil i wr => ∃ (j k f : Nat) (blk : List UInt8), j ≤ ps.length ∧ i = .int .i64 j ∧ tot = .int .u64 ((64 * k + f : Nat) : Int) ∧ fil = .int .i64 f ∧ St (ps.take j).flatten k f blk ∧ (f = 0 → k = 0) ∧ SumM w wr N (ps.take j).flatten k f blk) (fun _ _ i _ => ps.length - (intOf i).toNat)
  case atStart => exact ⟨0, 0, 0, zero64, by omega, rfl, rfl, rfl, ⟨rfl, by omega, rfl, rfl⟩, fun _ => rfl, HM0.out⟩
  case round =>
    obtain ⟨j, k0, f0, blk0, hj, rfl, rfl, rfl, hst, hf0, hM⟩ := hrel
    have HST := Lib.hid hst
    have HM := Lib.hid hM
    have HF0 := Lib.hid hf0
    clear hst hM hf0 HM0
    have hB : Below w.heap.size w wr := by rw [HN.out]; exact HM.out.bel
    have HB := Lib.hid hB
    clear hB
    by_cases hlt : j < ps.length
    · obtain ⟨pb, po, pa, pc, rfl, hc0, hby, hqc, hcm, hna⟩ := HP.out j hlt
      have hc := (HB.out.cell (World.block_lt_of_cell? w _ hc0)).trans hc0
      clear hc0
      have HS : Hid ((ps.take (j + 1)).flatten = (ps.take j).flatten ++ ps[j]) := flat_snoc ps j hlt
      have hDP : (ps.take j).flatten.length + (ps[j]).length ≤ 4611686018427387904 := by
        have h1 := flat_le ps (j + 1)
        rw [HS.out, List.length_append] at h1
        have := HD.out
        omega
      generalize ps[j] = PJ at hc hby hqc HS hDP
      have HDP := Lib.hid hDP
      have HK : Hid (j < ps.length) := hlt
      have HBY := Lib.hid hby
      have HNA := Lib.hid hna
      clear hDP hby hna
      have j0 : (0 : Int) ≤ (j : Int) := by omega
      go_wp2
      go_loopw [5, 6, 8] (fun tot fil part wr => ∃ (k f c' : Nat) (blk p q : List UInt8) (A' : Option Addr), part = .slice A' q.length c' ∧ tot = .int .u64 ((64 * k + f : Nat) : Int) ∧ fil = .int .i64 f ∧ PJ = p ++ q ∧ St ((ps.take j).flatten ++ p) k f blk ∧ (f = 0 → k = 0) ∧ SumM w wr N ((ps.take j).flatten ++ p) k f blk ∧ Byt w A' q ∧ q.length ≤ c' ∧ c' ≤ maxLen ∧ (A' = none → c' = 0)) (fun _ _ part _ => match part with | .slice _ n _ => n | _ => 0)
      case atStart => exact ⟨k0, f0, pc, blk0, [], PJ, pa, rfl, rfl, rfl, rfl, by rw [List.append_nil]; exact HST.out, HF0.out, by rw [List.append_nil]; exact HM.out, HBY.out, hqc, hcm, HNA.out⟩
      case round =>
        obtain ⟨k, f, c', blk, p, q, A', rfl, rfl, rfl, hpq, hst1, hf1, hM1, hbyq, hqc, hcm, hnaq⟩ := hrel
        have HPQ := Lib.hid hpq
        have HSTI := Lib.hid hst1
        have HMI := Lib.hid hM1
        have HF1 := Lib.hid hf1
        have HBW := Lib.hid hbyq
        have hf64 := hst1.le
        unfold maxLen at hcm
        clear hpq hst1 hM1 hf1 hbyq
        by_cases hq : 0 < q.length
        · have q0 : (0 : Int) < (q.length : Int) := by omega
          by_cases hfe : f = 64
          · subst hfe
            have HM0 := HMI
            have hfu := HSTI.out.full
            have hmix := mixed_any (hsL ((ps.take j).flatten ++ p) k) blk (64 * k + 64) false wr (hsL_len _ _) HSTI.out.size (by have e := HSTI.out.len; have := HDP.out; rw [HPQ.out] at this; simp only [List.length_append] at e this; omega) (G0.out.below HMI.out.bel (by omega)) (G1.out.below HMI.out.bel (by omega))
            rw [hfu.2] at hmix
            have HMIX := Lib.hid hmix
            have HST1 := Lib.hid hfu.1
            clear hmix hfu
            obtain ⟨T, hTe⟩ : ∃ T, 64 * k + 64 = T := ⟨_, rfl⟩
            have hTb : T ≤ 4611686018427387904 := by
              have e := HSTI.out.len
              have := HDP.out
              rw [HPQ.out] at this
              simp only [List.length_append] at e this
              omega
            have HTE := Lib.hid hTe
            rw [hTe] at HMIX ⊢
            clear hTe
            have T0 : (0 : Int) ≤ (T : Int) := by omega
            go_upto_region 13 with (first | (refine ld_row rfl 62 (.tmp 3) rfl 8 60 ar62 sz62 (N + 1) 62 (u32s (hsL ((ps.take j).flatten ++ p) k)) rfl HMI.out.h (by rw [u32s_len]; exact hsL_len _ _) ?_) | (refine ld_row rfl 63 (.tmp 4) rfl 64 5 ar63 sz63 (N + 1 + 1) 63 (u8s blk) rfl HMI.out.b (by rw [u8s_len]; exact HSTI.out.size) ?_) | (go_at_call 35; refine HMIX.out.mono ?_; rintro e w5 ⟨rfl, hb5⟩; have HB5 := Lib.hid hb5; have HH5 : Hid (Blk w5 (N + 1) 62 (u32s (hsL ((ps.take j).flatten ++ p) k))) := HMI.out.h.below hb5 (lt_of_block HMI.out.h); clear hb5) | (refine st_row rfl 62 (.tmp 3) (.tmp 29) rfl 8 sz62 (N + 1) 62 (u32s (hsL ((ps.take j).flatten ++ p) k)) (u32s (hsL ((ps.take j).flatten ++ p) (k + 1))) rfl rfl HH5.out (by rw [u32s_len]; exact hsL_len _ _) (by rw [u32s_len]; exact hsL_len _ _) (u32s_one _) ?_; intro w6 hM6 hs6; have HM6 := Lib.hid hM6; have HS6 := Lib.hid hs6; clear hM6 hs6))
            have HM1 : Hid (SumM w w6 N ((ps.take j).flatten ++ p) (k + 1) 0 blk) := ⟨HM6.out, (HMI.out.b.below HB5.out (lt_of_block HMI.out.b)).sole HS6.out (by omega), (HMI.out.r.below HB5.out (lt_of_block HMI.out.r)).sole HS6.out (by omega), HS6.out.below (HMI.out.bel.trans (HB5.out.mono (by have := lt_of_block HMI.out.b; omega))) (by omega)⟩
            clear HMIX HH5 HM6 HS6 HB5
            have HBYQ1 : Hid (Byt w6 A' q) := by have := HM1.out.bel; rw [← HN.out] at this; exact HBW.out.keep this
            obtain ⟨n, hn⟩ : ∃ n, Nat.min q.length 64 = n := ⟨_, rfl⟩
            have hn1 : n ≤ q.length := by rw [← hn]; exact Nat.min_le_left _ _
            have hn2 : n ≤ 64 := by rw [← hn]; exact Nat.min_le_right _ _
            have hn3 : 0 < n := by
              rw [← hn]
              have : 0 < 64 := by omega
              exact Nat.lt_min.2 ⟨by omega, this⟩
            obtain ⟨Q, hQ⟩ : ∃ Q, q.take n = Q := ⟨_, rfl⟩
            obtain ⟨R, hR⟩ : ∃ R, q.drop n = R := ⟨_, rfl⟩
            have hQR : q = Q ++ R := by rw [← hQ, ← hR, List.take_append_drop]
            have hQl : (u8s Q).length = n := by rw [u8s_len, ← hQ]; simp; omega
            have hRl : R.length = q.length - n := by rw [← hR]; simp
            obtain ⟨A2, hcut, hby2, hna2⟩ := cut_byt (n := n) HBW.out hn1 hqc hnaq
            rw [hR] at hcut hby2
            have hst2 := HST1.out.copy (q := q) (n := n) hn1 (by omega)
            rw [hQ] at hst2
            have hbQ : Byt w6 A' Q := by rw [← hQ]; exact HBYQ1.out.cut n
            have HBQ := Lib.hid hbQ
            have HST2 := Lib.hid hst2
            have HBY2 := Lib.hid hby2
            have HNA2 := Lib.hid hna2
            have HQR := Lib.hid hQR
            have HRL := Lib.hid hRl
            have HNN := Lib.hid hn
            have hfl : 0 + n ≤ 64 := by omega
            have hlen2 := hst2.len
            have hpl : (ps.take j).flatten.length + (p.length + q.length) ≤ 4611686018427387904 := by have := HDP.out; rw [HPQ.out, List.length_append] at this; exact this
            have hT : 64 * k + 64 + n ≤ 4611686018427387904 := by
              have e := HST1.out.len
              simp only [List.length_append] at e
              omega
            clear hst2 hby2 hna2 hQR hRl hbQ hQ hR hn hlen2 hpl
            have sl : ∀ w', (Instr.sliceAt 63 (.pointer (some ⟨N + 1 + 1, 0, none⟩)) (some (.int .i64 0)) none none).run Tryd.prog w' = .ok (.slice (some ⟨N + 1 + 1, 0, none⟩) 64 64) w' := fun w' => by
              have := sl_from 63 5 64 ar63 u8_size (N + 1 + 1) 0 (by omega) w'
              simpa using this
            have n0 : (0 : Int) ≤ (n : Int) := by omega
            have n1 : (n : Int) ≤ 64 := by omega
            obtain ⟨T2, hT2⟩ : ∃ T2, T + n = T2 := ⟨_, rfl⟩
            rw [HTE.out] at hT
            have T1 : (T : Int) ≤ 4611686018427387904 := by omega
            have r1 : IntKind.u64.wrap ((T : Int) + (n : Int)) = (T2 : Int) := by rw [IntKind.wrap_u64]; omega
            have r2 : (T : Int) + (n : Int) = (T2 : Int) := by omega
            have HT2 := Lib.hid hT2
            clear hT2
            go_wp2_with (refine cp_blk rfl (.tmp 31) (.tmp 32) 30 5 Tryd.underlying30 u8_size rfl _ _ _ _ _ _ rfl rfl (N + 1 + 1) 0 63 (u8s blk) (u8s Q) HM1.out.b (by rw [hQl]; exact HNN.out.symm) (fun _ => ⟨rfl, by obtain ⟨b1, o1, e1, _⟩ := HBQ.out 0 (by rw [← u8s_len, hQl]; exact hn3); exact ⟨_, e1, by rw [e1] at HBQ; exact HBQ.out.news⟩⟩) (by rw [hQl, u8s_len, HST1.out.size]; exact hfl) (u8s_one _) ?_; intro w7 hb7 hl7; have HB7 := Lib.hid hb7; have HL7 := Lib.hid hl7; clear hb7 hl7)
            refine ⟨⟨k + 1, n, c' - n, splice blk 0 Q, p ++ Q, R, A2, rfl, by rw [← HT2.out, ← HTE.out]; congr 1, by go_num, by rw [HPQ.out, HQR.out, List.append_assoc], by rw [← List.append_assoc]; have h2 := HST2.out; rw [Nat.zero_add] at h2; exact h2, fun h => by omega, ⟨?_, ?_, HM1.out.r.below HL7.out (by omega), HM1.out.bel.trans (HL7.out.mono (by omega))⟩, HBY2.out, by rw [HRL.out]; omega, by unfold maxLen; omega, HNA2.out⟩, by simp only [HRL.out]; omega⟩
            · rw [← List.append_assoc, hsL_app _ _ _ (by have := HST1.out.len; omega)]
              exact HM1.out.h.below HL7.out (by omega)
            · have := HB7.out
              rw [u8s_splice] at this
              exact this
          · have HST1 := HSTI
            have HM1 := HMI
            have HBYQ1 : Hid (Byt wr A' q) := by have := HM1.out.bel; rw [← HN.out] at this; exact HBW.out.keep this
            have hfe' : ¬ (f : Int) = 64 := by omega
            obtain ⟨n, hn⟩ : ∃ n, Nat.min q.length (64 - f) = n := ⟨_, rfl⟩
            have hn1 : n ≤ q.length := by rw [← hn]; exact Nat.min_le_left _ _
            have hn2 : n ≤ (64 - f) := by rw [← hn]; exact Nat.min_le_right _ _
            have hn3 : 0 < n := by
              rw [← hn]
              have : 0 < (64 - f) := by omega
              exact Nat.lt_min.2 ⟨by omega, this⟩
            obtain ⟨Q, hQ⟩ : ∃ Q, q.take n = Q := ⟨_, rfl⟩
            obtain ⟨R, hR⟩ : ∃ R, q.drop n = R := ⟨_, rfl⟩
            have hQR : q = Q ++ R := by rw [← hQ, ← hR, List.take_append_drop]
            have hQl : (u8s Q).length = n := by rw [u8s_len, ← hQ]; simp; omega
            have hRl : R.length = q.length - n := by rw [← hR]; simp
            obtain ⟨A2, hcut, hby2, hna2⟩ := cut_byt (n := n) HBW.out hn1 hqc hnaq
            rw [hR] at hcut hby2
            have hst2 := HST1.out.copy (q := q) (n := n) hn1 (by omega)
            rw [hQ] at hst2
            have hbQ : Byt wr A' Q := by rw [← hQ]; exact HBYQ1.out.cut n
            have HBQ := Lib.hid hbQ
            have HST2 := Lib.hid hst2
            have HBY2 := Lib.hid hby2
            have HNA2 := Lib.hid hna2
            have HQR := Lib.hid hQR
            have HRL := Lib.hid hRl
            have HNN := Lib.hid hn
            have hfl : f + n ≤ 64 := by omega
            have hlen2 := hst2.len
            have hpl : (ps.take j).flatten.length + (p.length + q.length) ≤ 4611686018427387904 := by have := HDP.out; rw [HPQ.out, List.length_append] at this; exact this
            have hT : 64 * k + f + n ≤ 4611686018427387904 := by
              have e := HST1.out.len
              simp only [List.length_append] at e
              omega
            clear hst2 hby2 hna2 hQR hRl hbQ hQ hR hn hlen2 hpl
            have sl := fun w' => sl_from 63 5 64 ar63 u8_size (N + 1 + 1) f (by omega) w'
            rw [if_neg (by omega)] at sl
            have n0 : (0 : Int) ≤ (n : Int) := by omega
            have n1 : (n : Int) ≤ 64 := by omega
            obtain ⟨T, hTe⟩ : ∃ T, 64 * k + f = T := ⟨_, rfl⟩
            obtain ⟨T2, hT2⟩ : ∃ T2, T + n = T2 := ⟨_, rfl⟩
            rw [hTe] at hT
            have T0 : (0 : Int) ≤ (T : Int) := by omega
            have T1 : (T : Int) ≤ 4611686018427387904 := by omega
            have r1 : IntKind.u64.wrap ((T : Int) + (n : Int)) = (T2 : Int) := by rw [IntKind.wrap_u64]; omega
            have r2 : (T : Int) + (n : Int) = (T2 : Int) := by omega
            have HTE := Lib.hid hTe
            have HT2 := Lib.hid hT2
            rw [hTe]
            clear hTe hT2
            go_wp2_with (refine cp_blk rfl (.tmp 31) (.tmp 32) 30 5 Tryd.underlying30 u8_size rfl _ _ _ _ _ _ rfl rfl (N + 1 + 1) f 63 (u8s blk) (u8s Q) HM1.out.b (by rw [hQl]; exact HNN.out.symm) (fun _ => ⟨rfl, by obtain ⟨b1, o1, e1, _⟩ := HBQ.out 0 (by rw [← u8s_len, hQl]; exact hn3); exact ⟨_, e1, by rw [e1] at HBQ; exact HBQ.out.news⟩⟩) (by rw [hQl, u8s_len, HST1.out.size]; exact hfl) (u8s_one _) ?_; intro w7 hb7 hl7; have HB7 := Lib.hid hb7; have HL7 := Lib.hid hl7; clear hb7 hl7)
            refine ⟨⟨k, f + n, c' - n, splice blk f Q, p ++ Q, R, A2, rfl, by rw [← HT2.out, ← HTE.out]; go_num, by go_num, by rw [HPQ.out, HQR.out, List.append_assoc], by rw [← List.append_assoc]; exact HST2.out, fun h => by omega, ⟨?_, ?_, HM1.out.r.below HL7.out (by omega), HM1.out.bel.trans (HL7.out.mono (by omega))⟩, HBY2.out, by rw [HRL.out]; omega, by unfold maxLen; omega, HNA2.out⟩, by simp only [HRL.out]; omega⟩
            · rw [← List.append_assoc, hsL_app _ _ _ (by have := HST1.out.len; omega)]
              exact HM1.out.h.below HL7.out (by omega)
            · have := HB7.out
              rw [u8s_splice] at this
              exact this
        · have hq0 : q = [] := List.length_eq_zero_iff.1 (by omega)
          subst hq0
          have hpj : PJ = p := by have := HPQ.out; rw [List.append_nil] at this; exact this
          have e := HSTI
          have e2 := HMI
          rw [← hpj, ← HS.out] at e e2
          have HE := Lib.hid e
          have HE2 := Lib.hid e2
          clear e e2 hpj
          go_wp2
          refine ⟨⟨j + 1, k, f, blk, HK.out, by go_num, rfl, rfl, HE.out.out, HF1.out, HE2.out.out⟩, by simp [intOf]; omega⟩
    · obtain rfl : j = ps.length := by omega
      rw [List.take_length] at HST HM
      have hsl : ∃ dp : Option Addr, (0 < 64 - f0 → dp = some ⟨N + 1 + 1, f0, none⟩) ∧ ∀ w', (Instr.sliceAt 63 (.pointer (some ⟨N + 1 + 1, 0, none⟩)) (some (.int .i64 (f0 : Int))) none none).run Tryd.prog w' = .ok (.slice dp (64 - f0) (64 - f0)) w' := by
        refine ⟨some (if 64 = f0 then ⟨N + 1 + 1, 0, none⟩ else ⟨N + 1 + 1, f0, none⟩), fun h => by rw [if_neg (by omega)], fun w' => sl_from 63 5 64 ar63 u8_size (N + 1 + 1) f0 HST.out.le w'⟩
      obtain ⟨dp, hdp, hsl⟩ := hsl
      have HDPP := Lib.hid hdp
      have hm := mixed_any (hsL ps.flatten k0) (pad (ps.flatten.drop (64 * k0))) (64 * k0 + f0) true
      rw [← HST.out.len] at hm
      have HMX := Lib.hid hm
      have hend : blockL (hsL ps.flatten k0) (pad (ps.flatten.drop (64 * k0))) ps.flatten.length true = endL ps.flatten ((ps.flatten.length - 1) / 64) := by rw [HST.out.last HF0.out]; rfl
      have HEND := Lib.hid hend
      have hpl : (pad (ps.flatten.drop (64 * k0))).length = 64 := by rw [← HST.out.shut, length_splice _ _ _ (by rw [HST.out.size]; simp; have := HST.out.le; omega)]; exact HST.out.size
      have HPL := Lib.hid hpl
      have hlen := HST.out.len
      have HLEN := Lib.hid hlen
      have hfl := HST.out.le
      clear hdp hm hend hpl
      rw [← hlen]
      clear hlen
      generalize hTT : ps.flatten.length = T at HMX HEND HLEN ⊢
      have HTT := Lib.hid hTT
      have T1 : T ≤ 4611686018427387904 := by rw [← hTT]; exact HD.out
      clear hTT
      rw [HEND.out] at HMX
      have hsum : sumD ps.flatten = outL (endL ps.flatten ((T - 1) / 64)) := by unfold sumD; rw [HTT.out]
      have HSUM := Lib.hid hsum
      clear hsum
      have hEl : (endL ps.flatten ((T - 1) / 64)).length = 8 := blockL_len _ _ _ _
      generalize endL ps.flatten ((T - 1) / 64) = E at HMX HSUM hEl
      have HEL := Lib.hid hEl
      clear hEl
      go_wp2_with (first | (refine cl_blk rfl (.tmp 46) rfl dp (64 - f0) (64 - f0) rfl (N + 1 + 1) f0 63 (u8s blk0) HM.out.b HDPP.out (by rw [u8s_len, HST.out.size]; omega) ?_; intro w5 hb5 hs5; have hb5' := hb5; rw [u8s_splice, HST.out.shut] at hb5'; have HB5 := Lib.hid hb5'; have HS5 := Lib.hid hs5; have BEL5 : Hid (Below N w w5) := hs5.below HM.out.bel (by omega); clear hb5 hb5' hs5) | (refine ld_row rfl 62 (.tmp 3) rfl 8 60 ar62 sz62 (N + 1) 62 (u32s (hsL ps.flatten k0)) rfl (HM.out.h.sole HS5.out (by omega)) (by rw [u32s_len]; exact hsL_len _ _) ?_) | (refine ld_row rfl 63 (.tmp 4) rfl 64 5 ar63 sz63 (N + 1 + 1) 63 (u8s (pad (ps.flatten.drop (64 * k0)))) rfl HB5.out (by rw [u8s_len]; exact HPL.out) ?_) | (go_at_call 35; refine (HMX.out w5 (hsL_len _ _) HPL.out (by omega) (G0.out.below BEL5.out (by omega)) (G1.out.below BEL5.out (by omega))).mono ?_; rintro e w6 ⟨rfl, hb6⟩; have HB6 := Lib.hid hb6; clear hb6) | (go_at_call 36; refine (bytes_any E w6 HEL.out).mono ?_; rintro e w7 ⟨rfl, hb7⟩; have HR7 : Hid (Blk w7 N 42 (u8s zero32)) := ((HM.out.r.sole HS5.out (by omega)).below HB6.out (lt_of_block (HM.out.r.sole HS5.out (by omega)))).below hb7 (lt_of_block ((HM.out.r.sole HS5.out (by omega)).below HB6.out (lt_of_block (HM.out.r.sole HS5.out (by omega))))); have BEL7 : Hid (Below N w w7) := (BEL5.out.trans (HB6.out.mono (by have := lt_of_block HB5.out; omega))).trans (hb7.mono (by have h1 := lt_of_block HB5.out; have h2 := HB6.out.size; omega)); clear hb7) | (refine st_row rfl 42 (.tmp 2) (.tmp 51) rfl 32 sz42 N 42 (u8s zero32) (u8s (outL E)) rfl rfl HR7.out (by rw [u8s_len]; exact outL_len _) (by rfl) (u8s_one _) ?_; intro w8 hg8 hs8; have HG8 := Lib.hid hg8; have HS8 := Lib.hid hs8; clear hg8 hs8))
      rw [HSUM.out]
      have hbel8 : Below w.heap.size w w8 := by rw [HN.out]; exact HS8.out.below BEL7.out (Nat.le_refl _)
      exact bodyPost_ret (v := .agg (u8s (outL E)).toArray) (results_cell_row Tryd.results24 _ _ N 42 _ (0, 0) (.array 32 5) rfl HG8.out ar42 rfl (by rw [sz42]; simp [u8s_len, outL_len])) rfl ⟨rfl, hbel8⟩
end Go.Proofs.YtcnnijhfliahgaaDoor
