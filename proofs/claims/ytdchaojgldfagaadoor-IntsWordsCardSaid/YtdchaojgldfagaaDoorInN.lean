/- The walk of IntsSmall. -/
import Derived.Test.YtdchaojgldfagaaDoorInK
namespace Go.Proofs.YtdchaojgldfagaaDoor
open Go.RowKit
set_option linter.unusedVariables false

theorem info_i64 : (Tryd.prog.info? 2).map (fun i => (i.zero, i.size, i.bytes)) = some (some (.int .i64 0), 1, 8) := by kernel_rfl
/-- Integers in memory. -/
def i64s (l : List Int) : List Value := l.map (Value.int .i64)
theorem i64s_len (l : List Int) : (i64s l).length = l.length := by simp [i64s]
theorem made_i64 (k : Nat) : madeCells (Value.int .i64 0).cells k = (i64s (List.replicate k 0)).toArray := by
  apply Array.ext'
  apply List.ext_getElem
  · simp [madeCells, i64s]
  · intro i h1 h2
    have e1 : i % 1 = 0 := Nat.mod_one i
    simp [madeCells, i64s, Value.cells, e1]
theorem mk_i64 {ops : Array Oper} {rest : List Oper} {o : Oper} {a : Act} {Q : Exit → Act → World → Prop} {w : World} (hgd : o.guard = none) (l c : Operand)
    (hop : o.op = Op.makeSlice 22 l c) (k : Nat) (hl : a.eval l = .int .i64 (k : Int)) (hc : a.eval c = .int .i64 (k : Int)) (hsz : k ≤ 281474976710)
    (h : wpList Tryd.prog ops Q rest (a.put o.dst (.slice (some ⟨w.heap.size, 0, none⟩) k k)) (w.alloc (.cells (i64s (List.replicate k 0)).toArray 2))) : wpList Tryd.prog ops Q (o :: rest) a w := by
  obtain ⟨i0, hti, hz0, hz1, hz2⟩ := info_parts info_i64
  have hr := run_make (P := Tryd.prog) w 22 2 i0 (.int .i64 0) Tryd.underlying22 hti hz0 .i64 .i64 k k (by omega) (by omega) (by rw [hz2]; omega) (by omega)
  simp only [Int.toNat_natCast] at hr
  rw [hz1, Nat.mul_one, made_i64] at hr
  refine wpList_plain hgd fun K hK' => ?_
  unfold Oper.wp
  simp [execOp, hop, hl, hc, hr, Result.andThen]
  exact hK' _ _ h
theorem rep_put (x : Int) (n k : Nat) (hk : k < n) : (i64s (List.replicate k x ++ List.replicate (n - k) 0)).set k (.int .i64 x) = i64s (List.replicate (k + 1) x ++ List.replicate (n - (k + 1)) 0) := by
  unfold i64s
  apply List.ext_getElem
  · simp; omega
  · intro i h1 h2
    rw [List.getElem_set]
    simp only [List.getElem_map, List.getElem_append, List.length_replicate, List.getElem_replicate]
    by_cases e : k = i
    · subst e; simp
    · rw [if_neg e]
      by_cases h : i < k
      · rw [dif_pos h, dif_pos (by omega)]
      · rw [dif_neg h, dif_neg (by omega)]

set_option maxRecDepth 100000 in
set_option maxHeartbeats 4000000 in
theorem ismall_out (x n : Int) (w : World) (h : n < 0 ∨ 4096 < n) (hT : TabAt w) : Calls Tryd.prog 7 #[.int .i64 x, .int .i64 n] w fun e w' => e = .returned (.bool true) ∧ Below w.heap.size w w' := by
  have hs := shown6_any w hT
  clear hT
  by_cases h1 : n < 0
  · go_enter Tryd.func7, Tryd.ntmps7
    go_wp2_with (go_at_call 9; refine hs.mono ?_; rintro e w1 ⟨rfl, hb⟩; have HB := Lib.hid hb; clear hb)
    all_goals first | omega | (go_ret; exact ⟨rfl, HB.out⟩)
  · have h2 : 4096 < n := by omega
    clear h
    go_enter Tryd.func7, Tryd.ntmps7
    go_wp2_with (go_at_call 9; refine hs.mono ?_; rintro e w1 ⟨rfl, hb⟩; have HB := Lib.hid hb; clear hb)
    all_goals first | omega | (go_ret; exact ⟨rfl, HB.out⟩)

set_option maxRecDepth 100000 in
set_option maxHeartbeats 4000000 in
theorem ismall_in (x : Int) (n : Nat) (w : World) (hn : n ≤ 4096) (hx : I64 x) (hT : TabAt w) : Calls Tryd.prog 7 #[.int .i64 x, .int .i64 (n : Int)] w fun e w' => e = .returned (.bool true) ∧ Below w.heap.size w w' := by
  have hs := shown6_any w hT
  obtain ⟨L, hL⟩ : ∃ L, List.replicate n x = L := ⟨_, rfl⟩
  have hlen : L.length = n := by rw [← hL]; simp
  have h64 : All64 L := fun y hy => by rw [← hL] at hy; rw [List.eq_of_mem_replicate hy]; exact hx
  have hsz := best_same x n hn
  rw [hL] at hsz
  have hfull : i64s (List.replicate n x ++ List.replicate (n - n) 0) = i64s L := by rw [hL]; simp
  have hbest := fun (B : Nat) (w1 : World) (hb : Blk w1 B 2 (i64s L)) (hT : TabAt w1) => best_any (some ⟨B, 0, none⟩) n L w1 (ints_blk hb) h64 (by omega) (by omega) hT
  have henc := fun (B : Nat) (w1 : World) (hb : Blk w1 B 2 (i64s L)) (hT : TabAt w1) => enc_any (bestL L) (bestL_spec L).1 (some ⟨B, 0, none⟩) n L w1 (ints_blk hb) h64 (by omega) (by omega) hT
  have hln : (encI (bestL L) L).length ≤ 13 := hsz
  rw [hlen] at hbest henc
  generalize encI (bestL L) L = eb at henc hln
  generalize bestL L = fb at hbest henc
  unfold LaidI at henc
  have HBEST := Lib.hid hbest
  have HENC := Lib.hid henc
  have HLN := Lib.hid hln
  have HT := Lib.hid hT
  have HFULL := Lib.hid hfull
  have h1 : ¬ (n : Int) < 0 := by omega
  have h2 : ¬ (4096 : Int) < (n : Int) := by omega
  clear hbest henc hln hsz h64 hlen hL hT hfull hx
  go_enter Tryd.func7, Tryd.ntmps7
  go_wp2_with (first | (go_at_call 9; refine hs.mono ?_; rintro e w1 ⟨rfl, hb⟩; have HB := Lib.hid hb; clear hb) | (refine mk_i64 rfl _ _ rfl n rfl rfl (by omega) ?_))
  have hb0 : Blk (w1.alloc (.cells (i64s (List.replicate n 0)).toArray 2)) w1.heap.size 2 (i64s (List.replicate 0 x ++ List.replicate (n - 0) 0)) := Blk.born w1 _ _
  have hbe : Below w.heap.size w (w1.alloc (.cells (i64s (List.replicate n 0)).toArray 2)) := HB.out.alloc HB.out.size _
  have HB0 := Lib.hid hb0
  have HBE := Lib.hid hbe
  clear hb0 hbe hs
  go_loopw [7] (fun i wr => ∃ k : Nat, k ≤ n ∧ i = .int .i64 k ∧ Blk wr w1.heap.size 2 (i64s (List.replicate k x ++ List.replicate (n - k) 0)) ∧ Below w.heap.size w wr) (fun i _ => n - (intOf i).toNat)
  case atStart => exact ⟨0, by omega, rfl, HB0.out, HBE.out⟩
  case round =>
    obtain ⟨k, hk, rfl, hblk, hbel⟩ := hrel
    have HBEL := Lib.hid hbel
    have HBLK := Lib.hid hblk
    by_cases hlt : k < n
    · have hcell := hblk.at_ k
      have hfr := hblk.free k
      have hkl : k < (i64s (List.replicate k x ++ List.replicate (n - k) 0)).length := by rw [i64s_len]; simp; omega
      rw [List.getElem?_eq_getElem hkl] at hcell
      have hput := rep_put x n k hlt
      generalize (i64s (List.replicate k x ++ List.replicate (n - k) 0))[k] = old at hcell
      have hnew : Blk (wr.setCell ⟨w1.heap.size, k, none⟩ (.int .i64 x)) w1.heap.size 2 (i64s (List.replicate (k + 1) x ++ List.replicate (n - (k + 1)) 0)) := by rw [← hput]; exact hblk.store k _
      have HNEW := Lib.hid hnew
      have HK : Hid (k < n) := hlt
      clear hput hblk hbel hkl hnew HB0 HBE
      go_wp2
      go_roundw
      case rel => exact ⟨k + 1, HK.out, by go_num, HNEW.out, HBEL.out.setCell (by exact HB.out.size) _⟩
      case measure => simp [intOf]; have := HK.out; omega
    · obtain rfl : k = n := by omega
      rw [HFULL.out] at hblk
      have HBK := Lib.hid hblk
      have hcb := HBEST.out w1.heap.size wr hblk (HT.out.keep hbel)
      have HCB := Lib.hid hcb
      clear hblk hbel hcb HB0 HBE
      go_wp2_with (first | (go_at_call 12; refine HCB.out.mono ?_; rintro e w2 ⟨rfl, hb2⟩; have HB2 := Lib.hid hb2; clear hb2) | (go_at_call 10; refine (HENC.out w1.heap.size w2 (HBK.out.below HB2.out (lt_of_block HBK.out)) (HT.out.keep (HBEL.out.trans (HB2.out.mono HBEL.out.size)))).mono ?_; rintro e w3 ⟨v3, rfl, hown, hb3⟩; obtain ⟨A3, c3, rfl, _, _, _, _⟩ := hown.form; have HB3 := Lib.hid hb3; clear hown hb3; have hle : (eb.length : Int) ≤ 13 := by have := HLN.out; omega))
      go_ret
      exact ⟨rfl, (HBEL.out.trans (HB2.out.mono HBEL.out.size)).trans (HB3.out.mono (by have h1 := HBEL.out.size; have h2 := HB2.out.size; omega))⟩
theorem ismall_any (x n : Int) (w : World) (hx : I64 x) (hT : TabAt w) : Calls Tryd.prog 7 #[.int .i64 x, .int .i64 n] w fun e w' => e = .returned (.bool true) ∧ Below w.heap.size w w' := by
  by_cases h : n < 0 ∨ 4096 < n
  · exact ismall_out x n w h hT
  · obtain ⟨k, rfl⟩ : ∃ k : Nat, n = (k : Int) := ⟨n.toNat, by omega⟩
    exact ismall_in x k w (by omega) hx hT
end Go.Proofs.YtdchaojgldfagaaDoor
