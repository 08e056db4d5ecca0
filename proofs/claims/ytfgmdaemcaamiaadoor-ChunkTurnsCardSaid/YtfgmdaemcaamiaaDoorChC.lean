/- The bits that say nulls (maskOf); a chunk's sum as bytes (sumOf). -/
import Derived.Test.YtfgmdaemcaamiaaDoorChB
import Derived.Test.YtfgmdaemcaamiaaDoorSum
namespace Go.Proofs.YtfgmdaemcaamiaaDoor
open Go.RowKit
set_option linter.unusedVariables false

theorem mask_snoc (l : List Vl) (k : Nat) (h : k < l.length) : (maskL l).take (k + 1) = (maskL l).take k ++ [if l[k].kind = 0 then 1#64 else 0#64] := by
  unfold maskL
  rw [List.take_succ_eq_append_getElem (by rw [List.length_map]; exact h), List.getElem_map]
theorem mask_zero (l : List Vl) (k n : Nat) (hk : k < n) : (maskL l).take k ++ List.replicate (n - k) (0 : W64) = ((maskL l).take k ++ [0#64]) ++ List.replicate (n - (k + 1)) (0 : W64) := by
  rw [show n - k = (n - (k + 1)) + 1 by omega, List.replicate_succ]
  simp

set_option maxRecDepth 100000 in
set_option maxHeartbeats 4000000 in
theorem maskof_any (A : Option Addr) (cap : Nat) (l : List Vl) (W : World) (hl : Vls W A l) (hn : l.length ≤ 4096) :
    Calls Tryd.prog 20 #[.slice A l.length cap] W fun e W' => e = .returned (.slice (some ⟨W.heap.size, 0, none⟩) l.length l.length) ∧ Num W' (some ⟨W.heap.size, 0, none⟩) (maskL l) ∧ Below W.heap.size W W' := by
  obtain ⟨n, hln⟩ : ∃ n, l.length = n := ⟨_, rfl⟩
  obtain ⟨N, hN⟩ : ∃ N, W.heap.size = N := ⟨_, rfl⟩
  obtain ⟨W1, hW1⟩ : ∃ x, x = W.alloc (.cells (n64s (List.replicate n 0#64)).toArray 43) := ⟨_, rfl⟩
  have hb1 : Blk W1 N 43 (n64s ((maskL l).take 0 ++ List.replicate (n - 0) 0)) := by
    rw [hW1, ← hN]
    exact Blk.born W _ _
  have hbel1 : Below N W W1 := by rw [hW1, ← hN]; exact (Below.refl _ _).alloc (Nat.le_refl _) _
  have HL := Lib.hid hl
  have HLN := Lib.hid hln
  have HNN := Lib.hid hN
  have HB1 := Lib.hid hb1
  have HE1 := Lib.hid hbel1
  have HW1 := Lib.hid hW1
  rw [hln, hN]
  rw [hln] at hn
  clear hl hb1 hbel1 hW1 hN hln
  go_enter Tryd.func20, Tryd.ntmps20
  go_wp2_with (first | (refine mk_pl22 rfl _ _ rfl n rfl rfl (by omega) ?_))
  rw [← HW1.out, HNN.out]
  go_loopw [4, 5, 11] (fun i v x wr => ∃ k : Nat, k ≤ n ∧ x = .int .i64 k ∧ Blk wr N 43 (n64s ((maskL l).take k ++ List.replicate (n - k) 0)) ∧ Below N W wr) (fun _ _ x _ => n - (intOf x).toNat)
  case atStart => exact ⟨0, by omega, rfl, HB1.out, HE1.out⟩
  case round =>
    obtain ⟨k, hk, rfl, hblk, hbel⟩ := hrel
    have HBEL := Lib.hid hbel
    have HBLK := Lib.hid hblk
    by_cases hlt : k < n
    · have hk1 : k < l.length := by rw [HLN.out]; exact hlt
      obtain ⟨b, o, rfl, hvb⟩ := HL.out k hk1
      obtain ⟨v0, v1, v2⟩ := hvb.keep hbel (by rw [← HNN.out]; exact hvb.lt)
      have hst := mask_snoc l k hk1
      generalize l[k] = v at v0 v1 v2 hst
      generalize v.kind = kd at v0 hst
      generalize v.num = nm at v1
      generalize v.text = tx at v2
      have hcell := (hblk.at_ k)
      have hfr := hblk.free k
      have hkl : k < (n64s ((maskL l).take k ++ List.replicate (n - k) 0)).length := by
        rw [n64s_len, List.length_append, List.length_take, List.length_replicate, maskL_len, HLN.out]; omega
      rw [List.getElem?_eq_getElem hkl] at hcell
      have hput := n64s_put ((maskL l).take k) k n 1#64 (by rw [List.length_take, maskL_len, HLN.out]; omega) hlt
      have hzer := mask_zero l k n hlt
      have HK : Hid (k < n) := hlt
      have hNl : N < wr.heap.size := lt_of_block hblk
      have hb2 := hblk.later (Obj.cells #[Value.int .i64 kd, Value.int .i64 nm, Value.string tx] 30)
      have hbe2 : Below N W (wr.alloc (Obj.cells #[Value.int .i64 kd, Value.int .i64 nm, Value.string tx] 30)) := hbel.alloc (by omega) _
      have HBE2 := Lib.hid hbe2
      generalize (n64s ((maskL l).take k ++ List.replicate (n - k) 0))[k] = old at hcell
      by_cases e : kd = 0
      · rw [if_pos e] at hst
        have hnew : Blk ((wr.alloc (Obj.cells #[Value.int .i64 kd, Value.int .i64 nm, Value.string tx] 30)).setCell ⟨N, k, none⟩ (.int .u64 1)) N 43 (n64s ((maskL l).take (k + 1) ++ List.replicate (n - (k + 1)) 0)) := by
          rw [hst, ← hput]
          exact hb2.store k _
        have HNEW := Lib.hid hnew
        have hc2 : World.cell? (wr.alloc (Obj.cells #[Value.int .i64 kd, Value.int .i64 nm, Value.string tx] 30)) ⟨N, k, none⟩ = some old := cell_below ((Below.refl _ _).alloc (Nat.le_refl _) _) hcell
        have hf2 : World.frozen? (wr.alloc (Obj.cells #[Value.int .i64 kd, Value.int .i64 nm, Value.string tx] 30)) ⟨N, k, none⟩ = false := hb2.free k
        clear hst hput hzer hblk hbel hvb hkl hcell hfr hb2 hbe2 hnew hNl
        subst e
        go_wp2
        go_roundw
        case rel => exact ⟨k + 1, HK.out, by go_num, HNEW.out, HBE2.out.setCell (Nat.le_refl _) _⟩
        case measure => simp [intOf]; have := HK.out; omega
      · rw [if_neg e] at hst
        have hnew : Blk (wr.alloc (Obj.cells #[Value.int .i64 kd, Value.int .i64 nm, Value.string tx] 30)) N 43 (n64s ((maskL l).take (k + 1) ++ List.replicate (n - (k + 1)) 0)) := by
          rw [hst, ← hzer]
          exact hb2
        have HNEW := Lib.hid hnew
        have q : (kd == 0) = false := by rw [beq_eq_false_iff_ne]; exact e
        clear hst hput hzer hblk hbel hvb hkl hcell hfr hb2 hbe2 hnew e
        go_wp2
        go_roundw
        case rel => exact ⟨k + 1, HK.out, by go_num, HNEW.out, HBE2.out⟩
        case measure => simp [intOf]; have := HK.out; omega
    · obtain rfl : k = n := by omega
      have hnum : Num wr (some ⟨N, 0, none⟩) (maskL l) := by
        have hb2 := HBLK.out
        rw [Nat.sub_self, List.replicate_zero, List.append_nil, List.take_of_length_le (by rw [maskL_len, HLN.out]; omega)] at hb2
        intro i hi
        refine ⟨N, 0, rfl, ?_⟩
        rw [Nat.zero_add, hb2.at_]
        simp [n64s, hi]
      have HNUM := Lib.hid hnum
      clear hnum
      go_wp2
      go_ret
      exact ⟨rfl, HNUM.out, HBEL.out⟩

theorem u8_ofNat (m : Nat) (h : m < 256) : ((UInt8.ofNat m).toNat : Int) = (m : Int) := by rw [UInt8.toNat_ofNat']; omega
/-- Bytes in a block of their own. -/
theorem own_blk8 (w : World) (l : List UInt8) (hl : l.length ≤ maxLen) : Own (w.alloc (.cells (u8s l).toArray 5)) w.heap.size (.slice (some ⟨w.heap.size, 0, none⟩) l.length l.length) l :=
  ⟨by simp [u8s], .inr ⟨w.heap.size, l.length, (u8s l).toArray, rfl, Nat.le_refl _, heap_alloc_new w _, Nat.le_refl _, hl, by simp [u8s], by rw [Nat.mul_one]; exact List.take_of_length_le (by simp [u8s])⟩⟩
set_option maxHeartbeats 2000000 in
theorem sumof_any (A : Option Addr) (cap nb : Nat) (b : List UInt8) (W : World) (hnb : b.length = nb) (hb : Byt W A b) (hA : A = none → cap = 0) (hn : nb ≤ 140737488355328) :
    Calls Tryd.prog 22 #[.slice A nb cap] W (Made W (sumB b)) := by
  have HS := Lib.hid (fun (X : Nat) (hX : X = W.heap.size) => sum_boxed X nb cap A b W hX hnb.symm hb (by unfold maxLen; omega) hA)
  have hlt := (crcN b).isLt
  obtain ⟨s, hs⟩ : ∃ s, (crcN b).toNat = s := ⟨_, rfl⟩
  have HSB : Hid (sumB b = [UInt8.ofNat (s % 256), UInt8.ofNat (s / 256 % 256), UInt8.ofNat (s / 65536 % 256), UInt8.ofNat (s / 16777216 % 256)]) := by show _ = _; rw [← hs]; rfl
  rw [hs] at HS hlt
  have hown : Own ((W.alloc (Obj.cells #[Value.slice A nb cap] 24)).alloc (Obj.cells #[Value.int .u8 ((s : Int) % 256), Value.int .u8 ((s : Int) / 256 % 256), Value.int .u8 ((s : Int) / 65536 % 256), Value.int .u8 ((s : Int) / 16777216)] 5)) W.heap.size (.slice (some ⟨W.heap.size + 1, 0, none⟩) 4 4) (sumB b) := by
    have h := own_blk8 (W.alloc (Obj.cells #[Value.slice A nb cap] 24)) (sumB b) (by rw [sumB_len]; unfold maxLen; omega)
    rw [World.size_alloc, sumB_len] at h
    have e : (u8s (sumB b)).toArray = #[Value.int .u8 ((s : Int) % 256), Value.int .u8 ((s : Int) / 256 % 256), Value.int .u8 ((s : Int) / 65536 % 256), Value.int .u8 ((s : Int) / 16777216)] := by
      rw [HSB.out]
      simp only [u8s, List.map_cons, List.map_nil]
      rw [u8_ofNat _ (by omega), u8_ofNat _ (by omega), u8_ofNat _ (by omega), u8_ofNat _ (by omega)]
      rw [show ((s / 16777216 % 256 : Nat) : Int) = (s : Int) / 16777216 by omega]
      rfl
    rw [e] at h
    exact h.base (by omega)
  have HOWN := Lib.hid hown
  clear hs hb hA hown
  unfold Made
  go_enter Tryd.func22, Tryd.ntmps22
  go_wp2_with (go_at_call 44; refine (HS.out _ rfl).mono ?_; rintro e w1 ⟨rfl, rfl⟩)
  go_ret
  exact ⟨_, rfl, HOWN.out, ((Below.refl _ _).alloc (Nat.le_refl _) _).alloc (by simp) _⟩
end Go.Proofs.YtfgmdaemcaamiaaDoor
