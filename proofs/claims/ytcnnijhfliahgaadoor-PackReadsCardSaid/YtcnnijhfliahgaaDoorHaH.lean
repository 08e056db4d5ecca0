/- The walks of hash.digit (39), hash.Hex (28), hash.Unhex (26). -/
import Derived.Test.YtcnnijhfliahgaaDoorHaT
import Derived.RegionTactic
import Derived.BigRegion
import Derived.Deep.QuietTactic
import Derived.BigQuiet
namespace Go.Proofs.YtcnnijhfliahgaaDoor
open Go.RowKit
set_option linter.unusedVariables false

def dig (c : UInt8) : Int := if 48 ≤ c.toNat ∧ c.toNat ≤ 57 then (c.toNat : Int) - 48 else if 97 ≤ c.toNat ∧ c.toNat ≤ 102 then (c.toNat : Int) - 97 + 10 else -1
theorem dig_bd (c : UInt8) : -1 ≤ dig c ∧ dig c ≤ 15 := by
  have := c.toNat_lt
  unfold dig
  split
  · omega
  · split <;> omega
set_option maxHeartbeats 1000000 in
set_option maxRecDepth 100000 in
theorem digit_any (c : UInt8) (w : World) : Calls Tryd.prog 39 #[.int .u8 (c.toNat : Int)] w fun e w' => e = .returned (.int .i64 (dig c)) ∧ w = w' := by
  have hc := c.toNat_lt
  have c0 : (0 : Int) ≤ (c.toNat : Int) := by omega
  have c1 : (c.toNat : Int) < 256 := by omega
  by_cases h1 : 48 ≤ c.toNat ∧ c.toNat ≤ 57
  · have e : dig c = (c.toNat : Int) - 48 := by unfold dig; rw [if_pos h1]
    have E := Lib.hid e
    obtain ⟨a, b⟩ := h1
    have a1 : (48 : Int) ≤ (c.toNat : Int) := by omega
    have b1 : (c.toNat : Int) ≤ 57 := by omega
    clear e a b hc
    go_enter Tryd.func39, Tryd.ntmps39
    go_wp2
    go_ret
    exact ⟨by rw [E.out]; rfl, rfl⟩
  · by_cases h2 : 97 ≤ c.toNat ∧ c.toNat ≤ 102
    · have e : dig c = (c.toNat : Int) - 97 + 10 := by unfold dig; rw [if_neg h1, if_pos h2]
      have E := Lib.hid e
      obtain ⟨a, b⟩ := h2
      have a1 : (97 : Int) ≤ (c.toNat : Int) := by omega
      have b1 : (c.toNat : Int) ≤ 102 := by omega
      clear e a b hc h1
      go_enter Tryd.func39, Tryd.ntmps39
      go_wp2
      go_ret
      exact ⟨by rw [E.out]; rfl, rfl⟩
    · have e : dig c = -1 := by unfold dig; rw [if_neg h1, if_neg h2]
      have E := Lib.hid e
      clear e hc
      by_cases h3 : (c.toNat : Int) < 48
      · clear h1 h2
        go_enter Tryd.func39, Tryd.ntmps39
        go_wp2
        go_ret
        exact ⟨by rw [E.out]; rfl, rfl⟩
      · by_cases h4 : (c.toNat : Int) < 97
        · have h5 : ¬ (c.toNat : Int) ≤ 57 := by omega
          clear h1 h2
          go_enter Tryd.func39, Tryd.ntmps39
          go_wp2
          go_ret
          exact ⟨by rw [E.out]; rfl, rfl⟩
        · have h5 : ¬ (c.toNat : Int) ≤ 57 := by omega
          have h6 : ¬ (c.toNat : Int) ≤ 102 := by omega
          clear h1 h2
          go_enter Tryd.func39, Tryd.ntmps39
          go_wp2
          go_ret
          exact ⟨by rw [E.out]; rfl, rfl⟩

theorem u8s_set (l : List UInt8) (i : Nat) (x : UInt8) : (u8s l).set i (.int .u8 (x.toNat : Int)) = u8s (l.set i x) := by simp [u8s, List.map_set]
theorem Blk.byt {w : World} {g : Nat} {t : TypeId} {l : List UInt8} (h : Blk w g t (u8s l)) : Byt w (some ⟨g, 0, none⟩) l := by
  intro k hk
  refine ⟨g, 0, rfl, ?_⟩
  rw [Nat.zero_add, h.at_, u8s_at hk]
  simp [hk]
/-- The digits written so far, and what is not yet written. -/
def hexP (d : List UInt8) (k : Nat) : List UInt8 := hexL (d.take k) ++ List.replicate (64 - 2 * k) 0
theorem hexL_snoc (d : List UInt8) (k : Nat) (h : k < d.length) : hexL (d.take (k + 1)) = hexL (d.take k) ++ [hexC ((d.getD k 0).toNat / 16), hexC ((d.getD k 0).toNat % 16)] := by
  unfold hexL
  rw [List.take_succ_eq_append_getElem h, List.flatMap_append]
  simp [h]
theorem hexL_len (d : List UInt8) : (hexL d).length = 2 * d.length := by
  unfold hexL
  induction d with
  | nil => rfl
  | cons c t ih => simp only [List.flatMap_cons, List.length_append, ih, List.length_cons, List.length_nil]; omega
theorem hexP_len (d : List UInt8) (k : Nat) (hd : d.length = 32) (hk : k ≤ 32) : (hexP d k).length = 64 := by
  simp only [hexP, List.length_append, hexL_len, List.length_take, hd, List.length_replicate]; omega
theorem hexP_succ (d : List UInt8) (k : Nat) (hd : d.length = 32) (hk : k < 32) : ((hexP d k).set (2 * k) (hexC ((d.getD k 0).toNat / 16))).set (2 * k + 1) (hexC ((d.getD k 0).toNat % 16)) = hexP d (k + 1) := by
  have hl : (hexL (d.take k)).length = 2 * k := by rw [hexL_len, List.length_take]; omega
  unfold hexP
  rw [hexL_snoc d k (by omega)]
  obtain ⟨n, hn⟩ : ∃ n, 64 - 2 * k = n + 2 := ⟨62 - 2 * k, by omega⟩
  rw [hn, show 64 - 2 * (k + 1) = n by omega]
  rw [List.replicate_succ, List.replicate_succ]
  rw [← hl]
  generalize hexL (d.take k) = L
  rw [List.set_append_right _ _ (Nat.le_refl _), Nat.sub_self, List.set_cons_zero, List.set_append_right _ _ (by omega), show L.length + 1 - L.length = 1 by omega]
  simp
theorem hexP_full (d : List UInt8) (hd : d.length = 32) : hexP d 32 = hexL d := by
  unfold hexP
  rw [List.take_of_length_le (by omega)]
  simp
theorem hexC_at : ∀ x < 16, (⟨#[48, 49, 50, 51, 52, 53, 54, 55, 56, 57, 97, 98, 99, 100, 101, 102]⟩ : ByteArray)[x]? = some (hexC x) := by decide +kernel
theorem idx_hex (x : Nat) (hx : x < 16) (w : World) : (Instr.index 9 (.string ⟨#[48, 49, 50, 51, 52, 53, 54, 55, 56, 57, 97, 98, 99, 100, 101, 102]⟩) (.int .u8 (x : Int))).run Tryd.prog w = .ok (.int .u8 ((hexC x).toNat : Int)) w := by
  have h := hexC_at x hx
  simp [Instr.index, asIntOf, run_underlying Tryd.underlying9, Sem.run_bind, Result.andThen, h]
theorem and15 : ∀ c : UInt8, bits .and .u8 (c.toNat : Int) 15 = ((c.toNat % 16 : Nat) : Int) := by
  intro c
  have h := c.toNat_lt
  generalize c.toNat = n at h
  revert n
  decide +kernel

set_option maxHeartbeats 4000000 in
set_option maxRecDepth 100000 in
theorem hex_any (d : List UInt8) (w : World) (hd : d.length = 32) :
    Calls Tryd.prog 28 #[.agg (u8s d).toArray] w fun e w' => e = .returned (.string (str (hexL d))) ∧ Below w.heap.size w w' := by
  have hb := (Blk.born w 42 (u8s d)).later (Obj.cells #[Value.int .u8 0, Value.int .u8 0, Value.int .u8 0, Value.int .u8 0, Value.int .u8 0, Value.int .u8 0, Value.int .u8 0, Value.int .u8 0, Value.int .u8 0, Value.int .u8 0, Value.int .u8 0, Value.int .u8 0, Value.int .u8 0, Value.int .u8 0, Value.int .u8 0, Value.int .u8 0, Value.int .u8 0, Value.int .u8 0, Value.int .u8 0, Value.int .u8 0, Value.int .u8 0, Value.int .u8 0, Value.int .u8 0, Value.int .u8 0, Value.int .u8 0, Value.int .u8 0, Value.int .u8 0, Value.int .u8 0, Value.int .u8 0, Value.int .u8 0, Value.int .u8 0, Value.int .u8 0, Value.int .u8 0, Value.int .u8 0, Value.int .u8 0, Value.int .u8 0, Value.int .u8 0, Value.int .u8 0, Value.int .u8 0, Value.int .u8 0, Value.int .u8 0, Value.int .u8 0, Value.int .u8 0, Value.int .u8 0, Value.int .u8 0, Value.int .u8 0, Value.int .u8 0, Value.int .u8 0, Value.int .u8 0, Value.int .u8 0, Value.int .u8 0, Value.int .u8 0, Value.int .u8 0, Value.int .u8 0, Value.int .u8 0, Value.int .u8 0, Value.int .u8 0, Value.int .u8 0, Value.int .u8 0, Value.int .u8 0, Value.int .u8 0, Value.int .u8 0, Value.int .u8 0, Value.int .u8 0] 63)
  have HB := Lib.hid hb
  clear hb
  have hul : (u8s d).length = 32 := by rw [u8s_len, hd]
  have HUL := Lib.hid hul
  have HD := Lib.hid hd
  clear hul hd
  go_enter Tryd.func28, Tryd.ntmps28
  go_wp2_with (refine ld_row rfl 42 _ rfl 32 5 ar42 sz42 w.heap.size 42 (u8s d) rfl HB.out HUL.out ?_)
  have h16 := born64 (w.alloc (Obj.cells (u8s d).toArray 42))
  simp only [World.size_alloc] at h16
  have hbel : Below w.heap.size w ((w.alloc (Obj.cells (u8s d).toArray 42)).alloc (Obj.cells #[Value.int .u8 0, Value.int .u8 0, Value.int .u8 0, Value.int .u8 0, Value.int .u8 0, Value.int .u8 0, Value.int .u8 0, Value.int .u8 0, Value.int .u8 0, Value.int .u8 0, Value.int .u8 0, Value.int .u8 0, Value.int .u8 0, Value.int .u8 0, Value.int .u8 0, Value.int .u8 0, Value.int .u8 0, Value.int .u8 0, Value.int .u8 0, Value.int .u8 0, Value.int .u8 0, Value.int .u8 0, Value.int .u8 0, Value.int .u8 0, Value.int .u8 0, Value.int .u8 0, Value.int .u8 0, Value.int .u8 0, Value.int .u8 0, Value.int .u8 0, Value.int .u8 0, Value.int .u8 0, Value.int .u8 0, Value.int .u8 0, Value.int .u8 0, Value.int .u8 0, Value.int .u8 0, Value.int .u8 0, Value.int .u8 0, Value.int .u8 0, Value.int .u8 0, Value.int .u8 0, Value.int .u8 0, Value.int .u8 0, Value.int .u8 0, Value.int .u8 0, Value.int .u8 0, Value.int .u8 0, Value.int .u8 0, Value.int .u8 0, Value.int .u8 0, Value.int .u8 0, Value.int .u8 0, Value.int .u8 0, Value.int .u8 0, Value.int .u8 0, Value.int .u8 0, Value.int .u8 0, Value.int .u8 0, Value.int .u8 0, Value.int .u8 0, Value.int .u8 0, Value.int .u8 0, Value.int .u8 0] 63)) := ((Below.refl _ _).alloc (Nat.le_refl _) _).alloc (by simp) _
  generalize hW : (w.alloc (Obj.cells (u8s d).toArray 42)).alloc (Obj.cells #[Value.int .u8 0, Value.int .u8 0, Value.int .u8 0, Value.int .u8 0, Value.int .u8 0, Value.int .u8 0, Value.int .u8 0, Value.int .u8 0, Value.int .u8 0, Value.int .u8 0, Value.int .u8 0, Value.int .u8 0, Value.int .u8 0, Value.int .u8 0, Value.int .u8 0, Value.int .u8 0, Value.int .u8 0, Value.int .u8 0, Value.int .u8 0, Value.int .u8 0, Value.int .u8 0, Value.int .u8 0, Value.int .u8 0, Value.int .u8 0, Value.int .u8 0, Value.int .u8 0, Value.int .u8 0, Value.int .u8 0, Value.int .u8 0, Value.int .u8 0, Value.int .u8 0, Value.int .u8 0, Value.int .u8 0, Value.int .u8 0, Value.int .u8 0, Value.int .u8 0, Value.int .u8 0, Value.int .u8 0, Value.int .u8 0, Value.int .u8 0, Value.int .u8 0, Value.int .u8 0, Value.int .u8 0, Value.int .u8 0, Value.int .u8 0, Value.int .u8 0, Value.int .u8 0, Value.int .u8 0, Value.int .u8 0, Value.int .u8 0, Value.int .u8 0, Value.int .u8 0, Value.int .u8 0, Value.int .u8 0, Value.int .u8 0, Value.int .u8 0, Value.int .u8 0, Value.int .u8 0, Value.int .u8 0, Value.int .u8 0, Value.int .u8 0, Value.int .u8 0, Value.int .u8 0, Value.int .u8 0] 63) = W at h16 hbel ⊢
  clear hW HB
  go_loopw [7] (fun i wr => ∃ k : Nat, k ≤ 32 ∧ i = .int .i64 k ∧ Blk wr (w.heap.size + 1) 63 (u8s (hexP d k)) ∧ Below w.heap.size w wr) (fun i _ => 32 - (intOf i).toNat)
  case atStart => exact ⟨0, by omega, rfl, h16, hbel⟩
  case round =>
    obtain ⟨k, hk, rfl, hm, hB⟩ := hrel
    have HM := Lib.hid hm
    have HBel := Lib.hid hB
    clear hm hB h16 hbel
    by_cases hlt : k < 32
    · have k0 : (0 : Int) ≤ (k : Int) := by omega
      have k1 : (k : Int) < 32 := by omega
      have ix := idx_row 42 5 32 ar42 u8_size u8_agg (u8s d) HUL.out k hlt _ (u8s_at (by rw [HD.out]; exact hlt))
      obtain ⟨c, hc⟩ : ∃ c, d.getD k 0 = c := ⟨_, rfl⟩
      rw [hc] at ix
      have HC := Lib.hid hc
      have cl := c.toNat_lt
      have xa := idx_hex (c.toNat / 16) (by omega)
      have xb := idx_hex (c.toNat % 16) (by omega)
      have an := and15 c
      obtain ⟨x1, hx1⟩ : ∃ x, c.toNat / 16 = x := ⟨_, rfl⟩
      obtain ⟨x2, hx2⟩ : ∃ x, c.toNat % 16 = x := ⟨_, rfl⟩
      rw [hx1] at xa
      rw [hx2] at xb an
      have dv : (c.toNat : Int) / 16 = (x1 : Int) := by omega
      have HX1 := Lib.hid hx1
      have HX2 := Lib.hid hx2
      have b0 := HM.out.free (2 * k)
      have b1 := HM.out.free (2 * k + 1)
      have c0 := HM.out.at_ (2 * k)
      have c1 := HM.out.at_ (2 * k + 1)
      rw [u8s_at (by rw [hexP_len d k HD.out hk]; omega)] at c0 c1
      generalize (hexP d k).getD (2 * k) 0 = y0 at c0
      generalize (hexP d k).getD (2 * k + 1) 0 = y1 at c1
      clear hc hx1 hx2 cl
      go_wp2
      go_region
      all_goals
        go_wp2
        go_roundw
        case rel =>
          refine ⟨k + 1, by omega, by go_num, ?_, ((HBel.out.setCell (p := ⟨w.heap.size + 1, 2 * k, none⟩) (by simp) _).setCell (p := ⟨w.heap.size + 1, 2 * k + 1, none⟩) (by simp) _).drew⟩
          have hst := (HM.out.store (2 * k) (.int .u8 ((hexC x1).toNat : Int))).store (2 * k + 1) (.int .u8 ((hexC x2).toNat : Int))
          rw [u8s_set, u8s_set, ← HX1.out, ← HX2.out, ← HC.out, hexP_succ d k HD.out hlt, HC.out, HX1.out, HX2.out] at hst
          exact hst
        case measure => simp [intOf]; omega
    · have hk32 : k = 32 := by omega
      subst hk32
      rw [hexP_full d HD.out] at HM
      have sl := fun w' => sl_all 63 5 64 ar63 u8_size (by omega) (w.heap.size + 1) w'
      have cv : (convert 30 9 (.slice (some ⟨w.heap.size + 1, 0, none⟩) 64 64)).run Tryd.prog wr = .ok (.string (str (hexL d))) wr := by
        have := conv HM.out.byt 64
        rw [hexL_len, HD.out] at this
        exact this
      go_wp2
      go_ret
      exact ⟨rfl, HBel.out⟩
end Go.Proofs.YtcnnijhfliahgaaDoor
