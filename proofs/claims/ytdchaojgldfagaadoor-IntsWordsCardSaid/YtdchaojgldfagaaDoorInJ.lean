/- Encode in every form; the smallest of a row of sizes. -/
import Derived.Test.YtdchaojgldfagaaDoorInG
namespace Go.Proofs.YtdchaojgldfagaaDoor
open Go.RowKit
set_option linter.unusedVariables false

theorem enc_any (f : Nat) (hf : f < 4) (A : Option Addr) (cap : Nat) (l : List Int) (W : World) (hl : Ints W A l) (h64 : All64 l) (hn : l.length ≤ 4096) (hcap : l.length ≤ cap) (hT : TabAt W) :
    Calls Tryd.prog 10 #[.int .i64 (f : Int), .slice A l.length cap] W (LaidI W (encI f l)) := by
  have : f = 0 ∨ f = 1 ∨ f = 2 ∨ f = 3 := by omega
  rcases this with rfl | rfl | rfl | rfl
  · exact enc0_any A cap l W hl h64 hn
  · exact enc1_any A cap l W hl h64 hn hcap
  · exact enc2_any A cap l W hl h64 hn hT
  · exact enc3_any A cap l W hl h64 hn hT

set_option maxHeartbeats 2000000 in
theorem minI_any (A : Option Addr) (cap : Nat) (l : List Int) (W : World) (hl : Ints W A l) (hn : l.length ≤ 4611686018427387904) (h0 : 0 < l.length) :
    Calls Tryd.prog 44 #[.slice A l.length cap] W fun e W' => e = .returned (.int .i64 (minL l)) ∧ W = W' := by
  obtain ⟨b, o, rfl, hc⟩ := hl 0 h0
  have hc0 : W.cell? ⟨b, o, none⟩ = some (.int .i64 l[0]) := hc
  have hm1 : l[0] = minL (l.take 1) := by
    cases l with
    | nil => simp at h0
    | cons a t => rfl
  rw [hm1] at hc0
  have hfull : minL l = minL (l.take l.length) := by rw [List.take_length]
  rw [hfull]
  obtain ⟨n, hn2⟩ : ∃ n, l.length = n := ⟨_, rfl⟩
  have HL := Lib.hid hl
  have HN := Lib.hid hn2
  rw [hn2] at hn h0 ⊢
  clear hl hc hm1 hfull hn2
  have h1 : ¬ (n : Int) < 1 := by omega
  go_enter Tryd.func44, Tryd.ntmps44
  go_wp2
  go_loop [3, 4] (fun m i => ∃ k : Nat, (1 ≤ k ∧ k ≤ n) ∧ i = .int .i64 k ∧ m = .int .i64 (minL (l.take k))) (fun _ i => n - (intOf i).toNat)
  case atStart => exact ⟨1, by omega, rfl, rfl⟩
  case round =>
    obtain ⟨k, hk, rfl, rfl⟩ := hrel
    by_cases hlt : k < n
    · obtain ⟨b', o', e', hck⟩ := HL.out k (by rw [HN.out]; exact hlt)
      injection e' with e'
      injection e' with e1 e2
      subst e1 e2
      have hs := minL_take l k (by rw [HN.out]; exact hlt) hk.1
      generalize l[k]'(by rw [HN.out]; exact hlt) = x at hck hs
      have HS := Lib.hid hs
      clear hs
      generalize minL (l.take k) = m at *
      go_wp2
      go_round
      case rel => exact ⟨k + 1, by omega, by go_num, by rw [HS.out]⟩
      case measure => simp [intOf]; omega
    · obtain rfl : k = n := by omega
      go_wp2
      go_ret
      exact ⟨rfl, rfl⟩

/-- The first place of a number. -/
def idxL (x : Int) : List Int → Nat
  | [] => 0
  | y :: t => if y = x then 0 else idxL x t + 1
theorem idxL_at {x : Int} : ∀ {l : List Int} {k : Nat} (hk : k < l.length), (∀ j (hj : j < l.length), j < k → l[j] ≠ x) → l[k] = x → idxL x l = k
  | y :: t, 0, _, _, h => by rw [idxL, if_pos (by simpa using h)]
  | y :: t, k + 1, hk, ha, h => by
    have h0 : y ≠ x := ha 0 (by simp) (by omega)
    rw [idxL, if_neg h0, idxL_at (l := t) (k := k) (by simpa using hk) (fun j hj hjk => ha (j + 1) (by simpa using hj) (by omega)) (by simpa using h)]

set_option maxRecDepth 100000 in
set_option maxHeartbeats 2000000 in
theorem idx_any (A : Option Addr) (c : Nat) (x : Int) (l : List Int) (W : World) (hl : Ints W A l) (hn : l.length ≤ 4096) (hx : x ∈ l) :
    Calls Tryd.prog 43 #[.slice A l.length c, .int .i64 x] W fun e W' => e = .returned (.int .i64 (idxL x l : Int)) ∧ W = W' := by
  obtain ⟨b, o, rfl, hc0⟩ := hl 0 (by cases l with | nil => cases hx | cons _ _ => simp)
  have HALL : Hid (∀ k (h : k < l.length), (∀ j (hj : j < l.length), j < k → l[j] ≠ x) → l[k] = x → idxL x l = k) := fun k h h1 h2 => idxL_at h h1 h2
  have HX := Lib.hid hx
  have HL := Lib.hid hl
  obtain ⟨n, hn2⟩ : ∃ n, l.length = n := ⟨_, rfl⟩
  have HN := Lib.hid hn2
  rw [hn2] at hn ⊢
  clear hl hn2 hx hc0
  go_enter Tryd.func43, Tryd.ntmps43
  go_wp2
  go_loop [8] (fun i => ∃ k : Nat, k ≤ n ∧ i = .int .i64 k ∧ ∀ j (hj : j < l.length), j < k → l[j] ≠ x) (fun i => n - (intOf i).toNat)
  case atStart => exact ⟨0, by omega, rfl, fun j _ h => by omega⟩
  case round =>
    obtain ⟨k, hk, rfl, hall⟩ := hrel
    have HAL := Lib.hid hall
    clear hall
    by_cases hlt : k < n
    · have hk1 : k < l.length := by rw [HN.out]; exact hlt
      obtain ⟨b', o', e', hc⟩ := HL.out k hk1
      injection e' with e'
      injection e' with e1 e2
      subst e1 e2
      have HK : Hid (k < n) := hlt
      by_cases hy : l[k] = x
      · have hres := HALL.out k hk1 HAL.out hy
        rw [hy] at hc
        have HRES := Lib.hid hres
        clear hres hy
        go_wp2
        go_ret
        exact ⟨by rw [HRES.out]; rfl, rfl⟩
      · have HNX : Hid (∀ j (hj : j < l.length), j < k + 1 → l[j] ≠ x) := fun j hj h => by
          by_cases e : j = k
          · subst e; exact hy
          · exact HAL.out j hj (by omega)
        have hyx : ¬ x = l[k] := fun e => hy e.symm
        generalize l[k] = y at hc hy hyx
        go_wp2
        go_round
        case rel => exact ⟨k + 1, HK.out, by go_num, HNX.out⟩
        case measure => simp [intOf]; have := HK.out; omega
    · obtain rfl : k = n := by omega
      obtain ⟨i, hi, he⟩ := List.getElem_of_mem HX.out
      exact absurd he (HAL.out i hi (by rw [← HN.out]; exact hi))

set_option maxRecDepth 100000 in
set_option maxHeartbeats 2000000 in
theorem small_any (A : Option Addr) (c : Nat) (l : List Int) (W : World) (hl : Ints W A l) (hn : l.length ≤ 4096) (h0 : 0 < l.length) :
    Calls Tryd.prog 29 #[.slice A l.length c] W fun e W' => e = .returned (.int .i64 (idxL (minL l) l : Int)) ∧ W = W' := by
  have hmin := minI_any A c l W hl (by omega) h0
  have hidx := idx_any A c (minL l) l W hl hn (minL_mem l (by intro e; subst e; simp at h0))
  generalize l.length = n at *
  generalize idxL (minL l) l = r at *
  generalize minL l = m at *
  clear hl
  go_enter Tryd.func29, Tryd.ntmps29
  go_wp2_with (first | (go_at_call 44; refine hmin.mono ?_; rintro e w1 ⟨rfl, rfl⟩) | (go_at_call 43; refine hidx.mono ?_; rintro e w1 ⟨rfl, rfl⟩))
  all_goals (go_ret; exact ⟨rfl, rfl⟩)
/-- The sizes that are known so far. -/
def szC (l : List Int) (k : Nat) : List Value := (List.range 4).map fun i => .int .i64 (if i < k then (sizeI l i : Int) else 0)
theorem szC_len (l : List Int) (k : Nat) : (szC l k).length = 4 := by simp [szC]
theorem szC_set (l : List Int) (k : Nat) (hk : k < 4) : (szC l k).set k (.int .i64 (sizeI l k : Int)) = szC l (k + 1) := by
  have : k = 0 ∨ k = 1 ∨ k = 2 ∨ k = 3 := by omega
  rcases this with rfl | rfl | rfl | rfl <;> simp [szC, List.range, List.range.loop]
/-- The sizes in every form. -/
def szL (l : List Int) : List Int := [(sizeI l 0 : Int), sizeI l 1, sizeI l 2, sizeI l 3]
theorem szC_full (l : List Int) : szC l 4 = (szL l).map (Value.int .i64) := by simp [szC, szL, List.range, List.range.loop]
theorem szC_at (l : List Int) (k : Nat) (hk : k < 4) : (szC l k)[k]? = some (.int .i64 0) := by
  have : k = 0 ∨ k = 1 ∨ k = 2 ∨ k = 3 := by omega
  rcases this with rfl | rfl | rfl | rfl <;> simp [szC, List.range, List.range.loop]
theorem idx_best (l : List Int) : idxL (minL (szL l)) (szL l) = bestL l := by
  obtain ⟨h1, h2⟩ := bestL_spec l
  have hmem := minL_mem (szL l) (by simp [szL])
  have hle := minL_le (szL l)
  generalize minL (szL l) = m at *
  generalize bestL l = b at *
  have g0 := h2 0 (by omega)
  have g1 := h2 1 (by omega)
  have g2 := h2 2 (by omega)
  have g3 := h2 3 (by omega)
  unfold szL at *
  simp only [List.mem_cons, List.not_mem_nil, or_false] at hmem
  have l0 := hle (sizeI l 0) (by simp)
  have l1 := hle (sizeI l 1) (by simp)
  have l2 := hle (sizeI l 2) (by simp)
  have l3 := hle (sizeI l 3) (by simp)
  simp only [idxL]
  have : b = 0 ∨ b = 1 ∨ b = 2 ∨ b = 3 := by omega
  clear h2 hle h1
  rcases this with rfl | rfl | rfl | rfl
  all_goals generalize sizeI l 0 = a at *
  all_goals generalize sizeI l 1 = b at *
  all_goals generalize sizeI l 2 = c at *
  all_goals generalize sizeI l 3 = d at *
  all_goals (repeat' split)
  all_goals omega
set_option maxRecDepth 100000 in
set_option maxHeartbeats 4000000 in
theorem best_big (A : Option Addr) (cap n : Nat) (W : World) (hn : n ≤ 4611686018427387904) (h : 4096 < n) :
    Calls Tryd.prog 12 #[.slice A n cap] W fun e W' => e = .returned (.tuple #[.int .i64 0, .int .i64 2]) ∧ Below W.heap.size W W' := by
  have henc := fun (w1 : World) => enc_bad 0 A cap n w1 hn (.inr (.inr h))
  have hbe : Below W.heap.size W (W.alloc (.cells #[Value.int .i64 0, .int .i64 0, .int .i64 0, .int .i64 0] 51)) := (Below.refl _ _).alloc (Nat.le_refl _) _
  have HENC := Lib.hid henc
  have HBE := Lib.hid hbe
  clear henc hbe
  go_enter Tryd.func12, Tryd.ntmps12
  go_wp2
  go_loopw [8] (fun x wr => x = .int .i64 0 ∧ Below W.heap.size W wr) (fun x _ => 0)
  case atStart => exact ⟨rfl, HBE.out⟩
  case round =>
    obtain ⟨rfl, hbel⟩ := hrel
    have HBEL := Lib.hid hbel
    clear hbel
    go_wp2_with (go_at_call 10; refine (HENC.out _).mono ?_; rintro e w1 ⟨rfl, rfl⟩)
    go_ret2
    exact ⟨rfl, HBEL.out⟩
set_option maxRecDepth 100000 in
set_option maxHeartbeats 4000000 in
theorem best_any (A : Option Addr) (cap : Nat) (l : List Int) (W : World) (hl : Ints W A l) (h64 : All64 l) (hn : l.length ≤ 4096) (hcap : l.length ≤ cap) (hT : TabAt W) :
    Calls Tryd.prog 12 #[.slice A l.length cap] W fun e W' => e = .returned (.tuple #[.int .i64 (bestL l : Int), .int .i64 0]) ∧ Below W.heap.size W W' := by
  have henc := fun f (hf : f < 4) (w1 : World) (hb : Below W.heap.size W w1) => enc_any f hf A cap l w1 (hl.keep hb) h64 hn hcap (hT.keep hb)
  have hsz : ∀ f, (encI f l).length = sizeI l f := fun f => rfl
  have hszb : ∀ f, sizeI l f ≤ 100001 := fun f => by
    have := encB_len (f := f) hn
    show (encI f l).length ≤ _
    unfold encI
    rw [List.length_cons]
    omega
  rw [← idx_best]
  have HENC := Lib.hid henc
  have HSZ := Lib.hid hsz
  have HSB := Lib.hid hszb
  have hb0 : Blk (W.alloc (.cells (szC l 0).toArray 51)) W.heap.size 51 (szC l 0) := Blk.born W _ _
  have hbe : Below W.heap.size W (W.alloc (.cells (szC l 0).toArray 51)) := (Below.refl _ _).alloc (Nat.le_refl _) _
  have HB0 := Lib.hid hb0
  have HBE := Lib.hid hbe
  generalize l.length = n at *
  clear hl h64 henc hsz hszb hT hb0 hbe
  go_enter Tryd.func12, Tryd.ntmps12
  go_wp2
  go_loopw [8] (fun x wr => ∃ k : Nat, k ≤ 4 ∧ x = .int .i64 k ∧ Blk wr W.heap.size 51 (szC l k) ∧ Below W.heap.size W wr) (fun x _ => 4 - (intOf x).toNat)
  case atStart => exact ⟨0, by omega, rfl, HB0.out, HBE.out⟩
  case round =>
    obtain ⟨k, hk, rfl, hbk, hbel⟩ := hrel
    by_cases hlt : k < 4
    · have hcall := HENC.out k hlt wr hbel
      have hset := szC_set l k hlt
      have hln := HSZ.out k
      have hsb := HSB.out k
      generalize encI k l = eb at hcall hln
      generalize sizeI l k = sk at hset hln hsb
      have HCALL := Lib.hid hcall
      have HBK := Lib.hid hbk
      have HBEL := Lib.hid hbel
      have HSET := Lib.hid hset
      have HLT : Hid (k < 4) := hlt
      have HAT : Hid ((szC l k)[k]? = some (.int .i64 0)) := szC_at l k hlt
      clear hcall hbk hbel hset
      subst hln
      unfold LaidI at HCALL
      go_wp2_with (go_at_call 10; refine HCALL.out.mono ?_; rintro e w1 ⟨v1, rfl, hown, hb1⟩; obtain ⟨A1, c1, rfl, _, _, _, _⟩ := hown.form; have HB1 := Lib.hid hb1; clear hown hb1 HCALL; have hbq := Blk.below HBK.out HB1.out (lt_of_block HBK.out); have HBQ := Lib.hid hbq; have hfz : w1.frozen? ⟨W.heap.size, k, none⟩ = false := hbq.free k; have hce : w1.cell? ⟨W.heap.size, k, none⟩ = some (.int .i64 0) := (hbq.at_ k).trans HAT.out; clear hbq)
      go_roundw
      case rel =>
        have hst := HBQ.out.store k (.int .i64 (eb.length : Int))
        rw [HSET.out] at hst
        exact ⟨k + 1, HLT.out, by go_num, hst, (HBEL.out.trans (HB1.out.mono (by exact HBEL.out.size))).setCell (Nat.le_refl _) _⟩
      case measure => simp [intOf]; omega
    · obtain rfl : k = 4 := by omega
      rw [szC_full] at hbk
      have hints : Ints wr (some ⟨W.heap.size, 0, none⟩) (szL l) := by
        intro i hi
        refine ⟨_, 0, rfl, ?_⟩
        rw [Nat.zero_add]
        exact (hbk.at_ i).trans (by simp [hi])
      have hsm := small_any (some ⟨W.heap.size, 0, none⟩) 4 (szL l) wr hints (by simp [szL]) (by simp [szL])
      have e4 : (szL l).length = 4 := rfl
      rw [e4] at hsm
      obtain ⟨r, hr⟩ : ∃ r, idxL (minL (szL l)) (szL l) = r := ⟨_, rfl⟩
      have HR := Lib.hid hr
      rw [hr] at hsm
      have HBEL := Lib.hid hbel
      clear hbel hints hbk hr
      go_wp2_with (go_at_call 29; refine hsm.mono ?_; rintro e w1 ⟨rfl, rfl⟩)
      go_ret2
      exact ⟨by rw [HR.out]; rfl, HBEL.out⟩
end Go.Proofs.YtdchaojgldfagaaDoor
