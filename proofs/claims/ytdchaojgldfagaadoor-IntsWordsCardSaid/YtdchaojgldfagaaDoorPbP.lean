/- Unpack's parts: the iterator over bytes as the law on loops wants it; numbers by a predicate on places; two results in cells. -/
import Derived.Test.YtdchaojgldfagaaDoorPbI
import Derived.Test.YtdchaojgldfagaaDoorPaK
namespace Go.Proofs.YtdchaojgldfagaaDoor
open Go.RowKit Go.Shelf
set_option linter.unusedVariables false
attribute [local go_sem] Oper.semAt_some

theorem ones_stops43 (n : Nat) (hn : 1 ≤ n) (Bl Bw B n₀ : Nat) (A : Option Addr) (cap w M : Nat) (ls : List UInt8) (xs : List (Fin M)) (hxs : xs.map Fin.val = posAt w 0 (ls.map UInt8.toNat)) (hw : w ≤ 64) (hlen : ls.length ≤ 40000) (hM : M ≤ 1000000)
    (w0 : World) (hn0 : n₀ ≤ w0.heap.size) (lBl : Bl < n₀) (lBw : Bw < n₀) (nBw : Bw ≠ B) (hBl : w0.cell? ⟨Bl, 0, none⟩ = some (.slice A ls.length cap)) (hBw : w0.cell? ⟨Bw, 0, none⟩ = some (.int .i64 (w : Int))) (hN : bytAt w0 B n₀ A ls) (hT : TabAt w0) (l2 : 0 < n₀) (n2 : 0 ≠ B) :
    SeqStopsK Fence.wide n Tryd.prog 68 #[.pointer (some ⟨Bl, 0, none⟩), .pointer (some ⟨Bw, 0, none⟩)] (fun x : Fin M => #[Value.int .i64 (x.val : Int)]) (Kept B n₀) (fun ys => ys = xs) (fun pre => pre <+: xs) xs.length w0 := fun l J Jx W hW hJ hJx hY h0 => by
  refine ones43 n hn l Bl Bw B n₀ A cap w M ls xs hxs hw hlen hM J Jx (fun pre W h => hJ pre W _ none h (grown_drew W) (fun r e => by cases e)) hY W ?_ ?_ lBw nBw ?_ ?_ l2 n2 h0
  · exact (hW.cell (p := ⟨Bl, 0, none⟩) (by show Bl < _; omega)).trans hBl
  · exact (hW.cell (p := ⟨Bw, 0, none⟩) (by show Bw < _; omega)).trans hBw
  · intro k hk
    obtain ⟨b, o, e, h1, h2, h3⟩ := hN k hk
    exact ⟨b, o, e, h1, h2, (hW.cell (p := ⟨b, o + k, none⟩) (by show b < _; omega)).trans h3⟩
  · exact hT.keep hW
theorem ones34 (n : Nat) (w : Nat) (A : Option Addr) (len cap : Nat) (W : World) : CallsIn Fence.wide n Tryd.prog 66 #[.int .i64 (w : Int), .slice A len cap] W fun e W' =>
    e = .returned (.func (.func 68) #[] #[.pointer (some ⟨W.heap.size + 1, 0, none⟩), .pointer (some ⟨W.heap.size, 0, none⟩)]) ∧ W' = (W.alloc (.cells #[.int .i64 (w : Int)] 3)).alloc (.cells #[.slice A len cap] 24) := by
  refine callsIn_of_wp Tryd.func66 rfl trivial ?_ rfl
  simp only [Tryd.ntmps66, List.size_toArray, List.length_cons, List.length_nil, Nat.reduceAdd, Nat.reduceSub, Array.replicate_succ, Array.replicate_zero, List.push_toArray, List.append_toArray, List.nil_append, List.cons_append]
  gi_wp2
  go_ret
  exact ⟨rfl, rfl⟩

/-- The i-th number of w bits, by the places of its bits. -/
def nuP (w : Nat) (P : Nat → Bool) (i : Nat) : W64 := BitVec.ofNat 64 (numOf w fun k => P (i * w + k))
theorem nuP_nat {w : Nat} (hw : w ≤ 64) (P : Nat → Bool) (i : Nat) : (nuP w P i).toNat = numOf w fun k => P (i * w + k) := by
  unfold nuP
  rw [BitVec.toNat_ofNat]
  exact Nat.mod_eq_of_lt (Nat.lt_of_lt_of_le (numOf_lt _ w) (Nat.pow_le_pow_right (by decide) hw))
theorem nuP_congr {w : Nat} {P R : Nat → Bool} {i : Nat} (h : ∀ k < w, P (i * w + k) = R (i * w + k)) : nuP w P i = nuP w R i := by
  unfold nuP
  rw [numOf_congr h]
def unL (w n : Nat) (P : Nat → Bool) : List W64 := (List.range n).map (nuP w P)
theorem unL_len (w n : Nat) (P : Nat → Bool) : (unL w n P).length = n := by simp [unL]
theorem unL_get {w n : Nat} (P : Nat → Bool) {j : Nat} (hj : j < n) : (unL w n P).getD j 0 = nuP w P j := by simp [unL, List.getD, hj]
theorem unL_none (w n : Nat) : unL w n (fun _ => false) = List.replicate n 0 := by
  have h : ∀ m, numOf m (fun _ => false) = 0 := by
    intro m
    induction m with
    | zero => rfl
    | succ m ih => simp [numOf, ih]
  apply List.ext_getElem
  · simp [unL]
  · intro i h1 h2
    simp [unL, nuP, h]
theorem unL_set {w n : Nat} (hw : w ≤ 64) (P : Nat → Bool) {j r : Nat} (hj : j < n) (hr : r < w) : (unL w n P).set j (nuP w P j ||| BitVec.ofNat 64 (2 ^ r)) = unL w n (fun i => P i || i == j * w + r) := by
  have h2 : 2 ^ r < 2 ^ w := Nat.pow_lt_pow_right (by decide) hr
  have h3 : 2 ^ r < 2 ^ 64 := Nat.lt_of_lt_of_le h2 (Nat.pow_le_pow_right (by decide) hw)
  apply List.ext_getElem?
  intro i
  rw [List.getElem?_set]
  simp only [unL, List.length_map, List.length_range, List.getElem?_map]
  by_cases hi : i < n
  · rw [List.getElem?_range hi]
    simp only [Option.map_some]
    by_cases e : j = i
    · subst e
      rw [if_pos rfl, if_pos hj]
      congr 1
      apply BitVec.eq_of_toNat_eq
      rw [BitVec.toNat_or, nuP_nat hw, nuP_nat hw, BitVec.toNat_ofNat, Nat.mod_eq_of_lt h3]
      symm
      refine numOf_eq (Nat.or_lt_two_pow (numOf_lt _ w) h2) fun t ht => ?_
      rw [Nat.testBit_or, numOf_bit, Nat.testBit_two_pow]
      have : (j * w + t == j * w + r) = decide (r = t) := by
        by_cases e : r = t
        · subst e; simp
        · simp [e]; omega
      simp [ht, this]
    · rw [if_neg e]
      congr 1
      refine nuP_congr fun t ht => ?_
      have : (i * w + t == j * w + r) = false := by
        rw [beq_eq_false_iff_ne]
        intro h
        have e1 : (i * w + t) / w = i := by rw [Nat.add_comm, Nat.add_mul_div_right _ _ (by omega), Nat.div_eq_of_lt ht, Nat.zero_add]
        have e2 : (j * w + r) / w = j := by rw [Nat.add_comm, Nat.add_mul_div_right _ _ (by omega), Nat.div_eq_of_lt hr, Nat.zero_add]
        rw [h, e2] at e1
        exact e e1
      simp [this]
  · rw [List.getElem?_eq_none (by simp; omega), if_neg (by omega)]
    rfl
end Go.Proofs.YtdchaojgldfagaaDoor
