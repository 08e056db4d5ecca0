/- The walk of pack.Pack (18). -/
import Derived.Test.YtdchaojgldfagaaDoorPaI
import Derived.Test.YtdchaojgldfagaaDoorPaK
namespace Go.Proofs.YtdchaojgldfagaaDoor
open Go.RowKit Go.Shelf
set_option linter.unusedVariables false
attribute [local go_sem] Oper.semAt_some

theorem grown_drew (W : World) : W.grownBy W.drew none := ⟨rfl, rfl, rfl, Nat.le_refl _, fun _ _ _ => rfl⟩
theorem ones_stops (n : Nat) (hn : 1 ≤ n) (Bl Bw B n₀ : Nat) (A : Option Addr) (cap w M : Nat) (ls : List W64) (xs : List (Fin M)) (hxs : xs.map Fin.val = posAt w 0 (ls.map BitVec.toNat)) (hw : w ≤ 64) (hlen : ls.length ≤ 4096) (hM : M ≤ 1000000)
    (w0 : World) (hn0 : n₀ ≤ w0.heap.size) (lBl : Bl < n₀) (lBw : Bw < n₀) (nBw : Bw ≠ B) (hBl : w0.cell? ⟨Bl, 0, none⟩ = some (.slice A ls.length cap)) (hBw : w0.cell? ⟨Bw, 0, none⟩ = some (.int .i64 (w : Int))) (hN : numAt w0 B n₀ A ls) (hT : TabAt w0) (l2 : 0 < n₀) (n2 : 0 ≠ B) :
    SeqStopsK Fence.wide n Tryd.prog 63 #[.pointer (some ⟨Bl, 0, none⟩), .pointer (some ⟨Bw, 0, none⟩)] (fun x : Fin M => #[Value.int .i64 (x.val : Int)]) (Kept B n₀) (fun ys => ys = xs) (fun pre => pre <+: xs) xs.length w0 := fun l J Jx W hW hJ hJx hY h0 => by
  refine ones41 n hn l Bl Bw B n₀ A cap w M ls xs hxs hw hlen hM J Jx (fun pre W h => hJ pre W _ none h (grown_drew W) (fun r e => by cases e)) hY W ?_ ?_ lBw nBw ?_ ?_ l2 n2 h0
  · exact (hW.cell (p := ⟨Bl, 0, none⟩) (by show Bl < _; omega)).trans hBl
  · exact (hW.cell (p := ⟨Bw, 0, none⟩) (by show Bw < _; omega)).trans hBw
  · intro k hk
    obtain ⟨b, o, e, h1, h2, h3⟩ := hN k hk
    exact ⟨b, o, e, h1, h2, (hW.cell (p := ⟨b, o + k, none⟩) (by show b < _; omega)).trans h3⟩
  · exact hT.keep hW
theorem ones33 (n : Nat) (w : Nat) (A : Option Addr) (len cap : Nat) (W : World) : CallsIn Fence.wide n Tryd.prog 56 #[.int .i64 (w : Int), .slice A len cap] W fun e W' =>
    e = .returned (.func (.func 63) #[] #[.pointer (some ⟨W.heap.size + 1, 0, none⟩), .pointer (some ⟨W.heap.size, 0, none⟩)]) ∧ W' = (W.alloc (.cells #[.int .i64 (w : Int)] 3)).alloc (.cells #[.slice A len cap] 63) := by
  refine callsIn_of_wp Tryd.func56 rfl trivial ?_ rfl
  simp only [Tryd.ntmps56, List.size_toArray, List.length_cons, List.length_nil, Nat.reduceAdd, Nat.reduceSub, Array.replicate_succ, Array.replicate_zero, List.push_toArray, List.append_toArray, List.nil_append, List.cons_append]
  gi_wp2
  go_ret
  exact ⟨rfl, rfl⟩
theorem made_u8s (k : Nat) : madeCells (Value.int .u8 0).cells k = (u8s (List.replicate k 0)).toArray := by
  apply Array.ext
  · simp [madeCells, u8s, Value.cells]
  · intro i h1 h2
    have e1 : i % 1 = 0 := Nat.mod_one i
    simp [madeCells, u8s, Value.cells, e1]
theorem mk_in {F : Fence} {n : Nat} {ops : Array Oper} {rest : List Oper} {o : Oper} {a : Act} {Q : Exit → Act → World → Prop} {w : World} (hgd : o.guard = none) (l c : Operand)
    (hop : o.op = Op.makeSlice 24 l c) (k : Nat) (hl : a.eval l = .int .i64 (k : Int)) (hc : a.eval c = .int .i64 (k : Int)) (hsz : k ≤ 281474976710656)
    (h : wpListIn F n Tryd.prog ops Q rest (a.put o.dst (.slice (some ⟨w.heap.size, 0, none⟩) k k)) (w.alloc (.cells (u8s (List.replicate k 0)).toArray 5))) : wpListIn F n Tryd.prog ops Q (o :: rest) a w := by
  obtain ⟨i0, hti, hz0, hz1, hz2⟩ := info_parts Tryd.info5
  have hr := run_make (P := Tryd.prog) w 24 5 i0 (.int .u8 0) Tryd.underlying24 hti hz0 .i64 .i64 k k (by omega) (by omega) (by rw [hz2]; omega) (by omega)
  simp only [Int.toNat_natCast] at hr
  rw [hz1, Nat.mul_one, made_u8s] at hr
  refine wpListIn_plain hgd fun K hK' => ?_
  unfold Oper.wpIn
  refine ⟨?_, ?_⟩
  · simp [Oper.about, hop]
  · rw [Oper.semAt_plain F _ _ (by rw [hop]; intro c hc'; cases hc')]
    simp [execOp, hop, hl, hc, hr, Result.andThen]
    exact hK' _ _ h
theorem lift_fin (M : Nat) : ∀ L : List Nat, (∀ p ∈ L, p < M) → ∃ xs : List (Fin M), xs.map Fin.val = L
  | [], _ => ⟨[], rfl⟩
  | p :: t, h => by
    obtain ⟨xs, hx⟩ := lift_fin M t (fun q hq => h q (List.mem_cons_of_mem _ hq))
    exact ⟨⟨p, h p (by simp)⟩ :: xs, by rw [List.map_cons, hx]⟩
/-- The places that numbers of w bits each take. -/
def bitsP (w : Nat) (ls : List W64) (i : Nat) : Bool := decide (i ∈ posAt w 0 (ls.map BitVec.toNat))
theorem orL_ge (l : List W64) : ∀ k (h : k < l.length), (l[k]).toNat ≤ (orL l).toNat := by
  intro k h
  have key : ∀ (t : List W64) (a : W64), a.toNat ≤ (t.foldl (· ||| ·) a).toNat ∧ ∀ x ∈ t, x.toNat ≤ (t.foldl (· ||| ·) a).toNat := by
    intro t
    induction t with
    | nil => intro a; simp
    | cons y t ih =>
      intro a
      obtain ⟨h1, h2⟩ := ih (a ||| y)
      rw [BitVec.toNat_or] at h1
      refine ⟨Nat.le_trans Nat.left_le_or h1, ?_⟩
      intro x hx
      rcases List.mem_cons.1 hx with rfl | hx
      · exact Nat.le_trans Nat.right_le_or h1
      · exact h2 x hx
  exact (key l 0).2 _ (List.getElem_mem h)
theorem of_width {l : List W64} {w : Nat} (hw : w ≤ 64) : widL l ≤ w ↔ ∀ k (h : k < l.length), (l[k]).toNat < 2 ^ w := by
  unfold widL
  rw [bitLen_le_iff (orL l).isLt hw]
  constructor
  · intro h k hk
    exact Nat.lt_of_le_of_lt (orL_ge l k hk) h
  · intro h
    have key : ∀ (t : List W64) (a : W64), a.toNat < 2 ^ w → (∀ x ∈ t, x.toNat < 2 ^ w) → (t.foldl (· ||| ·) a).toNat < 2 ^ w := by
      intro t
      induction t with
      | nil => intro a ha _; exact ha
      | cons y t ih => 
        intro a ha ht
        exact ih (a ||| y) (by rw [BitVec.toNat_or]; exact Nat.or_lt_two_pow ha (ht y (by simp))) (fun x hx => ht x (List.mem_cons_of_mem _ hx))
    refine key l 0 (by simpa using Nat.two_pow_pos w) ?_
    intro x hx
    obtain ⟨k, hk, rfl⟩ := List.getElem_of_mem hx
    exact h k hk
theorem pos_lt {w : Nat} {ls : List W64} (hs : ∀ k (h : k < ls.length), (ls[k]).toNat < 2 ^ w) : ∀ p ∈ posAt w 0 (ls.map BitVec.toNat), p < ls.length * w := by
  intro p hp
  obtain ⟨k, hk, j, hj, rfl⟩ := (mem_posAt w _ 0 (by intro x hx; obtain ⟨y, _, rfl⟩ := List.mem_map.1 hx; exact y.isLt) p).1 hp
  simp only [List.length_map] at hk
  simp only [List.getElem_map] at hj
  have hjw : j < w := by
    apply Nat.lt_of_not_le
    intro h
    rw [Nat.testBit_lt_two_pow (Nat.lt_of_lt_of_le (hs k hk) (Nat.pow_le_pow_right (by decide) h))] at hj
    cases hj
  have : (k + 1) * w ≤ ls.length * w := Nat.mul_le_mul_right w (by omega)
  rw [Nat.add_mul] at this
  simp only [Nat.zero_add]
  omega
end Go.Proofs.YtdchaojgldfagaaDoor
