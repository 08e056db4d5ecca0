/- Rows of numbers of the call's own; the bytes of two lists, one behind the other. -/
import Derived.Test.YtdchaojgldfagaaDoorPaX
import Derived.Test.YtdchaojgldfagaaDoorLaws
namespace Go.Proofs.YtdchaojgldfagaaDoor
open Go.RowKit
set_option linter.unusedVariables false

def OwnN (w : World) (B : Nat) (v : Value) (l : List W64) : Prop := w.ownsRow B 46 1 v l.length (n64s l)
theorem n64s_app (l m : List W64) : n64s (l ++ m) = n64s l ++ n64s m := by simp [n64s]
theorem n64s_len (l : List W64) : (n64s l).length = l.length := by simp [n64s]
theorem n64s_one (l : List W64) : ∀ u ∈ n64s l, u.oneCell' = true := by
  intro u hu
  obtain ⟨c, _, rfl⟩ := List.mem_map.1 hu
  rfl
theorem info52 : (Tryd.prog.info? 46).map (fun i => (i.zero, i.size, i.bytes)) = some (some (.int .u64 0), 1, 8) := by kernel_rfl
theorem Num.nil {w : World} {l : List W64} (h : Num w none l) : l = [] := by
  cases l with
  | nil => rfl
  | cons a t => obtain ⟨b, o, e, _⟩ := h 0 (by simp); cases e
theorem Num.news {w : World} {ad : Addr} {l : List W64} (h : Num w (some ad) l) : ∀ j u, (n64s l)[j]? = some u → w.cell? (ad.add j) = some u := by
  intro j u hu
  have hj : j < l.length := by
    have := (List.getElem?_eq_some_iff.1 hu).1
    rwa [n64s_len] at this
  obtain ⟨b, o, e, hc⟩ := h j hj
  injection e with e
  subst e
  rw [Addr.add_lit, hc, ← hu]
  simp [n64s, hj]
theorem OwnN.form {w : World} {B : Nat} {v : Value} {l : List W64} (h : OwnN w B v l) : ∃ A c, v = .slice A l.length c ∧ Num w A l ∧ (A = none → c = 0) := by
  rcases h.2 with ⟨rfl, h0⟩ | ⟨g, cap, cur, rfl, hb, hg, hn, hm, hs, ht⟩
  · have : l = [] := List.length_eq_zero_iff.1 h0
    subst this
    exact ⟨none, 0, rfl, fun k hk => by simp at hk, fun _ => rfl⟩
  · refine ⟨some ⟨g, 0, none⟩, cap, rfl, ?_, by simp⟩
    intro k hk
    refine ⟨g, 0, rfl, ?_⟩
    have := World.ownsRow.cells h (g := g) rfl k (.int .u64 ((l[k]).toNat : Int)) (by simp [n64s, hk])
    rwa [Addr.add_lit] at this
theorem mk_num {ops : Array Oper} {rest : List Oper} {o : Oper} {a : Act} {Q : Exit → Act → World → Prop} {w : World} (w0 : World) (hgd : o.guard = none) (l c : Operand)
    (hop : o.op = Op.makeSlice 63 l c) (C : Int) (n : Nat) (hl : a.eval l = .int .i64 0) (hc : a.eval c = .int .i64 C) (hC : C = (n : Int)) (hsz : n ≤ 2814749767106) (hbel : Below w0.heap.size w0 w)
    (h : ∀ v w', OwnN w' w0.heap.size v [] → Below w0.heap.size w0 w' → wpList Tryd.prog ops Q rest (a.put o.dst v) w') : wpList Tryd.prog ops Q (o :: rest) a w := by
  obtain ⟨i0, hti, hz0, hz1, hz2⟩ := info_parts info52
  refine wpList_make_own w hgd l c 63 hop w0.heap.size 46 i0 (.int .u64 0) 1 Tryd.underlying63 hti hz0 hz1 .i64 .i64 C n hl hc hC (by rw [hz2]; omega) (by unfold maxLen; omega) hbel.size ?_
  intro w' h1 h2
  exact h _ w' h1 (hbel.grown h2 hbel.size (by simp))
theorem app_num {ops : Array Oper} {rest : List Oper} {o : Oper} {a : Act} {Q : Exit → Act → World → Prop} {w : World} (w0 : World) (hgd : o.guard = none) (s x : Operand)
    (ho : o.op = .call { callee := .builtin .append, args := #[s, x], argTypes := #[63, 63] }) (v : Value) (d : List W64) (hs : a.eval s = v) (hown : OwnN w w0.heap.size v d) (hbel : Below w0.heap.size w0 w)
    (A : Option Addr) (m c : Nat) (q : List W64) (hx : a.eval x = .slice A m c) (hm : m = q.length) (hq : Num w A q) (hn : A = none → c = 0) (hsz : d.length + q.length ≤ 17000000000000)
    (h : ∀ v' w', OwnN w' w0.heap.size v' (d ++ q) → Below w0.heap.size w0 w' → wpList Tryd.prog ops Q rest (a.put o.dst v') w') : wpList Tryd.prog ops Q (o :: rest) a w := by
  obtain ⟨i0, hti, hz0, hz1, hz2⟩ := info_parts info52
  subst hm
  cases A with
  | none =>
    obtain rfl := hq.nil
    obtain rfl := hn rfl
    refine wpList_append_own_none hgd s x 63 ho w0.heap.size 46 i0 1 Tryd.underlying63 hti v d.length (n64s d) hs hown hx (h v w ?_ hbel)
    rw [List.append_nil]; exact hown
  | some ad =>
    refine wpList_append_own w hgd s x 63 ho w0.heap.size 46 i0 (.int .u64 0) 1 8 Tryd.underlying63 hti hz0 hz1 hz2 rfl (by decide) v d.length (n64s d) hs hown ad q.length c (n64s q) hx (by rw [n64s_len]; omega) hq.news (n64s_one q) (by unfold maxLen; omega) (by omega) hbel.size ?_
    intro v' w' h1 h2 h5
    refine h v' w' ?_ (hbel.grown h2 hbel.size (fun k hk => (World.ownsRow.lt hown k hk).1))
    show w'.ownsRow w0.heap.size 46 1 v' (d ++ q).length (n64s (d ++ q))
    rw [List.length_append, n64s_app]; exact h1

theorem orL_app (a c : List W64) : orL (a ++ c) = orL a ||| orL c := by
  have key : ∀ (t : List W64) (x : W64), t.foldl (· ||| ·) x = x ||| orL t := by
    intro t
    induction t with
    | nil => intro x; simp [orL]
    | cons y t ih =>
      intro x
      have e : orL (y :: t) = (0 ||| y) ||| orL t := ih (0 ||| y)
      rw [e]
      show t.foldl (· ||| ·) (x ||| y) = _
      rw [ih (x ||| y)]
      simp [BitVec.or_assoc]
  unfold orL
  rw [List.foldl_append]
  exact key c _
theorem widL_app (a c : List W64) : widL (a ++ c) = max (widL a) (widL c) := by
  unfold widL
  rw [orL_app, bitLen_or]
theorem packL_add (m n : Nat) (P : Nat → Bool) : packL (m + n) P = packL m P ++ packL n (fun i => P (8 * m + i)) := by
  unfold packL
  rw [List.range_add, List.map_append, List.map_map]
  congr 1
  apply List.map_congr_left
  intro j _
  show byP P (m + j) = byP (fun i => P (8 * m + i)) j
  unfold byP
  congr 1
  apply numOf_congr
  intro t _
  show P (8 * (m + j) + t) = P (8 * m + (8 * j + t))
  congr 1
  omega
theorem size8 (n t : Nat) : (n * (8 * t) + 7) / 8 = n * t := by
  rw [show n * (8 * t) = 8 * (n * t) by rw [Nat.mul_left_comm]]
  omega
theorem packL_app {t : Nat} {a c : List W64} (ht : t ≤ 8) (ha : widL a ≤ 8 * t) (hc : widL c ≤ 8 * t) :
    packL (((a ++ c).length * (8 * t) + 7) / 8) (bitsP (8 * t) (a ++ c)) = packL ((a.length * (8 * t) + 7) / 8) (bitsP (8 * t) a) ++ packL ((c.length * (8 * t) + 7) / 8) (bitsP (8 * t) c) := by
  have hac : widL (a ++ c) ≤ 8 * t := by rw [widL_app]; omega
  have e1 := bitsP_eq ((of_width (by omega)).1 hac)
  have e2 := bitsP_eq ((of_width (by omega)).1 ha)
  have e3 := bitsP_eq ((of_width (by omega)).1 hc)
  rw [size8, size8, size8, List.length_append, Nat.add_mul, packL_add]
  have hm : ∀ n : Nat, 8 * (n * t) = n * (8 * t) := fun n => (Nat.mul_left_comm n 8 t).symm
  congr 1
  · apply packL_congr
    intro i hi
    rw [hm] at hi
    have ht0 : 0 < 8 * t := by
      apply Nat.pos_of_ne_zero
      intro h; rw [h, Nat.mul_zero] at hi; omega
    have hk : i / (8 * t) < a.length := (Nat.div_lt_iff_lt_mul ht0).2 hi
    have hi2 : i < (a ++ c).length * (8 * t) := by rw [List.length_append, Nat.add_mul]; omega
    rw [e1, e2, decide_eq_true hi, decide_eq_true hi2]
    simp only [List.getD, List.getElem?_append_left hk]
  · apply packL_congr
    intro i hi
    rw [hm] at hi
    have ht0 : 0 < 8 * t := by
      apply Nat.pos_of_ne_zero
      intro h; rw [h, Nat.mul_zero] at hi; omega
    rw [hm]
    have hi2 : a.length * (8 * t) + i < (a ++ c).length * (8 * t) := by rw [List.length_append, Nat.add_mul]; omega
    rw [e1, e3, decide_eq_true hi, decide_eq_true hi2]
    have q1 : (a.length * (8 * t) + i) / (8 * t) = a.length + i / (8 * t) := by
      rw [Nat.add_comm, Nat.add_mul_div_right _ _ ht0, Nat.add_comm]
    have q2 : (a.length * (8 * t) + i) % (8 * t) = i % (8 * t) := by
      rw [Nat.add_comm, Nat.add_mul_mod_self_right]
    rw [q1, q2]
    simp only [List.getD, List.getElem?_append_right (Nat.le_add_right _ _), Nat.add_sub_cancel_left]

def bsOf (v : Nat) (l : List W64) : List UInt8 := if widL l ≤ v then packL ((l.length * v + 7) / 8) (bitsP v l) else []
def erOf (v : Nat) (l : List W64) : Int := if widL l ≤ v then 0 else 2
theorem pk_any (v : Nat) (A : Option Addr) (cap : Nat) (ls : List W64) (W : World) (hl : Num W A ls) (hv : v ≤ 64) (hn : ls.length ≤ 4096) (hT : TabAt W) :
    Calls Tryd.prog 39 #[.int .i64 (v : Int), .slice A ls.length cap] W (PackR W (bsOf v ls) (erOf v ls)) := by
  by_cases hwd : widL ls ≤ v
  · have hM : (ls.length * v + 7) / 8 ≤ 32768 := by
      have := Nat.mul_le_mul hn hv
      omega
    have e1 : bsOf v ls = packL ((ls.length * v + 7) / 8) (bitsP v ls) := if_pos hwd
    have e2 : erOf v ls = 0 := if_pos hwd
    rw [e1, e2]
    refine (pack_good v A cap ls W hl hv hn hwd hT).mono ?_
    rintro e W' ⟨rfl, h1, h2⟩
    exact ⟨_, _, by rw [packL_len], h1.byt, by rw [packL_len]; exact Nat.le_refl _, hM, by simp, h2⟩
  · have e1 : bsOf v ls = [] := if_neg hwd
    have e2 : erOf v ls = 2 := if_neg hwd
    rw [e1, e2]
    refine (pack_bad v A cap ls W hl (by omega) (.inr (by omega))).mono ?_
    rintro e W' ⟨rfl, rfl⟩
    exact ⟨_, _, rfl, Byt.empty _ _, Nat.le_refl _, by omega, fun _ => rfl, Below.refl _ _⟩
end Go.Proofs.YtdchaojgldfagaaDoor
