/- The iterator over a list's runs: it keeps what is left in a variable of its own. -/
import Derived.RangeFuncNested
import Derived.RangeFuncBound
import Derived.RangeFuncCalls
import Derived.RangeFuncLeaves
import Derived.Shelf.Abstract
import Derived.Shelf.RegionOpen
import Derived.OwnWalkIn
import Derived.TacticsInMore
import Derived.LoopNIn
import Derived.LoopIn
import Derived.Test.YtdchaojgldfagaaDoorInE
namespace Go.Proofs.YtdchaojgldfagaaDoor
open Go.RowKit Go.Shelf
set_option linter.unusedVariables false
attribute [local go_sem] Oper.semAt_some

theorem ints_drop {w : World} {b o : Nat} {l : List Int} (h : Ints w (some ⟨b, o, none⟩) l) (k : Nat) : Ints w (some ⟨b, o + k, none⟩) (l.drop k) := by
  intro i hi
  rw [List.length_drop] at hi
  obtain ⟨b', o', e, hc⟩ := h (k + i) (by omega)
  injection e with e
  injection e with e1 e2
  subst e1 e2
  refine ⟨b, o + k, rfl, ?_⟩
  rw [List.getElem_drop, Nat.add_assoc]
  exact hc
theorem ints_nil (w : World) (A : Option Addr) : Ints w A [] := fun i hi => absurd hi (by simp)

/-- What an iterator's round keeps: all that lay below, and blocks that are no bytes and no boxes of bytes. -/
def keepsT : Obj → Bool
  | .cells _ t => !(t == 5) && !(t == 24)
  | _ => false
structure KpI (n₀ : Nat) (W W' : World) : Prop where
  size : W.heap.size ≤ W'.heap.size
  low : ∀ k, k < n₀ → W'.heap[k]? = W.heap[k]?
  typ : ∀ (k : Nat) (o : Obj), W.heap[k]? = some o → keepsT o = true → W'.heap[k]? = some o
theorem KpI.refl (n₀ : Nat) (W : World) : KpI n₀ W W := ⟨Nat.le_refl _, fun _ _ => rfl, fun _ _ h _ => h⟩
theorem KpI.trans {n₀ : Nat} {a b c : World} (h : KpI n₀ a b) (k : KpI n₀ b c) : KpI n₀ a c :=
  ⟨Nat.le_trans h.size k.size, fun i hi => (k.low i hi).trans (h.low i hi), fun i o hi ho => k.typ i o (h.typ i o hi ho) ho⟩
theorem KpI.blk {n₀ : Nat} {a b : World} (h : KpI n₀ a b) {X : Nat} {t : TypeId} {cs : List Value} (hb : Blk a X t cs) (ht : (!(t == 5) && !(t == 24)) = true) : Blk b X t cs := h.typ X _ hb ht
theorem Ints.low {a b : World} {n₀ : Nat} (h : ∀ k, k < n₀ → b.heap[k]? = a.heap[k]?) {A : Option Addr} {l : List Int} (hl : Ints a A l) (hlt : ∀ bl o, A = some ⟨bl, o, none⟩ → l ≠ [] → bl < n₀) : Ints b A l := by
  intro i hi
  obtain ⟨bl, o, e, hc⟩ := hl i hi
  exact ⟨bl, o, e, (World.cell?_of_block (h bl (hlt bl o e (by intro e0; subst e0; simp at hi)))).trans hc⟩
/-- How much is left, at the iterator's variable. -/
def restLen (i : Value) (W : World) : Nat :=
  match i with
  | .pointer (some p) => match W.cell? p with
    | some (.slice _ n _) => n
    | _ => 0
  | _ => 0
theorem restLen_of {W : World} {q : Nat} {t : TypeId} {R : Option Addr} {n c : Nat} (h : Blk W q t [.slice R n c]) : restLen (.pointer (some ⟨q, 0, none⟩)) W = n := by
  have := (h.at_ 0).trans rfl
  unfold restLen
  simp only [this]
  rfl

theorem box_born {W3 : World} {q : Nat} {v : Value} {t : TypeId} : Blk ((W3.setCell ⟨q, 0, none⟩ v).alloc (.cells #[v] t)) W3.heap.size t [v] := by
  have hbo := Blk.born (W3.setCell ⟨q, 0, none⟩ v) t [v]
  have hs : (W3.setCell ⟨q, 0, none⟩ v).heap.size = W3.heap.size := by simp [World.setCell]
  rw [hs] at hbo
  exact hbo
/-- A round's end: what is left lies in a box laid anew. -/
theorem round_end {n₀ q b o c m k len n2 c2 : Nat} {wr W3 W : World} {r : List Int} {ls : List (Nat × Int)} {J : Nat → World → Prop}
    (hJ : ∀ s a b row, J s a → a.grownBy b row → (∀ r, row = some r → W.heap.size ≤ r ∧ ∃ c, a.heap[r]? = some (.cells c 22)) → J s b) (hq : W.heap.size ≤ q) (hk3 : KpI n₀ wr W3) (hir : Ints wr (some ⟨b, o, none⟩) r) (hbn : b < n₀) (hnW : n₀ ≤ W.heap.size) (hln : r.length = len)
    (hb3 : Blk W3 q 22 [.slice (some ⟨b, o, none⟩) len c]) (hj3 : J (k + 1) W3) (hm : m ≤ len) (hrc : len ≤ c) (hr4 : len ≤ 4096) (hd : ls.drop (k + 1) = runsL (r.drop m)) (hk : k < ls.length) {R : Option Addr} (hR : R = some ⟨b, o + m, none⟩ ∨ len = m) (hn2 : len - m = n2) (hc2 : c2 = c - m) :
    ∃ (k' q' : Nat) (R' : Option Addr) (c' : Nat) (r' : List Int), Value.pointer (some ⟨W3.heap.size, 0, none⟩) = .pointer (some ⟨q', 0, none⟩) ∧ W.heap.size ≤ q' ∧ Blk ((W3.setCell ⟨q, 0, none⟩ (.slice R n2 c2)).alloc (.cells #[.slice R n2 c2] 22)) q' 22 [.slice R' r'.length c'] ∧ r'.length ≤ c' ∧ r'.length ≤ 4096 ∧ ls.drop k' = runsL r' ∧ k' ≤ ls.length ∧ J k' ((W3.setCell ⟨q, 0, none⟩ (.slice R n2 c2)).alloc (.cells #[.slice R n2 c2] 22)) ∧ Ints ((W3.setCell ⟨q, 0, none⟩ (.slice R n2 c2)).alloc (.cells #[.slice R n2 c2] 22)) R' r' ∧ (∀ b o, R' = some ⟨b, o, none⟩ → r' ≠ [] → b < n₀) := by
  subst hln hc2
  have hq3 := lt_of_block hb3
  have hlow : ∀ k, k < n₀ → ((W3.setCell ⟨q, 0, none⟩ (.slice R n2 (c - m))).alloc (.cells #[.slice R n2 (c - m)] 22)).heap[k]? = wr.heap[k]? := fun k hk => by
    rw [Below.heap_alloc _ _ _ (by simp [World.setCell]; omega), Below.heap_setCell _ _ _ _ (by show k ≠ q; omega)]
    exact hk3.low k hk
  have hsl : ∀ v, J (k + 1) (W3.setCell ⟨q, 0, none⟩ v) := fun v => hJ _ _ _ (some q) hj3 (grownBy_setCell' W3 q v) (fun r e => by injection e with e; subst e; exact ⟨hq, _, hb3⟩)
  refine ⟨k + 1, W3.heap.size, R, c - m, r.drop m, rfl, by omega, ?_, by rw [List.length_drop]; omega, by rw [List.length_drop]; omega, hd, hk, hJ _ _ _ none (hsl _) (World.grownBy_alloc _ _ none) (fun r e => by cases e), ?_, ?_⟩
  · rw [List.length_drop, hn2]
    exact box_born
  · rcases hR with rfl | h
    · exact (ints_drop hir m).low hlow (fun b' o' e _ => by injection e with e; injection e with e1 e2; omega)
    · rw [List.drop_of_length_le (by omega)]
      exact ints_nil _ _
  · intro b' o' e hne
    rcases hR with rfl | h
    · injection e with e
      injection e with e1 e2
      omega
    · exact absurd (List.drop_of_length_le (by omega)) hne
theorem round_meas {q n2 c2 len c : Nat} {wr W3 : World} {t : TypeId} {R R0 : Option Addr} (hb : Blk wr q t [.slice R0 len c]) (h : n2 < len) :
    restLen (.pointer (some ⟨W3.heap.size, 0, none⟩)) ((W3.setCell ⟨q, 0, none⟩ (.slice R n2 c2)).alloc (.cells #[.slice R n2 c2] t)) < restLen (.pointer (some ⟨q, 0, none⟩)) wr := by
  rw [restLen_of hb, restLen_of box_born]
  exact h

set_option maxRecDepth 100000 in
set_option maxHeartbeats 4000000 in
theorem runs_it (n : Nat) (hn : 1 ≤ n) (y Bl n₀ : Nat) (A : Option Addr) (cap : Nat) (l : List Int) (hlen : l.length ≤ 4096) (hcap : l.length ≤ cap) (W : World)
    (J : Nat → World → Prop) (hJ : ∀ s a b row, J s a → a.grownBy b row → (∀ r, row = some r → W.heap.size ≤ r ∧ ∃ c, a.heap[r]? = some (.cells c 22)) → J s b)
    (hY : ∀ k (h : k < (runsL l).length) w1, J k w1 → YieldAt Fence.wide (n - 1) Tryd.prog y #[.int .i64 ((runsL l)[k].1 : Int), .int .i64 (runsL l)[k].2] w1 fun e w2 => e = .returned (.bool true) ∧ J (k + 1) w2 ∧ KpI n₀ w1 w2)
    (hBl : W.cell? ⟨Bl, 0, none⟩ = some (.slice A l.length cap)) (hl : Ints W A l) (hlt : ∀ b o, A = some ⟨b, o, none⟩ → l ≠ [] → b < n₀) (hnW : n₀ ≤ W.heap.size) (h0 : J 0 W) :
    CallsIn Fence.wide n Tryd.prog 34 #[.func (.yield y) #[] #[], .pointer (some ⟨Bl, 0, none⟩)] W fun e W' => (∃ v, e = .returned v) ∧ J (runsL l).length W' := by
  have HY := Lib.hid hY
  have HJ := Lib.hid hJ
  have HL := Lib.hid hl
  have HLT := Lib.hid hlt
  have HB0 : Hid (J 0 ((W.alloc (.cells #[.slice A l.length cap] 22)))) := hJ _ _ _ none h0 (World.grownBy_alloc W _ none) (fun r e => by cases e)
  have hbx : Blk (W.alloc (.cells #[.slice A l.length cap] 22)) W.heap.size 22 [.slice A l.length cap] := Blk.born W 22 _
  clear hY hJ hl hlt h0
  refine callsIn_of_wp Tryd.func34 rfl trivial ?_ rfl
  simp only [Tryd.ntmps34, List.size_toArray, List.length_cons, List.length_nil, Nat.reduceAdd, Nat.reduceSub, Array.replicate_succ, Array.replicate_zero, List.push_toArray, List.append_toArray, List.nil_append, List.cons_append]
  gi_wp2
  gi_loopw [3] (fun i wr => ∃ (k q : Nat) (R : Option Addr) (c : Nat) (r : List Int), i = .pointer (some ⟨q, 0, none⟩) ∧ W.heap.size ≤ q ∧ Blk wr q 22 [.slice R r.length c] ∧ r.length ≤ c ∧ r.length ≤ 4096 ∧ (runsL l).drop k = runsL r ∧ k ≤ (runsL l).length ∧ J k wr ∧ Ints wr R r ∧ (∀ b o, R = some ⟨b, o, none⟩ → r ≠ [] → b < n₀)) (fun i wr => restLen i wr)
  case atStart =>
    exact ⟨0, W.heap.size, A, cap, l, rfl, Nat.le_refl _, hbx, hcap, hlen, rfl, Nat.zero_le _, HB0.out, (HL.out).low (n₀ := n₀) (fun k hk => Below.heap_alloc _ _ _ (by omega)) HLT.out, fun b o e h => HLT.out b o e h⟩
  case round =>
    obtain ⟨k, q, R, c, r, rfl, hq, hbq, hrc, hr4, hdr, hk, hJk, hir, hlr⟩ := hrel
    have hbq1 : wr.cell? ⟨q, 0, none⟩ = some (.slice R r.length c) := (hbq.at_ 0).trans rfl
    cases r with
    | nil =>
      have hke : k = (runsL l).length := by
        have h := congrArg List.length hdr
        simp [runsL] at h
        omega
      rw [hke] at hJk
      have HJK := Lib.hid hJk
      clear hJk hdr
      gi_wp2
      go_end0
      exact ⟨⟨_, rfl⟩, HJK.out⟩
    | cons x t =>
      obtain ⟨b, o, e0, hx0⟩ := hir 0 (by simp)
      subst e0
      have hx1 : wr.cell? ⟨b, o, none⟩ = some (.int .i64 x) := hx0
      clear hx0
      have hbn := hlr b o rfl (by simp)
      have hk2 : k < (runsL l).length := by
        apply Nat.lt_of_not_le
        intro h
        rw [List.drop_of_length_le h, runsL_step] at hdr
        cases hdr
      rw [List.drop_eq_getElem_cons hk2, runsL_step] at hdr
      injection hdr with hd1 hd2
      have hidx := index_any q b o c x t wr hir hr4 hbq1
      have hy0 := HY.out k hk2
      rw [hd1] at hy0
      have hm1 := runLen_pos x t
      have hm2 := runLen_le x (x :: t)
      generalize hL : x :: t = r at *
      generalize runLen x r = m at *
      have HIDX : Hid (CallsIn Fence.wide (n - 1) Tryd.prog 35 #[.slice (some ⟨b, o, none⟩) r.length c, .func (.func 36) #[] #[.pointer (some ⟨q, 0, none⟩)]] wr fun e W' => e = .returned (.int .i64 (if m = r.length then -1 else (m : Int))) ∧ wr = W') := callsIn_wide.2 hidx
      generalize hln : r.length = len at *
      clear hidx
      have hxl : 0 < len := by omega
      obtain ⟨fn, tmps, assign, body, hy, hR⟩ := hy0 wr hJk
      have HR := Lib.hid hR
      have HBQ := Lib.hid hbq
      have HIR := Lib.hid hir
      clear hR hy0 hJk hbq hlr hir
      gi_wp2_with (refine ⟨trivial, ?_⟩; gi_at_call 35; refine HIDX.out.mono ?_; rintro e w1 ⟨rfl, rfl⟩)
      case' inl => (have hml : (m : Int) = len := by omega)
      case' inl => rw [← hml]
      case' inl => (rw [hy]; gi_wp2)
      all_goals refine HR.out.mono ?_
      all_goals rintro e W3 ⟨rfl, hj3, hk3⟩
      all_goals have hb3 := hk3.blk HBQ.out (by decide)
      all_goals have hq3 : W3.cell? ⟨q, 0, none⟩ = some (.slice (some ⟨b, o, none⟩) len c) := (hb3.at_ 0).trans rfl
      all_goals have hf3 : W3.frozen? ⟨q, 0, none⟩ = false := hb3.free 0
      all_goals gi_wp2
      all_goals go_roundw
      case rel => exact round_end HJ.out hq hk3 HIR.out hbn hnW hln hb3 hj3 (Nat.le_of_eq h) hrc hr4 hd2 hk2 (.inr h.symm) (by omega) (by omega)
      case measure => exact round_meas HBQ.out hxl
      case rel => exact round_end HJ.out hq hk3 HIR.out hbn hnW hln hb3 hj3 hm2 hrc hr4 hd2 hk2 (.inl rfl) rfl rfl
      case measure => exact round_meas HBQ.out (by omega)
end Go.Proofs.YtdchaojgldfagaaDoor
