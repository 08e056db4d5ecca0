/- Joined texts: Columns in memory, and the iterator over them (columns, columns$1). Which schemas may be: the walk of schema.Right. -/
import Derived.RangeFuncNested
import Derived.RangeFuncBound
import Derived.RangeFuncCalls
import Derived.RangeFuncLeaves
import Derived.Shelf.Abstract
import Derived.Shelf.RegionOpen
import Derived.WalkKit
import Derived.OwnWalkIn
import Derived.TacticsInMore
import Derived.LoopNIn
import Derived.LoopIn
import Derived.Maps.OwnIn
import Derived.Maps.Keyed
import Derived.Test.YtabnjiepmhblaaaDoorJ20
import Derived.Laws.ResultCell
import Derived.StringKeys
/-! Columns in memory, and the iterator over them (columns, columns$1). -/
namespace Go.Proofs.YtabnjiepmhblaaaDoor
open Go.RowKit Go.Shelf
set_option linter.unusedVariables false
attribute [local go_sem] Oper.semAt_some

def colV (c : Col) : Value := .agg #[.string c.name, .int .i64 c.kind, .bool c.null]
def colC (c : Col) : List Value := [.string c.name, .int .i64 c.kind, .bool c.null]
/-- The three cells from an address on are a column's. -/
def ColAt (w : World) (b o : Nat) (c : Col) : Prop := w.cell? ⟨b, o, none⟩ = some (.string c.name) ∧ w.cell? ⟨b, o + 1, none⟩ = some (.int .i64 c.kind) ∧ w.cell? ⟨b, o + 2, none⟩ = some (.bool c.null)
/-- The slice at A holds the columns l. -/
def Cols (w : World) (A : Option Addr) (l : List Col) : Prop := ∀ k (h : k < l.length), ∃ b o, A = some ⟨b, o, none⟩ ∧ ColAt w b (o + k * 3) l[k]
theorem ColAt.lt {w : World} {b o : Nat} {c : Col} (h : ColAt w b o c) : b < w.heap.size := World.block_lt_of_cell? w _ h.1
theorem ColAt.keep {w w' : World} {b o n : Nat} {c : Col} (h : ColAt w b o c) (hb : Below n w w') (hn : b < n) : ColAt w' b o c :=
  ⟨(hb.cell (p := ⟨b, o, none⟩) hn).trans h.1, (hb.cell (p := ⟨b, o + 1, none⟩) hn).trans h.2.1, (hb.cell (p := ⟨b, o + 2, none⟩) hn).trans h.2.2⟩
theorem Cols.keep {w w' : World} {A : Option Addr} {l : List Col} (h : Cols w A l) (hb : Below w.heap.size w w') : Cols w' A l := by
  intro k hk
  obtain ⟨b, o, e, hc⟩ := h k hk
  exact ⟨b, o, e, hc.keep hb hc.lt⟩
theorem Cols.nil {w : World} {l : List Col} (h : Cols w none l) : l = [] := by
  cases l with
  | nil => rfl
  | cons c t => obtain ⟨b, o, e, _⟩ := h 0 (by simp); cases e

/-- Block g alone is turned. -/
structure Sole (g : Nat) (w w' : World) : Prop where
  os : w'.os = w.os
  tape : w'.tape = w.tape
  output : w'.output = w.output
  size : w'.heap.size = w.heap.size
  block : ∀ k, k ≠ g → w'.heap[k]? = w.heap[k]?
theorem Sole.refl (g : Nat) (w : World) : Sole g w w := ⟨rfl, rfl, rfl, rfl, fun _ _ => rfl⟩
theorem Sole.drew {g : Nat} {a w : World} (h : Sole g a w) : Sole g a w.drew := ⟨h.os, h.tape, h.output, h.size, h.block⟩
theorem Sole.trans {g : Nat} {a b c : World} (h : Sole g a b) (k : Sole g b c) : Sole g a c :=
  ⟨k.os.trans h.os, k.tape.trans h.tape, k.output.trans h.output, k.size.trans h.size, fun i hi => (k.block i hi).trans (h.block i hi)⟩
theorem Sole.setCell {g : Nat} {a w : World} (h : Sole g a w) (i : Nat) (u : Value) : Sole g a (w.setCell ⟨g, i, none⟩ u) :=
  h.trans ⟨rfl, rfl, rfl, by simp [World.setCell], fun k hk => Below.heap_setCell w ⟨g, i, none⟩ u k hk⟩
theorem Sole.below {g B : Nat} {w0 w w' : World} (h : Sole g w w') (hb : Below B w0 w) (hg : B ≤ g) : Below B w0 w' :=
  hb.trans ⟨h.os, h.tape, h.output, Nat.le_of_eq h.size.symm, fun k hk => h.block k (by omega)⟩
theorem Blk.sole {w w' : World} {g k : Nat} {t : TypeId} {cs : List Value} (h : Blk w k t cs) (hs : Sole g w w') (hk : k ≠ g) : Blk w' k t cs := (hs.block k hk).trans h
/-- What lay below n₀ lies as it lay, but for block B. -/
structure Kept (B n₀ : Nat) (W W' : World) : Prop where
  size : W.heap.size ≤ W'.heap.size
  block : ∀ k, k < n₀ → k ≠ B → W'.heap[k]? = W.heap[k]?
theorem Kept.refl (B n₀ : Nat) (W : World) : Kept B n₀ W W := ⟨Nat.le_refl _, fun _ _ _ => rfl⟩
theorem Kept.trans {B n₀ : Nat} {a b c : World} (h : Kept B n₀ a b) (k : Kept B n₀ b c) : Kept B n₀ a c := ⟨Nat.le_trans h.size k.size, fun i hi hB => (k.block i hi hB).trans (h.block i hi hB)⟩
theorem Kept.cell {B n₀ : Nat} {a b : World} (h : Kept B n₀ a b) {p : Addr} (hp : p.block < n₀) (hB : p.block ≠ B) : b.cell? p = a.cell? p := World.cell?_of_block (h.block p.block hp hB)
theorem Kept.putObj {B n₀ : Nat} {w : World} (hn : n₀ ≤ w.heap.size) (W : World) (l : Nat) (o o' : Obj) (hl : w.heap.size ≤ l) (_ : W.heap[l]? = some o) (_ : o.isCells = false) (_ : o.isWalk = false) : Kept B n₀ W (W.putObj l o') :=
  ⟨by rw [World.putObj_size]; exact Nat.le_refl _, fun k hk _ => World.putObj_heap_other (by omega)⟩
theorem Kept.below {B n₀ : Nat} {a b : World} (h : Below n₀ a b) : Kept B n₀ a b := ⟨h.size, fun k hk _ => h.block k hk⟩
theorem Kept.alloc {B n₀ : Nat} {w : World} (hn : n₀ ≤ w.heap.size) (o : Obj) : Kept B n₀ w (w.alloc o) :=
  ⟨by rw [World.size_alloc]; omega, fun j hj _ => (World.grownBy_alloc w o none).block j (by omega) (by simp)⟩
theorem ColAt.kept {w w' : World} {b o B n₀ : Nat} {c : Col} (h : ColAt w b o c) (hk : Kept B n₀ w w') (hn : b < n₀) (hB : b ≠ B) : ColAt w' b o c :=
  ⟨(hk.cell (p := ⟨b, o, none⟩) hn hB).trans h.1, (hk.cell (p := ⟨b, o + 1, none⟩) hn hB).trans h.2.1, (hk.cell (p := ⟨b, o + 2, none⟩) hn hB).trans h.2.2⟩
def colsAt {α : Type} (f : α → Col) (W : World) (B n₀ : Nat) (A : Option Addr) (l : List α) : Prop :=
  ∀ k (h : k < l.length), ∃ b o, A = some ⟨b, o, none⟩ ∧ b < n₀ ∧ b ≠ B ∧ ColAt W b (o + k * 3) (f l[k])

set_option maxRecDepth 100000 in
set_option maxHeartbeats 2000000 in
theorem cols_it {α : Type} (f : α → Col) (n : Nat) (hn : 1 ≤ n) (l Bl B n₀ : Nat) (A : Option Addr) (cap : Nat) (ls : List α) (hlen : ls.length ≤ 4000000000000000000)
    (J Jx : List α → World → Prop) (hJd : ∀ pre W o, J pre W → J pre (W.alloc o))
    (hY : ∀ pre x W, J pre W → pre.length < ls.length → YieldAt Fence.wide (n - 1) Tryd.prog l #[colV (f x)] W fun e W' =>
      (e = .returned (.bool true) ∧ J (pre ++ [x]) W' ∧ Kept B n₀ W W') ∨ (e = .returned (.bool false) ∧ Jx (pre ++ [x]) W'))
    (W : World) (hBl : W.cell? ⟨Bl, 0, none⟩ = some (.slice A ls.length cap)) (hN : colsAt f W B n₀ A ls) (hnW : n₀ ≤ W.heap.size) (h0 : J [] W) :
    CallsIn Fence.wide n Tryd.prog 36 #[.func (.yield l) #[] #[], .pointer (some ⟨Bl, 0, none⟩)] W fun e W' => (∃ v, e = .returned v) ∧
      ((∃ ys, ys = ls ∧ J ys W') ∨ (∃ pre, pre <+: ls ∧ Jx pre W')) := by
  have HN := Lib.hid hN
  have HY := Lib.hid hY
  have HJD := Lib.hid hJd
  clear hN hY hJd
  refine callsIn_of_wp Tryd.func36 rfl trivial ?_ rfl
  simp only [Tryd.ntmps36, List.size_toArray, List.length_cons, List.length_nil, Nat.reduceAdd, Nat.reduceSub, Array.replicate_succ, Array.replicate_zero, List.push_toArray, List.append_toArray, List.nil_append, List.cons_append]
  gi_wp2
  gi_loopw [7] (fun i wr => ∃ k : Nat, k ≤ ls.length ∧ i = .int .i64 k ∧ J (ls.take k) wr ∧ Kept B n₀ W wr ∧ n₀ ≤ wr.heap.size)
    (fun i _ => ls.length - (intOf i).toNat)
  case atStart => exact ⟨0, Nat.zero_le _, rfl, h0, Kept.refl _ _ _, hnW⟩
  case round =>
    obtain ⟨k, hk, rfl, hJs, hke, hnr⟩ := hrel
    have HJ := Lib.hid hJs
    have HKE := Lib.hid hke
    clear hJs hke
    by_cases hlt : k < ls.length
    · obtain ⟨b, o, rfl, hb1, hb2, hc⟩ := HN.out k hlt
      have hcx := hc.kept HKE.out hb1 hb2
      obtain ⟨c0, c1, c2⟩ := hcx
      have htk : ls.take (k + 1) = ls.take k ++ [ls[k]] := List.take_succ_eq_append_getElem hlt
      obtain ⟨x, hx⟩ : ∃ x, ls[k] = x := ⟨_, rfl⟩
      rw [hx] at c0 c1 c2 htk
      obtain ⟨y, hy0⟩ : ∃ y, f x = y := ⟨_, rfl⟩
      rw [hy0] at c0 c1 c2
      have HTK := Lib.hid htk
      have HK : Hid (k < ls.length) := hlt
      clear hc htk hx
      have hjd := HJD.out _ wr (Obj.cells #[Value.string y.name, Value.int IntKind.i64 y.kind, Value.bool y.null] 44) HJ.out
      obtain ⟨fn, tmps, assign, body, hy, hR⟩ := HY.out (ls.take k) x _ hjd (by rw [List.length_take]; omega)
      have hkp := Kept.alloc (B := B) hnr (Obj.cells #[Value.string y.name, Value.int IntKind.i64 y.kind, Value.bool y.null] 44)
      have HKP := Lib.hid hkp
      clear hjd hkp
      rw [hy0] at hy
      unfold colV at hy
      gi_wp2
      refine hR.mono ?_
      rintro e W3 (⟨rfl, hJ3, hk3⟩ | ⟨rfl, hJx3⟩)
      · have hk4 := HKE.out.trans (HKP.out.trans hk3)
        have hJ4 : J (ls.take (k + 1)) W3 := by rw [HTK.out]; exact hJ3
        have hn4 : n₀ ≤ W3.heap.size := Nat.le_trans hnW hk4.size
        have HJ4 := Lib.hid hJ4
        have HK4 := Lib.hid hk4
        clear hJ3 hk3 hk4 hJ4
        gi_wp2
        go_roundw
        case rel => exact ⟨k + 1, HK.out, by go_num, HJ4.out, HK4.out, hn4⟩
        case measure => have := HK.out; simp [intOf]; omega
      · gi_wp2
        refine bodyPost_ret (results_none rfl _ _ _) rfl ?_
        exact ⟨⟨_, rfl⟩, .inr ⟨_, by rw [← HTK.out]; exact List.take_prefix _ _, hJx3⟩⟩
    · obtain rfl : k = ls.length := by omega
      have hJ := HJ.out
      rw [List.take_length] at hJ
      gi_wp2
      go_end0
      exact ⟨⟨_, rfl⟩, .inl ⟨_, rfl, hJ⟩⟩

theorem columns_fn (n : Nat) (A : Option Addr) (len cap : Nat) (W : World) : CallsIn Fence.wide n Tryd.prog 17 #[.slice A len cap] W fun e W' =>
    e = .returned (.func (.func 36) #[] #[.pointer (some ⟨W.heap.size, 0, none⟩)]) ∧ W' = W.alloc (.cells #[.slice A len cap] 22) := by
  refine callsIn_of_wp Tryd.func17 rfl trivial ?_ rfl
  simp only [Tryd.ntmps17, List.size_toArray, List.length_cons, List.length_nil, Nat.reduceAdd, Nat.reduceSub, Array.replicate_succ, Array.replicate_zero, List.push_toArray, List.append_toArray, List.nil_append, List.cons_append]
  gi_wp2
  go_ret
  exact ⟨rfl, rfl⟩
theorem cols_stops {α : Type} (f : α → Col) (n : Nat) (hn : 1 ≤ n) (Bl B n₀ : Nat) (A : Option Addr) (cap : Nat) (ls : List α) (hlen : ls.length ≤ 4000000000000000000)
    (w0 : World) (hn0 : n₀ ≤ w0.heap.size) (lBl : Bl < w0.heap.size) (hBl : w0.cell? ⟨Bl, 0, none⟩ = some (.slice A ls.length cap)) (hN : colsAt f w0 B n₀ A ls) :
    SeqStopsK Fence.wide n Tryd.prog 36 #[.pointer (some ⟨Bl, 0, none⟩)] (fun x : α => #[colV (f x)]) (Kept B n₀) (fun ys => ys = ls) (fun pre => pre <+: ls) ls.length w0 := fun l J Jx W hW hJ hJx hY h0 => by
  refine cols_it f n hn l Bl B n₀ A cap ls hlen J Jx (fun pre W o h => hJ pre W _ none h (World.grownBy_alloc W o none) (fun r e => by cases e)) hY W ?_ ?_ ?_ h0
  · exact (hW.cell (p := ⟨Bl, 0, none⟩) (by show Bl < _; omega)).trans hBl
  · intro k hk
    obtain ⟨b, o, e, h1, h2, h3⟩ := hN k hk
    exact ⟨b, o, e, h1, h2, h3.keep hW (by omega)⟩
  · exact Nat.le_trans hn0 hW.size
theorem blk_byt {w : World} {g : Nat} {t : TypeId} {l : List UInt8} (h : Blk w g t (u8s l)) : Byt w (some ⟨g, 0, none⟩) l := by
  intro k hk
  refine ⟨g, 0, rfl, ?_⟩
  rw [Nat.zero_add, h.at_]
  simp [u8s, hk]
/-- A list whose members all meet P, as one of such. -/
theorem lift_sub {α : Type} (P : α → Prop) : ∀ L : List α, (∀ x ∈ L, P x) → ∃ xs : List { x : α // P x }, xs.map Subtype.val = L
  | [], _ => ⟨[], rfl⟩
  | p :: t, h => by
    obtain ⟨xs, hx⟩ := lift_sub P t (fun q hq => h q (List.mem_cons_of_mem _ hq))
    exact ⟨⟨p, h p (by simp)⟩ :: xs, by rw [List.map_cons, hx]⟩
theorem Own.kept {w w' : World} {B : Nat} {v : Value} {l : List UInt8} (h : Own w B v l) (hk : ∀ g, v.ownBlock = some g → w'.heap[g]? = w.heap[g]?) : Own w' B v l := by
  refine ⟨h.1, ?_⟩
  rcases h.2 with hn | ⟨g, cap, cur, rfl, hb, hg, rest⟩
  · exact .inl hn
  · exact .inr ⟨g, cap, cur, rfl, hb, (hk g rfl).trans hg, rest⟩
theorem Own.ne {w : World} {B g : Nat} {t : TypeId} {cs : List Value} {v : Value} {l : List UInt8} (h : Own w B v l) (hb : Blk w g t cs) (ht : t ≠ 5) : v.ownBlock ≠ some g := by
  rcases h.2 with ⟨rfl, _⟩ | ⟨g', cap, cur, rfl, _, hg, _⟩
  · simp [Value.ownBlock]
  · intro e
    have e2 : g' = g := by simpa [Value.ownBlock] using e
    subst e2
    unfold Blk at hb
    rw [hb] at hg
    simp only [Option.some.injEq, Obj.cells.injEq] at hg
    exact ht hg.2.1
theorem Own.others {w w' : World} {B : Nat} {v : Value} {l : List UInt8} (h : Own w B v l) (hg : w.grownBy w' v.ownBlock) : KeepsOthers w w' := by
  refine KeepsOthers.of_grownBy hg fun j o e hj => ?_
  rcases h.2 with ⟨rfl, _⟩ | ⟨g', cap, cur, rfl, _, hg3, _⟩
  · simp [Value.ownBlock] at e
  · have e2 : g' = j := by simpa [Value.ownBlock] using e
    subst e2
    rw [hj] at hg3
    injection hg3 with hg3
    subst hg3
    rfl
theorem below_others {w w' : World} (h : Below w.heap.size w w') : KeepsOthers w w' := ⟨h.size, fun k o hk _ => (h.block k (Array.getElem?_eq_some_iff.1 hk).1).trans hk⟩
theorem Own.walked {w w' : World} {B : Nat} {v : Value} {l : List UInt8} {row : Option Nat} (h : Own w B v l) (hg : w.grownBy w' row) (hr : ∀ r, row = some r → ∃ o : Obj, w.heap[r]? = some o ∧ o.isCells = false) : Own w' B v l := by
  refine h.kept fun g hg2 => ?_
  rcases h.2 with ⟨rfl, _⟩ | ⟨g', cap, cur, rfl, _, hg3, _⟩
  · simp [Value.ownBlock] at hg2
  · have e2 : g' = g := by simpa [Value.ownBlock] using hg2
    subst e2
    refine hg.block g' (Array.getElem?_eq_some_iff.1 hg3).1 fun e => ?_
    obtain ⟨o, ho, hc⟩ := hr g' e.symm
    rw [hg3] at ho
    injection ho with ho
    subst ho
    cases hc
end Go.Proofs.YtabnjiepmhblaaaDoor

/-! Which schemas may be: the walk of schema.Right. -/
namespace Go.Proofs.YtabnjiepmhblaaaDoor
open Go.RowKit Go.Shelf Go.Maps
set_option linter.unusedVariables false
attribute [local go_sem] Oper.semAt_some

theorem results_cell1 {fn : Func} {p : Tmp} {t : TypeId} (h : fn.results = #[.cell p t]) (tmps : Array Value) (P : Program) (w : World) :
    (results fn tmps).run P w = ((asAddr (tmps.getD p undef)).run P w).andThen fun a w₁ => (loadVar t a).run P w₁ := by
  simp only [results, h]
  simp [Sem.run_bind, Result.andThen]

def keyN (c : Col) : Lit := .string c.name.data.toList
theorem keyN_key (l : List Col) : ∀ x ∈ l.map keyN, WideAt.IsKeyLit x := by
  intro x hx
  obtain ⟨c, _, rfl⟩ := List.mem_map.1 hx
  trivial
theorem same_str (a b : List UInt8) : (Lit.string a).sameKey (Lit.string b) = decide (a = b) := by
  by_cases h : a = b
  · subst h; simp [Lit.sameKey]
  · rw [Maps.sameKey_ne (fun e => h (by injection e))]
    simp [h]
theorem any_key (c : Col) (l : List Col) : ((l.map keyN).any fun y => y.sameKey (keyN c)) = decide (c.name.data.toList ∈ namesL l) := by
  rw [Bool.eq_iff_iff, List.any_eq_true, decide_eq_true_iff]
  unfold namesL
  simp only [List.mem_map]
  constructor
  · rintro ⟨x, ⟨d, hd, rfl⟩, h⟩
    rw [keyN, keyN, same_str, decide_eq_true_iff] at h
    exact ⟨d, hd, h⟩
  · rintro ⟨d, hd, h⟩
    exact ⟨keyN d, ⟨d, hd, rfl⟩, by rw [keyN, keyN, same_str, decide_eq_true_iff]; exact h⟩
/-- How many different names. -/
def manyN : List Col → List Col → Nat
  | acc, [] => acc.length
  | acc, c :: t => if c.name.data.toList ∈ namesL acc then manyN acc t else manyN (acc ++ [c]) t
theorem addKey_many : ∀ (l acc : List Col), ((l.map keyN).foldl addKey (acc.map keyN)).length = manyN acc l
  | [], acc => by simp [manyN]
  | c :: t, acc => by
    rw [List.map_cons, List.foldl_cons, manyN]
    have e : addKey (acc.map keyN) (keyN c) = (if c.name.data.toList ∈ namesL acc then acc else acc ++ [c]).map keyN := by
      unfold addKey
      rw [any_key]
      by_cases h : c.name.data.toList ∈ namesL acc
      · simp [h]
      · simp [h]
    rw [e]
    by_cases h : c.name.data.toList ∈ namesL acc
    · rw [if_pos h, if_pos h]; exact addKey_many t acc
    · rw [if_neg h, if_neg h]; exact addKey_many t (acc ++ [c])
theorem manyN_le : ∀ (l acc : List Col), manyN acc l ≤ acc.length + l.length
  | [], acc => by simp [manyN]
  | c :: t, acc => by
    rw [manyN]
    by_cases h : c.name.data.toList ∈ namesL acc
    · rw [if_pos h]; have := manyN_le t acc; simp; omega
    · rw [if_neg h]; have := manyN_le t (acc ++ [c]); simp at this ⊢; omega
theorem manyN_full : ∀ (l acc : List Col), (namesL acc).Nodup → (manyN acc l = acc.length + l.length ↔ (namesL (acc ++ l)).Nodup)
  | [], acc, h => by simp [manyN, h]
  | c :: t, acc, hn => by
    rw [manyN]
    by_cases h : c.name.data.toList ∈ namesL acc
    · rw [if_pos h]
      have h1 := manyN_le t acc
      constructor
      · intro e; simp at e; omega
      · intro hd
        exfalso
        unfold namesL at hd h
        rw [List.map_append, List.map_cons, List.nodup_append] at hd
        exact hd.2.2 _ h _ (by simp) rfl
    · rw [if_neg h]
      have hn2 : (namesL (acc ++ [c])).Nodup := by
        unfold namesL at *
        rw [List.map_append, List.nodup_append]
        refine ⟨hn, by simp, ?_⟩
        intro x hx y hy
        simp only [List.map_cons, List.map_nil, List.mem_singleton] at hy
        subst hy
        intro e; subst e; exact h hx
      have ih := manyN_full t (acc ++ [c]) hn2
      rw [List.append_assoc, List.singleton_append] at ih
      rw [← ih]
      simp
      constructor <;> intro h <;> omega
theorem size_names {H : Type} (l : List Col) : Maps.size (setOf (.agg [] : DataW H) (l.map keyN)) = l.length ↔ (namesL l).Nodup := by
  rw [size_setOf _ _ (keyN_key l)]
  have h1 := addKey_many l []
  rw [List.map_nil] at h1
  rw [h1]
  have := manyN_full l [] (by simp [namesL])
  simpa using this

theorem rightC_len {l : List Col} (h : ¬ (1 ≤ l.length ∧ l.length ≤ 16)) : rightC l = false := by unfold rightC; rw [decide_eq_false h]; rfl
theorem rightC_col {l : List Col} {c : Col} (hc : c ∈ l) (h : colOk c = false) : rightC l = false := by
  unfold rightC
  have : l.all colOk = false := by
    rw [← Bool.not_eq_true, List.all_eq_true]
    intro hall
    rw [hall c hc] at h
    cases h
  rw [this]
  simp
theorem rightC_all {l : List Col} (h : 1 ≤ l.length ∧ l.length ≤ 16) (hc : ∀ c ∈ l, colOk c = true) : rightC l = decide (namesL l).Nodup := by
  unfold rightC
  rw [decide_eq_true h, List.all_eq_true.2 hc]
  rfl

set_option maxRecDepth 100000 in
set_option maxHeartbeats 2000000 in
theorem right_len (A : Option Addr) (cap : Nat) (l : List Col) (W : World) (hn : l.length ≤ 4000000000000000000) (hbad : ¬ (1 ≤ l.length ∧ l.length ≤ 16)) :
    Calls Tryd.prog 12 #[.slice A l.length cap] W fun e W' => e = .returned (.bool (rightC l)) ∧ Below W.heap.size W W' := by
  rw [rightC_len hbad]
  by_cases h0 : l.length = 0
  · rw [h0]
    go_enter Tryd.func12, Tryd.ntmps12
    go_wp2
    refine bodyPost_ret (v := .bool false) ?_ rfl ?_
    · rw [results_cell1 rfl]
      go_simp
    · exact ⟨rfl, (Below.refl _ _).alloc (Nat.le_refl _) _⟩
  · have i0 : ((l.length : Int) == 0) = false := by rw [beq_eq_false_iff_ne]; omega
    have i1 : (16 : Int) < (l.length : Int) := by omega
    clear hbad h0
    go_enter Tryd.func12, Tryd.ntmps12
    go_wp2
    refine bodyPost_ret (v := .bool false) ?_ rfl ?_
    · rw [results_cell1 rfl]
      go_simp
    · exact ⟨rfl, (Below.refl _ _).alloc (Nat.le_refl _) _⟩
end Go.Proofs.YtabnjiepmhblaaaDoor
