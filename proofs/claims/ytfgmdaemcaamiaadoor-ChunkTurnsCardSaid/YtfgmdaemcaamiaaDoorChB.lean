/- The iterator over the values that are not null (others, others$1); how many are null. -/
import Derived.RangeFuncNested
import Derived.RangeFuncBound
import Derived.RangeFuncCalls
import Derived.RangeFuncLeaves
import Derived.Shelf.Abstract
import Derived.Shelf.RegionOpen
import Derived.WalkKit
import Derived.OwnWalkIn
import Derived.TacticsInMore
import Derived.LoopNIn
import Derived.LoopIn
import Derived.Test.YtfgmdaemcaamiaaDoorChM
import Derived.Test.YtfgmdaemcaamiaaDoorInZA
namespace Go.Proofs.YtfgmdaemcaamiaaDoor
open Go.RowKit Go.Shelf
set_option linter.unusedVariables false
attribute [local go_sem] Oper.semAt_some

/-- What lay below n₀ lies as it lay, but for block B. -/
structure Kept8 (B n₀ : Nat) (W W' : World) : Prop where
  size : W.heap.size ≤ W'.heap.size
  block : ∀ k, k < n₀ → k ≠ B → W'.heap[k]? = W.heap[k]?
theorem Kept8.refl (B n₀ : Nat) (W : World) : Kept8 B n₀ W W := ⟨Nat.le_refl _, fun _ _ _ => rfl⟩
theorem Kept8.trans {B n₀ : Nat} {a b c : World} (h : Kept8 B n₀ a b) (k : Kept8 B n₀ b c) : Kept8 B n₀ a c := ⟨Nat.le_trans h.size k.size, fun i hi hB => (k.block i hi hB).trans (h.block i hi hB)⟩
theorem Kept8.cell {B n₀ : Nat} {a b : World} (h : Kept8 B n₀ a b) {p : Addr} (hp : p.block < n₀) (hB : p.block ≠ B) : b.cell? p = a.cell? p := World.cell?_of_block (h.block p.block hp hB)
theorem Kept8.putObj {B n₀ : Nat} {w : World} (hn : n₀ ≤ w.heap.size) (W : World) (l : Nat) (o o' : Obj) (hl : w.heap.size ≤ l) (_ : W.heap[l]? = some o) (_ : o.isCells = false) (_ : o.isWalk = false) : Kept8 B n₀ W (W.putObj l o') :=
  ⟨by rw [World.putObj_size]; exact Nat.le_refl _, fun k hk _ => World.putObj_heap_other (by omega)⟩
theorem Kept8.below {B n₀ : Nat} {a b : World} (h : Below n₀ a b) : Kept8 B n₀ a b := ⟨h.size, fun k hk _ => h.block k hk⟩
theorem Kept8.alloc {B n₀ : Nat} {w : World} (hn : n₀ ≤ w.heap.size) (o : Obj) : Kept8 B n₀ w (w.alloc o) :=
  ⟨by rw [World.size_alloc]; omega, fun j hj _ => (World.grownBy_alloc w o none).block j (by omega) (by simp)⟩
theorem VlAt.kept {w w' : World} {b o B n₀ : Nat} {c : Vl} (h : VlAt w b o c) (hk : Kept8 B n₀ w w') (hn : b < n₀) (hB : b ≠ B) : VlAt w' b o c :=
  ⟨(hk.cell (p := ⟨b, o, none⟩) hn hB).trans h.1, (hk.cell (p := ⟨b, o + 1, none⟩) hn hB).trans h.2.1, (hk.cell (p := ⟨b, o + 2, none⟩) hn hB).trans h.2.2⟩
def vlsAt {α : Type} (f : α → Vl) (W : World) (B n₀ : Nat) (A : Option Addr) (l : List α) : Prop :=
  ∀ k (h : k < l.length), ∃ b o, A = some ⟨b, o, none⟩ ∧ b < n₀ ∧ b ≠ B ∧ VlAt W b (o + k * 3) (f l[k])
/-- Those that are not null. -/
def notN {α : Type} (f : α → Vl) (l : List α) : List α := l.filter fun x => !decide ((f x).kind = 0)
theorem notN_map {α : Type} (f : α → Vl) (l : List α) : (notN f l).map f = othL (l.map f) := by
  unfold notN othL
  rw [List.filter_map]
  rfl
theorem notN_snoc {α : Type} (f : α → Vl) (l : List α) (k : Nat) (h : k < l.length) : notN f (l.take (k + 1)) = if (f l[k]).kind = 0 then notN f (l.take k) else notN f (l.take k) ++ [l[k]] := by
  unfold notN
  rw [List.take_succ_eq_append_getElem h, List.filter_append]
  by_cases h0 : (f l[k]).kind = 0
  · rw [if_pos h0, List.filter_cons, if_neg (by simp [h0])]; simp
  · rw [if_neg h0, List.filter_cons, if_pos (by simp [h0])]; rfl
theorem notN_pre {α : Type} (f : α → Vl) (l : List α) (k : Nat) : notN f (l.take k) <+: notN f l := by
  unfold notN
  conv => rhs; rw [← List.take_append_drop k l, List.filter_append]
  exact List.prefix_append _ _
theorem notN_lt {α : Type} (f : α → Vl) (l : List α) (k : Nat) (h : k < l.length) (h0 : ¬ (f l[k]).kind = 0) : (notN f (l.take k)).length < (notN f l).length := by
  have h1 := (notN_pre f l (k + 1)).length_le
  rw [notN_snoc f l k h, if_neg h0, List.length_append, List.length_singleton] at h1
  omega

set_option maxRecDepth 100000 in
set_option maxHeartbeats 2000000 in
theorem oth_it {α : Type} (f : α → Vl) (n : Nat) (hn : 1 ≤ n) (l Bl B n₀ : Nat) (A : Option Addr) (cap : Nat) (ls : List α) (hlen : ls.length ≤ 4000000000000000000)
    (J Jx : List α → World → Prop) (hJd : ∀ pre W o, J pre W → J pre (W.alloc o))
    (hY : ∀ pre x W, J pre W → pre.length < (notN f ls).length → YieldAt Fence.wide (n - 1) Tryd.prog l #[vlV (f x)] W fun e W' =>
      (e = .returned (.bool true) ∧ J (pre ++ [x]) W' ∧ Kept8 B n₀ W W') ∨ (e = .returned (.bool false) ∧ Jx (pre ++ [x]) W'))
    (W : World) (hBl : W.cell? ⟨Bl, 0, none⟩ = some (.slice A ls.length cap)) (hN : vlsAt f W B n₀ A ls) (hnW : n₀ ≤ W.heap.size) (h0 : J [] W) :
    CallsIn Fence.wide n Tryd.prog 51 #[.func (.yield l) #[] #[], .pointer (some ⟨Bl, 0, none⟩)] W fun e W' => (∃ v, e = .returned v) ∧
      ((∃ ys, ys = notN f ls ∧ J ys W') ∨ (∃ pre, pre <+: notN f ls ∧ Jx pre W')) := by
  have HN := Lib.hid hN
  have HY := Lib.hid hY
  have HJD := Lib.hid hJd
  clear hN hY hJd
  refine callsIn_of_wp Tryd.func51 rfl trivial ?_ rfl
  simp only [Tryd.ntmps51, List.size_toArray, List.length_cons, List.length_nil, Nat.reduceAdd, Nat.reduceSub, Array.replicate_succ, Array.replicate_zero, List.push_toArray, List.append_toArray, List.nil_append, List.cons_append]
  gi_wp2
  gi_loopw [4, 7] (fun v i wr => ∃ k : Nat, k ≤ ls.length ∧ i = .int .i64 k ∧ J (notN f (ls.take k)) wr ∧ Kept8 B n₀ W wr ∧ n₀ ≤ wr.heap.size)
    (fun _ i _ => ls.length - (intOf i).toNat)
  case atStart => exact ⟨0, Nat.zero_le _, rfl, h0, Kept8.refl _ _ _, hnW⟩
  case round =>
    obtain ⟨k, hk, rfl, hJs, hke, hnr⟩ := hrel
    have HJ := Lib.hid hJs
    have HKE := Lib.hid hke
    clear hJs hke
    by_cases hlt : k < ls.length
    · obtain ⟨b, o, rfl, hb1, hb2, hc⟩ := HN.out k hlt
      have hcx := hc.kept HKE.out hb1 hb2
      obtain ⟨c0, c1, c2⟩ := hcx
      have HTK := Lib.hid (notN_snoc f ls k hlt)
      have HPR := Lib.hid (notN_pre f ls (k + 1))
      have HLT := Lib.hid (notN_lt f ls k hlt)
      obtain ⟨x, hx⟩ : ∃ x, ls[k] = x := ⟨_, rfl⟩
      rw [hx] at c0 c1 c2 HTK HLT
      obtain ⟨y, hy0⟩ : ∃ y, f x = y := ⟨_, rfl⟩
      rw [hy0] at c0 c1 c2 HTK HLT
      have HK : Hid (k < ls.length) := hlt
      clear hc hx
      have hjd := HJD.out _ wr (Obj.cells #[Value.int IntKind.i64 y.kind, Value.int IntKind.i64 y.num, Value.string y.text] 30) HJ.out
      have HJD2 := Lib.hid hjd
      have hkp := Kept8.alloc (B := B) hnr (Obj.cells #[Value.int IntKind.i64 y.kind, Value.int IntKind.i64 y.num, Value.string y.text] 30)
      have HKP := Lib.hid hkp
      clear hjd hkp
      by_cases hk0 : y.kind = 0
      · have hJ2 : J (notN f (ls.take (k + 1))) (wr.alloc (Obj.cells #[Value.int IntKind.i64 y.kind, Value.int IntKind.i64 y.num, Value.string y.text] 30)) := by rw [HTK.out, if_pos hk0]; exact HJD2.out
        have HJ3 := Lib.hid hJ2
        have hK3 := HKE.out.trans HKP.out
        have HK3 := Lib.hid hK3
        have hn4 : n₀ ≤ (wr.alloc (Obj.cells #[Value.int IntKind.i64 y.kind, Value.int IntKind.i64 y.num, Value.string y.text] 30)).heap.size := Nat.le_trans hnW hK3.size
        have HN4 := Lib.hid hn4
        clear hJ2 hK3 hn4 HTK HLT
        rw [hk0] at c0 HJ3 HK3 HN4
        clear hk0
        gi_wp2
        refine ⟨(by intro f h; cases h), ?_⟩
        gi_wp2
        go_roundw
        case rel => exact ⟨k + 1, HK.out, by go_num, HJ3.out, HK3.out, HN4.out⟩
        case measure => have := HK.out; simp [intOf]; omega
      · have q1 : (y.kind == 0) = false := by rw [beq_eq_false_iff_ne]; exact hk0
        have q3 : (y.kind != 0) = true := by rw [bne, q1]; rfl
        have htk := HTK.out
        rw [if_neg hk0] at htk
        have HTK2 := Lib.hid htk
        have HLT2 := Lib.hid (HLT.out hk0)
        clear htk HTK HLT hk0 q1
        obtain ⟨fn, tmps, assign, body, hy, hR⟩ := HY.out (notN f (ls.take k)) x _ HJD2.out HLT2.out
        rw [hy0] at hy
        unfold vlV at hy
        gi_wp2
        refine hR.mono ?_
        rintro e W3 (⟨rfl, hJ3, hk3⟩ | ⟨rfl, hJx3⟩)
        · have hk4 := HKE.out.trans (HKP.out.trans hk3)
          have hJ4 : J (notN f (ls.take (k + 1))) W3 := by rw [HTK2.out]; exact hJ3
          have hn4 : n₀ ≤ W3.heap.size := Nat.le_trans hnW hk4.size
          have HJ4 := Lib.hid hJ4
          have HK4 := Lib.hid hk4
          clear hJ3 hk3 hk4 hJ4
          gi_wp2
          go_roundw
          case rel => exact ⟨k + 1, HK.out, by go_num, HJ4.out, HK4.out, hn4⟩
          case measure => have := HK.out; simp [intOf]; omega
        · gi_wp2
          refine bodyPost_ret (results_none rfl _ _ _) rfl ?_
          exact ⟨⟨_, rfl⟩, .inr ⟨_, by rw [← HTK2.out]; exact HPR.out, hJx3⟩⟩
    · obtain rfl : k = ls.length := by omega
      have hJ := HJ.out
      rw [List.take_length] at hJ
      gi_wp2
      go_end0
      exact ⟨⟨_, rfl⟩, .inl ⟨_, rfl, hJ⟩⟩

theorem others_fn (n : Nat) (A : Option Addr) (len cap : Nat) (W : World) : CallsIn Fence.wide n Tryd.prog 30 #[.slice A len cap] W fun e W' =>
    e = .returned (.func (.func 51) #[] #[.pointer (some ⟨W.heap.size, 0, none⟩)]) ∧ W' = W.alloc (.cells #[.slice A len cap] 22) := by
  refine callsIn_of_wp Tryd.func30 rfl trivial ?_ rfl
  simp only [Tryd.ntmps30, List.size_toArray, List.length_cons, List.length_nil, Nat.reduceAdd, Nat.reduceSub, Array.replicate_succ, Array.replicate_zero, List.push_toArray, List.append_toArray, List.nil_append, List.cons_append]
  gi_wp2
  go_ret
  exact ⟨rfl, rfl⟩
theorem oth_stops {α : Type} (f : α → Vl) (n : Nat) (hn : 1 ≤ n) (Bl B n₀ : Nat) (A : Option Addr) (cap : Nat) (ls : List α) (hlen : ls.length ≤ 4000000000000000000)
    (w0 : World) (hn0 : n₀ ≤ w0.heap.size) (lBl : Bl < w0.heap.size) (hBl : w0.cell? ⟨Bl, 0, none⟩ = some (.slice A ls.length cap)) (hN : vlsAt f w0 B n₀ A ls) :
    SeqStopsK Fence.wide n Tryd.prog 51 #[.pointer (some ⟨Bl, 0, none⟩)] (fun x : α => #[vlV (f x)]) (Kept8 B n₀) (fun ys => ys = notN f ls) (fun pre => pre <+: notN f ls) (notN f ls).length w0 := fun l J Jx W hW hJ hJx hY h0 => by
  refine oth_it f n hn l Bl B n₀ A cap ls hlen J Jx (fun pre W o h => hJ pre W _ none h (World.grownBy_alloc W o none) (fun r e => by cases e)) hY W ?_ ?_ ?_ h0
  · exact (hW.cell (p := ⟨Bl, 0, none⟩) (by show Bl < _; omega)).trans hBl
  · intro k hk
    obtain ⟨b, o, e, h1, h2, h3⟩ := hN k hk
    exact ⟨b, o, e, h1, h2, h3.keep hW (by omega)⟩
  · exact Nat.le_trans hn0 hW.size

/-- Blocks that are made one behind the other. -/
def allocs8 : World → List Obj → World
  | w, [] => w
  | w, o :: t => allocs8 (w.alloc o) t
theorem allocs8_size : ∀ (os : List Obj) (w : World), (allocs8 w os).heap.size = w.heap.size + os.length
  | [], w => rfl
  | o :: t, w => by rw [allocs8, allocs8_size t, World.size_alloc, List.length_cons]; omega
theorem allocs8_below : ∀ (os : List Obj) (w w0 : World) (n : Nat), n ≤ w.heap.size → Below n w0 w → Below n w0 (allocs8 w os)
  | [], w, w0, n, _, h => h
  | o :: t, w, w0, n, hn, h => allocs8_below t _ _ _ (by rw [World.size_alloc]; omega) (h.alloc hn o)
theorem allocs8_blk : ∀ (os : List Obj) (w : World) (i : Nat) (t : TypeId) (cs : List Value), os[i]? = some (.cells cs.toArray t) → Blk (allocs8 w os) (w.heap.size + i) t cs
  | [], w, i, t, cs, h => by simp at h
  | o :: os, w, 0, t, cs, h => by
    obtain rfl : o = .cells cs.toArray t := by simpa using h
    exact (Blk.born w t cs).below (allocs8_below os _ _ _ (Nat.le_refl _) (Below.refl _ _)) (by rw [World.size_alloc]; omega)
  | o :: os, w, i + 1, t, cs, h => by
    have := allocs8_blk os (w.alloc o) i t cs (by simpa using h)
    rw [World.size_alloc] at this
    rw [show w.heap.size + (i + 1) = w.heap.size + 1 + i by omega]
    exact this

set_option maxRecDepth 100000 in
set_option maxHeartbeats 4000000 in
theorem nulls_any (A : Option Addr) (cap : Nat) (l : List Vl) (W : World) (hl : Vls W A l) (hn : l.length ≤ 4000000000000000000) :
    Calls Tryd.prog 17 #[.slice A l.length cap] W fun e W' => e = .returned (.int .i64 (nulN l : Int)) ∧ Below W.heap.size W W' := by
  obtain ⟨N, hN⟩ : ∃ N, W.heap.size = N := ⟨_, rfl⟩
  rw [hN]
  obtain ⟨n, hn2⟩ : ∃ n, l.length = n := ⟨_, rfl⟩
  rw [hn2] at hn ⊢
  have HNN := Lib.hid hN
  have HLN := Lib.hid hn2
  have HL := Lib.hid hl
  clear hl hn2
  refine (callsIn_wide (n := 10)).1 ?_
  refine callsIn_of_wp_marks Tryd.func17 rfl trivial ?_ rfl
  simp only [Tryd.ntmps17, List.size_toArray, List.length_cons, List.length_nil, Nat.reduceAdd, Nat.reduceSub, Array.replicate_succ, Array.replicate_zero, List.push_toArray, List.append_toArray, List.nil_append, List.cons_append]
  gi_wp2_with (refine ⟨trivial, ?_⟩; gi_at_call 30; refine (others_fn 9 A n cap _).mono ?_; rintro e w3 ⟨rfl, rfl⟩)
  obtain ⟨W4, hW4⟩ : ∃ x, x = (W.alloc (Obj.cells #[Value.int .i64 (n : Int)] 3)).alloc (Obj.cells #[Value.slice A n cap] 22) := ⟨_, rfl⟩
  have hW5 : W4 = allocs8 W [Obj.cells [Value.int .i64 (n : Int)].toArray 3, Obj.cells [Value.slice A n cap].toArray 22] := hW4
  rw [← hW4]
  have hb0 : Blk W4 N 3 [Value.int .i64 (n : Int)] := by rw [hW5, ← HNN.out]; exact allocs8_blk _ W 0 _ _ rfl
  have hb1 : Blk W4 (N + 1) 22 [Value.slice A n cap] := by rw [hW5, ← HNN.out]; exact allocs8_blk _ W 1 _ _ rfl
  have bel : Below N W W4 := by rw [hW5]; exact allocs8_below _ W W N (by rw [HNN.out]; omega) (Below.refl _ _)
  have s4 : W4.heap.size = N + 2 := by rw [hW5, allocs8_size, HNN.out]; rfl
  have hln := HLN.out
  have hol : (notN id l).length ≤ n := by rw [← hln]; exact List.length_filter_le _ _
  have hon : (notN id l) = othL l := rfl
  clear hW4 hW5
  refine wpIn_rangeFunc_ownH rfl (by omega) (gf := 51) (lb := #[.pointer (some ⟨N + 1, 0, none⟩)]) rfl trivial (enters_of Tryd.func51 (by kernel_rfl) rfl)
    (oth_stops id 9 (by omega) (N + 1) N N A cap l (by omega) W4 (by omega) (by omega) (by rw [hln]; exact (hb1.at_ 0).trans rfl)
      (fun k hk => by
        obtain ⟨b, o, e, g3⟩ := HL.out k hk
        have hlt := g3.lt
        rw [HNN.out] at hlt
        exact ⟨b, o, e, hlt, by omega, g3.keep bel hlt⟩))
    Kept8.trans (Kept8.putObj (by omega)) (Below.refl _ _) (fun _ => rfl)
    (fun pre Wd => Blk Wd N 3 [Value.int .i64 ((n - pre.length : Nat) : Int)] ∧ Below N W Wd)
    (fun c pre Wd => False)
    (OwnFrom.and (fun s A B row hs hg hr => show Blk B N 3 _ from (grownBy_keeps_cells hg (fun r e => (hr r e).2) hs rfl).trans hs) (ownFrom_below (by omega) (by omega)))
    (fun c => fun s A B row hs hg hr => hs)
    ⟨hb0, bel⟩
    (fun x a' Wd => a' = { tmps := #[Value.slice A n cap, undef, Value.int IntKind.i64 0, Value.pointer (some ⟨N, 0, none⟩), Value.slice A n cap, Value.int IntKind.i64 (n : Int), Value.slice A n cap, Value.func (Fn.func 51) #[] #[Value.pointer (some ⟨N + 1, 0, none⟩)], vlV x, undef, undef, undef], defers := [] })
    (fun x a' => fun s A B row hs hg hr => hs) ?assign ?body ?done ?stop
  case assign =>
    rintro l0 pre x Wd K hI hK
    have hK2 := hK _ _ (KeepsFrom.refl _ _) (Kept8.refl _ _ _) hI rfl
    gi_wp2
    simpa using hK2
  case body =>
    rintro l0 pre x a' Wd hl0 hrec ⟨hb2, hbel⟩ rfl hlt2
    obtain ⟨q, hq⟩ : ∃ q : Int, ((n - pre.length : Nat) : Int) = q := ⟨_, rfl⟩
    have hq1 : 1 ≤ q ∧ q ≤ 4000000000000000000 := by omega
    have HQ : Hid (q - 1 = ((n - (pre ++ [x]).length : Nat) : Int)) := by show _ = _; rw [List.length_append, List.length_singleton]; omega
    rw [hq] at hb2
    have hc0 : Wd.cell? ⟨N, 0, none⟩ = some (.int .i64 q) := (hb2.at_ 0).trans rfl
    have hf0 := hb2.free 0
    have HB2 := Lib.hid hb2
    have HBEL := Lib.hid hbel
    clear hb2 hbel hq hlt2
    gi_wp2
    have hs := HB2.out.store 0 (.int .i64 (q - 1))
    have hB10 := HBEL.out.setCell (p := ⟨N, 0, none⟩) (by show N ≤ N; omega) (.int .i64 (q - 1))
    have hKO := KeepsOthers.setCell Wd ⟨N, 0, none⟩ (.int .i64 (q - 1))
    exact (show KeepsFrom W4.heap.size Wd (Wd.setCell ⟨N, 0, none⟩ (.int .i64 (q - 1))) ∧ Kept8 N N Wd (Wd.setCell ⟨N, 0, none⟩ (.int .i64 (q - 1))) ∧ (Blk (Wd.setCell ⟨N, 0, none⟩ (.int .i64 (q - 1))) N 3 [Value.int .i64 ((n - (pre ++ [x]).length : Nat) : Int)] ∧ Below N W (Wd.setCell ⟨N, 0, none⟩ (.int .i64 (q - 1)))) from
      ⟨hKO.from _, ⟨hKO.size, fun k hk _ => (hB10.block k (by omega)).trans (HBEL.out.block k (by omega)).symm⟩, by rw [← HQ.out]; exact hs, hB10⟩)
  case done =>
    rintro D ys Wd hD rfl ⟨hb2, hbel⟩ hK
    have hnn := nulN_oth l
    rw [hln] at hnn
    rw [hon] at hb2
    rw [show n - (othL l).length = nulN l by omega] at hb2
    have hc0 : Wd.cell? ⟨N, 0, none⟩ = some (.int .i64 (nulN l : Int)) := (hb2.at_ 0).trans rfl
    have HK := Lib.hid hK
    have HBEL := Lib.hid hbel
    clear hb2 hbel hK hnn
    gi_wp2
    refine ⟨by simp, .inl ⟨_, _, rfl, run_takeDeferred HK.out, ?_⟩⟩
    have hB2 : Below N W (Wd.putObj D (Obj.deferred none)) := HBEL.out.trans (belowK_b (w := W) (by omega) Wd D _ _ (by omega) HK.out rfl rfl)
    exact ⟨_, results_tmp rfl _ _ _, rfl, hB2⟩
  case stop =>
    rintro D c pre Wd hD hpre hf hK
    exact hf.elim
end Go.Proofs.YtfgmdaemcaamiaaDoor
