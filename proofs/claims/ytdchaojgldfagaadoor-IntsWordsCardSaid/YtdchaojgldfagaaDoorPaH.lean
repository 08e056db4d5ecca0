/- Blocks, arrays by value, cells of bytes: laws that pack's walks lean on. -/
import Derived.Test.YtdchaojgldfagaaDoorMem
import Derived.Laws.CopyOwn
import Derived.Laws.Rows
import Derived.StillTailTactics
import Derived.Lib.Hide
import Derived.RegionTactic
import Derived.BigRegion
import Derived.Deep.QuietTactic
import Derived.BigQuiet
import Derived.Lib.LaidU8
import Derived.LaidSub
import Derived.MakeChecks
namespace Go.Proofs.YtdchaojgldfagaaDoor
open Go.RowKit
set_option linter.unusedVariables false

/-- All but block g lies as it lay. -/
structure Sole (g : Nat) (w w' : World) : Prop where
  os : w'.os = w.os
  tape : w'.tape = w.tape
  output : w'.output = w.output
  size : w'.heap.size = w.heap.size
  block : ∀ k, k ≠ g → w'.heap[k]? = w.heap[k]?
theorem Sole.refl (g : Nat) (w : World) : Sole g w w := ⟨rfl, rfl, rfl, rfl, fun _ _ => rfl⟩
theorem Sole.drew {g : Nat} {a w : World} (h : Sole g a w) : Sole g a w.drew := ⟨h.os, h.tape, h.output, h.size, h.block⟩
theorem Sole.trans {g : Nat} {a b c : World} (h : Sole g a b) (k : Sole g b c) : Sole g a c :=
  ⟨k.os.trans h.os, k.tape.trans h.tape, k.output.trans h.output, k.size.trans h.size, fun i hi => (k.block i hi).trans (h.block i hi)⟩
theorem Sole.setCell {g : Nat} {a w : World} (h : Sole g a w) (i : Nat) (u : Value) : Sole g a (w.setCell ⟨g, i, none⟩ u) :=
  h.trans ⟨rfl, rfl, rfl, by simp [World.setCell], fun k hk => Below.heap_setCell w ⟨g, i, none⟩ u k hk⟩
theorem Sole.below {g B : Nat} {w0 w w' : World} (h : Sole g w w') (hb : Below B w0 w) (hg : B ≤ g) : Below B w0 w' :=
  hb.trans ⟨h.os, h.tape, h.output, Nat.le_of_eq h.size.symm, fun k hk => h.block k (by omega)⟩
theorem Blk.sole {w w' : World} {g k : Nat} {t : TypeId} {cs : List Value} (h : Blk w k t cs) (hs : Sole g w w') (hk : k ≠ g) : Blk w' k t cs := (hs.block k hk).trans h

theorem ld_row {ops : Array Oper} {rest : List Oper} {o : Oper} {a : Act} {Q : Exit → Act → World → Prop} {w : World} (hgd : o.guard = none) (ty : TypeId) (x : Operand) (ho : o.op = .load ty x) (n : Nat) (e : TypeId)
    (hu : Tryd.prog.underlying ty = some (.array n e)) {m : Nat} (hi : (Tryd.prog.info? ty).map (·.size) = some m) (g : Nat) (t : TypeId) (cs : List Value) (hx : a.eval x = .pointer (some ⟨g, 0, none⟩)) (hg : Blk w g t cs) (hl : cs.length = m)
    (h : wpList Tryd.prog ops Q rest (a.put o.dst (.agg cs.toArray)) w) : wpList Tryd.prog ops Q (o :: rest) a w :=
  wpList_load_row hgd ty x ho g hx t cs.toArray (0, 0) (.array n e) hg hu rfl (by rw [hi, ← hl]; simp) h
theorem st_row {ops : Array Oper} {rest : List Oper} {o : Oper} {a : Act} {Q : Exit → Act → World → Prop} {w : World} (hgd : o.guard = none) (ty : TypeId) (x y : Operand) (ho : o.op = .store ty x y) (n : Nat)
    (hi : (Tryd.prog.info? ty).map (·.size) = some n) (g : Nat) (t : TypeId) (old cs : List Value) (hx : a.eval x = .pointer (some ⟨g, 0, none⟩)) (hy : a.eval y = .agg cs.toArray) (hg : Blk w g t old) (hl : cs.length = n) (hold : old.length = n)
    (h1 : ∀ v ∈ cs, v.oneCell' = true)
    (h : ∀ w', Blk w' g t cs → Sole g w w' → wpList Tryd.prog ops Q rest (a.put o.dst undef) w') : wpList Tryd.prog ops Q (o :: rest) a w := by
  refine wpList_store_row hgd ty x y ho g cs.toArray hx hy t old.toArray hg (by rw [hi, ← hl]; simp) (by simp; omega) (by rw [Array.all_eq_true_iff_forall_mem]; intro v hv; exact h1 v (by simpa using hv)) ?_
  refine h _ (setRow_heap w g old.toArray _ t _ hg) ⟨rfl, rfl, rfl, by simp [World.setRow], fun k hk => setRow_other w g k _ hk⟩
/-- An element of a whole array. -/
theorem idx_row (ty e : TypeId) (n : Nat) (hu : Tryd.prog.underlying ty = some (.array n e)) (hs : (Tryd.prog.info? e).map (·.size) = some 1) (ha : ∀ w, (isAgg e).run Tryd.prog w = .ok false w) (cs : List Value) (hl : cs.length = n) (k : Nat) (hk : k < n) (v : Value) (hv : cs[k]? = some v) (w : World) :
    (Instr.index ty (.agg cs.toArray) (.int .i64 (k : Int))).run Tryd.prog w = .ok v w := by
  cases hq : Tryd.prog.info? e with
  | none => simp [hq] at hs
  | some i =>
    have hs1 : i.size = 1 := by simpa [hq] using hs
    have hb : (0 : Int) ≤ (k : Int) ∧ (k : Int) < (n : Int) := by omega
    simp [Instr.index, asIntOf, run_underlying hu, hb, sizeOf, typeInfo, hq, hs1, part, ha, Sem.run_bind, Result.andThen, hv]
    intro h
    omega
/-- A whole array's rest, as a slice. -/
theorem sl_from (ty e : TypeId) (n : Nat) (hu : Tryd.prog.underlying ty = some (.array n e)) (hs : (Tryd.prog.info? e).map (·.size) = some 1) (g lo : Nat) (hlo : lo ≤ n) (w : World) :
    (Instr.sliceAt ty (.pointer (some ⟨g, 0, none⟩)) (some (.int .i64 (lo : Int))) none none).run Tryd.prog w = .ok (.slice (some (if n = lo then ⟨g, 0, none⟩ else ⟨g, lo, none⟩)) (n - lo) (n - lo)) w := by
  cases hq : Tryd.prog.info? e with
  | none => simp [hq] at hs
  | some i =>
    have hs1 : i.size = 1 := by simpa [hq] using hs
    have hb : (0 : Int) ≤ (lo : Int) ∧ (lo : Int) ≤ (n : Int) := by omega
    have ha : (⟨g, 0, none⟩ : Addr).add lo = ⟨g, lo, none⟩ := by rw [Addr.add_lit, Nat.zero_add]
    simp [Instr.sliceAt, Instr.sureAddr, Instr.sliceBounds, Instr.sliceBound, asIntOf, run_underlying hu, hb, hlo, sizeOf, typeInfo, hq, hs1, Sem.run_bind, Result.andThen, ha]
theorem sl_all (ty e : TypeId) (n : Nat) (hu : Tryd.prog.underlying ty = some (.array n e)) (hs : (Tryd.prog.info? e).map (·.size) = some 1) (hn : n ≠ 0) (g : Nat) (w : World) :
    (Instr.sliceAt ty (.pointer (some ⟨g, 0, none⟩)) none none none).run Tryd.prog w = .ok (.slice (some ⟨g, 0, none⟩) n n) w := by
  cases hq : Tryd.prog.info? e with
  | none => simp [hq] at hs
  | some i =>
    have hs1 : i.size = 1 := by simpa [hq] using hs
    have ha : (⟨g, 0, none⟩ : Addr).add 0 = ⟨g, 0, none⟩ := by rw [Addr.add_lit]
    simp [Instr.sliceAt, Instr.sureAddr, Instr.sliceBounds, run_underlying hu, sizeOf, typeInfo, hq, Sem.run_bind, Result.andThen, ha]
theorem sl_to (ty e : TypeId) (n : Nat) (hu : Tryd.prog.underlying ty = some (.array n e)) (hs : (Tryd.prog.info? e).map (·.size) = some 1) (hn : n ≠ 0) (g hi : Nat) (hh : hi ≤ n) (w : World) :
    (Instr.sliceAt ty (.pointer (some ⟨g, 0, none⟩)) none (some (.int .i64 (hi : Int))) none).run Tryd.prog w = .ok (.slice (some ⟨g, 0, none⟩) hi n) w := by
  cases hq : Tryd.prog.info? e with
  | none => simp [hq] at hs
  | some i =>
    have hs1 : i.size = 1 := by simpa [hq] using hs
    have hb : (0 : Int) ≤ (hi : Int) ∧ (hi : Int) ≤ (n : Int) := by omega
    have ha : (⟨g, 0, none⟩ : Addr).add 0 = ⟨g, 0, none⟩ := by rw [Addr.add_lit]
    simp [Instr.sliceAt, Instr.sureAddr, Instr.sliceBounds, Instr.sliceBound, asIntOf, run_underlying hu, hb, hh, sizeOf, typeInfo, hq, Sem.run_bind, Result.andThen, ha]
/-- Copy of cells onto a block of the call's own; the blocks ahead of it lie as they lay. -/
theorem cp_blk {ops : Array Oper} {rest : List Oper} {o : Oper} {a : Act} {Q : Exit → Act → World → Prop} {w : World} (hgd : o.guard = none) (d s : Operand) (T E : TypeId) (hu : Tryd.prog.underlying T = some (.slice E)) (hsz : (Tryd.prog.info? E).map (·.size) = some 1)
    (ho : o.op = .call { callee := .builtin .copy, args := #[d, s], argTypes := #[T, T] }) (dp sp : Option Addr) (dLen dCap sLen sCap : Nat) (hd : a.eval d = .slice dp dLen dCap) (hs : a.eval s = .slice sp sLen sCap)
    (g off : Nat) (t : TypeId) (cur cs : List Value) (hg : Blk w g t cur) (hn : cs.length = Nat.min sLen dLen)
    (hpos : 0 < cs.length → dp = some ⟨g, off, none⟩ ∧ ∃ ad, sp = some ad ∧ ∀ j v, cs[j]? = some v → w.cell? (ad.add j) = some v) (hfit : off + cs.length ≤ cur.length) (h1 : ∀ v ∈ cs, v.oneCell' = true)
    (h : ∀ w', Blk w' g t (splice cur off cs) → Below g w w' → wpList Tryd.prog ops Q rest (a.put o.dst (goInt cs.length)) w') : wpList Tryd.prog ops Q (o :: rest) a w :=
  wpList_copy_splice hgd d s T T ho E hu hsz dp sp dLen dCap sLen sCap hd hs g off cur t hg cs hn hpos hfit h1 g w (Below.refl _ _) (Nat.le_refl _) h
/-- The cells of a block, as a slice that begins at its head reads them. -/
theorem Blk.news {w : World} {g : Nat} {t : TypeId} {cs : List Value} (h : Blk w g t cs) : ∀ j v, cs[j]? = some v → w.cell? ((⟨g, 0, none⟩ : Addr).add j) = some v := by
  intro j v hv
  rw [Addr.add_lit, Nat.zero_add, h.at_]
  exact hv
theorem u8s_at {l : List UInt8} {k : Nat} (hk : k < l.length) : (u8s l)[k]? = some (.int .u8 ((l.getD k 0).toNat : Int)) := by simp [u8s, hk]
theorem u8s_set (l : List UInt8) (i : Nat) (x : UInt8) : (u8s l).set i (.int .u8 (x.toNat : Int)) = u8s (l.set i x) := by simp [u8s, List.map_set]
theorem Blk.byt {w : World} {g : Nat} {t : TypeId} {l : List UInt8} (h : Blk w g t (u8s l)) : Byt w (some ⟨g, 0, none⟩) l := by
  intro k hk
  refine ⟨g, 0, rfl, ?_⟩
  rw [Nat.zero_add, h.at_, u8s_at hk]
  simp [hk]
theorem var_blk {W : World} {name : String} {g : Nat} {cs : Array Value} (hg : Tryd.prog.globalNamed name = some g) (hv : W.var? Tryd.prog name = some cs) (h : ∃ c t, W.heap[g]? = some (.cells c t (0, 0))) : ∃ t, Blk W g t cs.toList := by
  obtain ⟨c, t, hc⟩ := h
  simp only [World.var?, hg, Option.bind_some, hc, Option.some.injEq] at hv
  subst hv
  exact ⟨t, by simpa [Blk] using hc⟩
end Go.Proofs.YtdchaojgldfagaaDoor
