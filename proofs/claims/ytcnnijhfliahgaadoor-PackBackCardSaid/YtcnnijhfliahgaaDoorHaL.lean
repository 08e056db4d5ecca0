/- Laws for arrays by value: a whole row read, stored, indexed. -/
import Derived.Test.YtcnnijhfliahgaaDoorHaX
import Derived.Laws.CopyOwn
namespace Go.Proofs.YtcnnijhfliahgaaDoor
open Go.RowKit
set_option linter.unusedVariables false

theorem ld_row {ops : Array Oper} {rest : List Oper} {o : Oper} {a : Act} {Q : Exit → Act → World → Prop} {w : World} (hgd : o.guard = none) (ty : TypeId) (x : Operand) (ho : o.op = .load ty x) (n : Nat) (e : TypeId)
    (hu : Tryd.prog.underlying ty = some (.array n e)) {m : Nat} (hi : (Tryd.prog.info? ty).map (·.size) = some m) (g : Nat) (t : TypeId) (cs : List Value) (hx : a.eval x = .pointer (some ⟨g, 0, none⟩)) (hg : Blk w g t cs) (hl : cs.length = m)
    (h : wpList Tryd.prog ops Q rest (a.put o.dst (.agg cs.toArray)) w) : wpList Tryd.prog ops Q (o :: rest) a w :=
  wpList_load_row hgd ty x ho g hx t cs.toArray (0, 0) (.array n e) hg hu rfl (by rw [hi, ← hl]; simp) h
theorem st_row {ops : Array Oper} {rest : List Oper} {o : Oper} {a : Act} {Q : Exit → Act → World → Prop} {w : World} (hgd : o.guard = none) (ty : TypeId) (x y : Operand) (ho : o.op = .store ty x y) (n : Nat)
    (hi : (Tryd.prog.info? ty).map (·.size) = some n) (g : Nat) (t : TypeId) (old cs : List Value) (hx : a.eval x = .pointer (some ⟨g, 0, none⟩)) (hy : a.eval y = .agg cs.toArray) (hg : Blk w g t old) (hl : cs.length = n) (hold : old.length = n)
    (h1 : ∀ v ∈ cs, v.oneCell' = true)
    (h : ∀ w', Blk w' g t cs → Sole g w w' → wpList Tryd.prog ops Q rest (a.put o.dst undef) w') : wpList Tryd.prog ops Q (o :: rest) a w := by
  refine wpList_store_row hgd ty x y ho g cs.toArray hx hy t old.toArray hg (by rw [hi, ← hl]; simp) (by simp; omega) (by rw [Array.all_eq_true_iff_forall_mem]; intro v hv; exact h1 v (by simpa using hv)) ?_
  refine h _ (setRow_heap w g old.toArray _ t _ hg) ⟨rfl, rfl, rfl, by simp [World.setRow], fun k hk => setRow_other w g k _ hk⟩
theorem u32s_one (v : List W32) : ∀ u ∈ u32s v, u.oneCell' = true := by
  intro u hu
  obtain ⟨c, _, rfl⟩ := List.mem_map.1 hu
  rfl
/-- An element of a whole array. -/
theorem idx_row (ty e : TypeId) (n : Nat) (hu : Tryd.prog.underlying ty = some (.array n e)) (hs : (Tryd.prog.info? e).map (·.size) = some 1) (ha : ∀ w, (isAgg e).run Tryd.prog w = .ok false w) (cs : List Value) (hl : cs.length = n) (k : Nat) (hk : k < n) (v : Value) (hv : cs[k]? = some v) (w : World) :
    (Instr.index ty (.agg cs.toArray) (.int .i64 (k : Int))).run Tryd.prog w = .ok v w := by
  cases hq : Tryd.prog.info? e with
  | none => simp [hq] at hs
  | some i =>
    have hs1 : i.size = 1 := by simpa [hq] using hs
    have hb : (0 : Int) ≤ (k : Int) ∧ (k : Int) < (n : Int) := by omega
    simp [Instr.index, asIntOf, run_underlying hu, hb, sizeOf, typeInfo, hq, hs1, part, ha, Sem.run_bind, Result.andThen, hv]
    intro h
    omega
/-- A whole array's rest, as a slice. -/
theorem sl_from (ty e : TypeId) (n : Nat) (hu : Tryd.prog.underlying ty = some (.array n e)) (hs : (Tryd.prog.info? e).map (·.size) = some 1) (g lo : Nat) (hlo : lo ≤ n) (w : World) :
    (Instr.sliceAt ty (.pointer (some ⟨g, 0, none⟩)) (some (.int .i64 (lo : Int))) none none).run Tryd.prog w = .ok (.slice (some (if n = lo then ⟨g, 0, none⟩ else ⟨g, lo, none⟩)) (n - lo) (n - lo)) w := by
  cases hq : Tryd.prog.info? e with
  | none => simp [hq] at hs
  | some i =>
    have hs1 : i.size = 1 := by simpa [hq] using hs
    have hb : (0 : Int) ≤ (lo : Int) ∧ (lo : Int) ≤ (n : Int) := by omega
    have ha : (⟨g, 0, none⟩ : Addr).add lo = ⟨g, lo, none⟩ := by rw [Addr.add_lit, Nat.zero_add]
    simp [Instr.sliceAt, Instr.sureAddr, Instr.sliceBounds, Instr.sliceBound, asIntOf, run_underlying hu, hb, hlo, sizeOf, typeInfo, hq, hs1, Sem.run_bind, Result.andThen, ha]
theorem sl_all (ty e : TypeId) (n : Nat) (hu : Tryd.prog.underlying ty = some (.array n e)) (hs : (Tryd.prog.info? e).map (·.size) = some 1) (hn : n ≠ 0) (g : Nat) (w : World) :
    (Instr.sliceAt ty (.pointer (some ⟨g, 0, none⟩)) none none none).run Tryd.prog w = .ok (.slice (some ⟨g, 0, none⟩) n n) w := by
  cases hq : Tryd.prog.info? e with
  | none => simp [hq] at hs
  | some i =>
    have hs1 : i.size = 1 := by simpa [hq] using hs
    have ha : (⟨g, 0, none⟩ : Addr).add 0 = ⟨g, 0, none⟩ := by rw [Addr.add_lit]
    simp [Instr.sliceAt, Instr.sureAddr, Instr.sliceBounds, run_underlying hu, sizeOf, typeInfo, hq, Sem.run_bind, Result.andThen, ha]
theorem sl_to (ty e : TypeId) (n : Nat) (hu : Tryd.prog.underlying ty = some (.array n e)) (hs : (Tryd.prog.info? e).map (·.size) = some 1) (hn : n ≠ 0) (g hi : Nat) (hh : hi ≤ n) (w : World) :
    (Instr.sliceAt ty (.pointer (some ⟨g, 0, none⟩)) none (some (.int .i64 (hi : Int))) none).run Tryd.prog w = .ok (.slice (some ⟨g, 0, none⟩) hi n) w := by
  cases hq : Tryd.prog.info? e with
  | none => simp [hq] at hs
  | some i =>
    have hs1 : i.size = 1 := by simpa [hq] using hs
    have hb : (0 : Int) ≤ (hi : Int) ∧ (hi : Int) ≤ (n : Int) := by omega
    have ha : (⟨g, 0, none⟩ : Addr).add 0 = ⟨g, 0, none⟩ := by rw [Addr.add_lit]
    simp [Instr.sliceAt, Instr.sureAddr, Instr.sliceBounds, Instr.sliceBound, asIntOf, run_underlying hu, hb, hh, sizeOf, typeInfo, hq, Sem.run_bind, Result.andThen, ha]
/-- Copy of cells onto a block of the call's own; the blocks ahead of it lie as they lay. -/
theorem cp_blk {ops : Array Oper} {rest : List Oper} {o : Oper} {a : Act} {Q : Exit → Act → World → Prop} {w : World} (hgd : o.guard = none) (d s : Operand) (T E : TypeId) (hu : Tryd.prog.underlying T = some (.slice E)) (hsz : (Tryd.prog.info? E).map (·.size) = some 1)
    (ho : o.op = .call { callee := .builtin .copy, args := #[d, s], argTypes := #[T, T] }) (dp sp : Option Addr) (dLen dCap sLen sCap : Nat) (hd : a.eval d = .slice dp dLen dCap) (hs : a.eval s = .slice sp sLen sCap)
    (g off : Nat) (t : TypeId) (cur cs : List Value) (hg : Blk w g t cur) (hn : cs.length = Nat.min sLen dLen)
    (hpos : 0 < cs.length → dp = some ⟨g, off, none⟩ ∧ ∃ ad, sp = some ad ∧ ∀ j v, cs[j]? = some v → w.cell? (ad.add j) = some v) (hfit : off + cs.length ≤ cur.length) (h1 : ∀ v ∈ cs, v.oneCell' = true)
    (h : ∀ w', Blk w' g t (splice cur off cs) → Below g w w' → wpList Tryd.prog ops Q rest (a.put o.dst (goInt cs.length)) w') : wpList Tryd.prog ops Q (o :: rest) a w :=
  wpList_copy_splice hgd d s T T ho E hu hsz dp sp dLen dCap sLen sCap hd hs g off cur t hg cs hn hpos hfit h1 g w (Below.refl _ _) (Nat.le_refl _) h
/-- The cells of a block, as a slice that begins at its head reads them. -/
theorem Blk.news {w : World} {g : Nat} {t : TypeId} {cs : List Value} (h : Blk w g t cs) : ∀ j v, cs[j]? = some v → w.cell? ((⟨g, 0, none⟩ : Addr).add j) = some v := by
  intro j v hv
  rw [Addr.add_lit, Nat.zero_add, h.at_]
  exact hv
theorem u8_size : (Tryd.prog.info? 5).map (·.size) = some 1 := by kernel_rfl
theorem u32_size : (Tryd.prog.info? 60).map (·.size) = some 1 := by kernel_rfl
theorem u8_agg (w : World) : (isAgg 5).run Tryd.prog w = .ok false w := by kernel_rfl
theorem u32_agg (w : World) : (isAgg 60).run Tryd.prog w = .ok false w := by kernel_rfl
theorem ar61 : Tryd.prog.underlying 61 = some (.array 8 60) := by kernel_rfl
theorem ar62 : Tryd.prog.underlying 62 = some (.array 8 60) := by kernel_rfl
theorem ar63 : Tryd.prog.underlying 63 = some (.array 64 5) := by kernel_rfl
theorem ar71 : Tryd.prog.underlying 71 = some (.array 16 60) := by kernel_rfl
theorem ar42 : Tryd.prog.underlying 42 = some (.array 32 5) := by kernel_rfl
theorem ar73 : Tryd.prog.underlying 73 = some (.array 16 5) := by kernel_rfl
theorem ar74 : Tryd.prog.underlying 74 = some (.array 10 73) := by kernel_rfl
theorem sz61 : (Tryd.prog.info? 61).map (·.size) = some 8 := by kernel_rfl
theorem sz62 : (Tryd.prog.info? 62).map (·.size) = some 8 := by kernel_rfl
theorem sz63 : (Tryd.prog.info? 63).map (·.size) = some 64 := by kernel_rfl
theorem sz71 : (Tryd.prog.info? 71).map (·.size) = some 16 := by kernel_rfl
theorem sz42 : (Tryd.prog.info? 42).map (·.size) = some 32 := by kernel_rfl
theorem sz73 : (Tryd.prog.info? 73).map (·.size) = some 16 := by kernel_rfl
theorem sz74 : (Tryd.prog.info? 74).map (·.size) = some 160 := by kernel_rfl
theorem u8s_at {l : List UInt8} {k : Nat} (hk : k < l.length) : (u8s l)[k]? = some (.int .u8 ((l.getD k 0).toNat : Int)) := by simp [u8s, hk]
theorem u32s_get {l : List W32} {k : Nat} (hk : k < l.length) : (u32s l)[k]? = some (.int .u32 ((wat l k).toNat : Int)) := by simp [u32s, wat, hk]
/-- An element, itself an array, of a whole array. -/
theorem idx_agg (ty e : TypeId) (n m : Nat) (hu : Tryd.prog.underlying ty = some (.array n e)) (hs : (Tryd.prog.info? e).map (·.size) = some m) (ha : ∀ w, (isAgg e).run Tryd.prog w = .ok true w) (cs : Array Value) (k : Nat) (hk : k < n) (w : World) :
    (Instr.index ty (.agg cs) (.int .i64 (k : Int))).run Tryd.prog w = .ok (.agg (cs.extract (k * m) (k * m + m))) w := by
  cases hq : Tryd.prog.info? e with
  | none => simp [hq] at hs
  | some i =>
    have hs1 : i.size = m := by simpa [hq] using hs
    have hb : (0 : Int) ≤ (k : Int) ∧ (k : Int) < (n : Int) := by omega
    simp [Instr.index, asIntOf, run_underlying hu, hb, sizeOf, typeInfo, hq, hs1, part, ha, Sem.run_bind, Result.andThen]
    intro h
    omega
theorem agg73 (w : World) : (isAgg 73).run Tryd.prog w = .ok true w := by kernel_rfl
def permB : List UInt8 := perms.flatten.map UInt8.ofNat
def permR (r : Nat) : List UInt8 := (perms.getD r []).map UInt8.ofNat
theorem permB_len : permB.length = 160 := by decide +kernel
theorem permR_len : ∀ r < 10, (permR r).length = 16 := by decide +kernel
theorem permR_at : ∀ r < 10, ∀ j < 16, ((permR r).getD j 0).toNat = (perms.getD r []).getD j 0 ∧ (perms.getD r []).getD j 0 < 16 := by decide +kernel
theorem permB_cut : ∀ r < 10, (permB.drop (r * 16)).take 16 = permR r := by decide +kernel
theorem permB_row (r : Nat) (hr : r < 10) : (u8s permB).toArray.extract (r * 16) (r * 16 + 16) = (u8s (permR r)).toArray := by
  rw [← permB_cut r hr]
  apply Array.ext'
  simp [u8s, List.map_take, List.map_drop, List.take_drop]
end Go.Proofs.YtcnnijhfliahgaaDoor
