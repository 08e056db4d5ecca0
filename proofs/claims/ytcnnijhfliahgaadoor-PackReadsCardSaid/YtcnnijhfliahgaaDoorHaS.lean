/- Plain facts and laws for the walk of hash.Sum: what has come so far, the rest of a slice, clear. -/
import Derived.Test.YtcnnijhfliahgaaDoorHaB
namespace Go.Proofs.YtcnnijhfliahgaaDoor
open Go.RowKit
set_option linter.unusedVariables false

/-- The state behind the first k blocks. -/
def hsL (d : List UInt8) : Nat → List W32
  | 0 => h0
  | k + 1 => blockL (hsL d k) ((d.drop (64 * k)).take 64) (64 * (k + 1)) false
def endL (d : List UInt8) (k : Nat) : List W32 := blockL (hsL d k) (pad (d.drop (64 * k))) d.length true
def sumD (d : List UInt8) : List UInt8 := outL (endL d ((d.length - 1) / 64))
theorem abc_sum : hexL (sumD [97, 98, 99]) = [53, 48, 56, 99, 53, 101, 56, 99, 51, 50, 55, 99, 49, 52, 101, 50, 101, 49, 97, 55, 50, 98, 97, 51, 52, 101, 101, 98, 52, 53, 50, 102, 51, 55, 52, 53, 56, 98, 50, 48, 57, 101, 100, 54, 51, 97, 50, 57, 52, 100, 57, 57, 57, 98, 52, 99, 56, 54, 54, 55, 53, 57, 56, 50] := by decide +kernel
theorem hsL_len (d : List UInt8) (k : Nat) : (hsL d k).length = 8 := by
  cases k with
  | zero => rfl
  | succ k => simp [hsL, blockL]
theorem blockL_len (h : List W32) (b : List UInt8) (n : Nat) (last : Bool) : (blockL h b n last).length = 8 := by simp [blockL]
theorem outL_len (h : List W32) : (outL h).length = 32 := by simp [outL]
theorem sumD_len (d : List UInt8) : (sumD d).length = 32 := outL_len _
theorem hsL_app (d e : List UInt8) (k : Nat) (hk : 64 * k ≤ d.length) : hsL (d ++ e) k = hsL d k := by
  induction k with
  | zero => rfl
  | succ k ih =>
    simp only [hsL]
    rw [ih (by omega)]
    congr 1
    rw [List.drop_append_of_le_length (by omega), List.take_append_of_le_length (by simp; omega)]
/-- So much has come: k whole blocks, and f bytes that wait. -/
structure St (d : List UInt8) (k f : Nat) (blk : List UInt8) : Prop where
  len : d.length = 64 * k + f
  le : f ≤ 64
  size : blk.length = 64
  cut : blk.take f = d.drop (64 * k)
theorem St.full {d blk : List UInt8} {k : Nat} (h : St d k 64 blk) : St d (k + 1) 0 blk ∧ blockL (hsL d k) blk (64 * k + 64) false = hsL d (k + 1) := by
  have e : blk = d.drop (64 * k) := by rw [← h.cut, List.take_of_length_le (by rw [h.size]; omega)]
  refine ⟨⟨by rw [h.len]; omega, by omega, h.size, ?_⟩, ?_⟩
  · rw [List.take_zero, List.drop_of_length_le (by rw [h.len]; omega)]
  · simp only [hsL]
    rw [← e, List.take_of_length_le (by rw [h.size]; omega)]
    rfl
theorem St.copy {d blk q : List UInt8} {k f n : Nat} (h : St d k f blk) (hn : n ≤ q.length) (hf : f + n ≤ 64) : St (d ++ q.take n) k (f + n) (splice blk f (q.take n)) := by
  have hl : (q.take n).length = n := by simp; omega
  refine ⟨by rw [List.length_append, hl, h.len]; omega, hf, by rw [length_splice _ _ _ (by rw [hl, h.size]; exact hf), h.size], ?_⟩
  have hk : 64 * k ≤ d.length := by rw [h.len]; omega
  rw [List.drop_append_of_le_length hk, ← h.cut]
  simp only [splice]
  have e1 : (blk.take f).length = f := by rw [List.length_take, h.size]; omega
  rw [← List.append_assoc, List.take_append_of_le_length (by rw [List.length_append, e1, hl]; omega), List.take_of_length_le (by rw [List.length_append, e1, hl]; omega)]
theorem St.shut {d blk : List UInt8} {k f : Nat} (h : St d k f blk) : splice blk f (List.replicate (64 - f) 0) = pad (d.drop (64 * k)) := by
  have hl : (d.drop (64 * k)).length = f := by rw [List.length_drop, h.len]; omega
  simp only [splice, pad, hl]
  rw [← h.cut, List.length_replicate, List.drop_of_length_le (by rw [h.size]; have := h.le; omega), List.append_nil]
theorem St.last {d blk : List UInt8} {k f : Nat} (h : St d k f blk) (h0 : f = 0 → k = 0) : (d.length - 1) / 64 = k := by
  have := h.len
  have := h.le
  by_cases hf : f = 0
  · have h1 := h0 hf; omega
  · omega

/-- The rest of a slice of bytes. -/
theorem cut_byt {w : World} {A : Option Addr} {cap n : Nat} {l : List UInt8} (hb : Byt w A l) (hn : n ≤ l.length) (hc : l.length ≤ cap) (hA : A = none → cap = 0) : ∃ A' : Option Addr,
    (∀ w', (Instr.slice 30 (.slice A l.length cap) (some (.int .i64 (n : Int))) none none).run Tryd.prog w' = .ok (.slice A' (l.drop n).length (cap - n)) w') ∧ Byt w A' (l.drop n) ∧ (A' = none → cap - n = 0) := by
  refine ⟨if cap = n then A else A.map (·.add n), ?_, ?_, ?_⟩
  · intro w'
    have hi : (Tryd.prog.info? 5).map (·.size) = some 1 := u8_size
    cases hq : Tryd.prog.info? 5 with
    | none => simp [hq] at hi
    | some i =>
      have hs1 : i.size = 1 := by simpa [hq] using hi
      have h0 : (0 : Int) ≤ (n : Int) ∧ (n : Int) ≤ (l.length : Int) := by omega
      simp [Instr.slice, Instr.sliceBounds, Instr.sliceBound, asIntOf, run_underlying Tryd.underlying30, h0, hn, sizeOf, typeInfo, hq, hs1, Sem.run_bind, Result.andThen]
  · by_cases e : cap = n
    · rw [if_pos e, List.drop_of_length_le (by omega)]; exact Byt.empty _ _
    · rw [if_neg e]
      intro j hj
      have hj' : j + n < l.length := by simp at hj; omega
      obtain ⟨b, o, ea, hcell⟩ := hb (j + n) hj'
      refine ⟨b, o + n, by rw [ea]; simp [Addr.add_lit], ?_⟩
      rw [show o + n + j = o + (j + n) by omega, hcell]
      simp [Nat.add_comm]
  · intro h
    by_cases e : cap = n
    · omega
    · rw [if_neg e] at h
      cases A with
      | none => have := hA rfl; omega
      | some a => simp at h

/-- Clear of bytes: the rest of a block. -/
theorem cl_blk {ops : Array Oper} {rest : List Oper} {o : Oper} {a : Act} {Q : Exit → Act → World → Prop} {w : World} (hgd : o.guard = none) (d : Operand) (ho : o.op = .call { callee := .builtin .clear, args := #[d], argTypes := #[30] }) (dp : Option Addr) (n c : Nat) (hd : a.eval d = .slice dp n c)
    (g off : Nat) (t : TypeId) (cur : List Value) (hg : Blk w g t cur) (hpos : 0 < n → dp = some ⟨g, off, none⟩) (hfit : off + n ≤ cur.length)
    (h : ∀ w', Blk w' g t (splice cur off (u8s (List.replicate n 0))) → Sole g w w' → wpList Tryd.prog ops Q rest (a.put o.dst (.tuple #[])) w') : wpList Tryd.prog ops Q (o :: rest) a w := by
  refine wpList_plain hgd fun K hK => ?_
  cases n with
  | zero =>
    have hr : (Builtin.clear_ #[30] o.type #[.slice dp 0 c]).run Tryd.prog w = .ok (.tuple #[]) w := by
      cases dp <;> simp [Builtin.clear_, run_underlying Tryd.underlying30, Result.andThen]
    unfold Oper.wp
    simp [execOp, ho, resolve, invoke, builtin, hd, hr, Result.andThen]
    refine hK _ _ (h w ?_ (Sole.refl _ _))
    simpa [splice, u8s] using hg
  | succ n =>
    obtain rfl := hpos (by omega)
    obtain ⟨i0, hti, hz0, hz1, hz2⟩ := info_parts Tryd.info5
    have hz : (zeroValue 5).run Tryd.prog w = .ok (.int .u8 0) w := by kernel_rfl
    have hc : (Builtin.zeroCells (Value.int .u8 0).cells (n + 1)).toList = u8s (List.replicate (n + 1) 0) := by
      apply List.ext_getElem
      · simp [Builtin.zeroCells, u8s, Value.cells]
      · intro i h1 h2
        simp [Builtin.zeroCells, u8s, Value.cells, Nat.mod_one]
    have hst := run_storeCells_at Tryd.prog g off t (u8s (List.replicate (n + 1) 0)) 0 cur.toArray w hg (by simp [u8s]; omega) (u8s_one _)
    have hr : (Builtin.clear_ #[30] o.type #[.slice (some ⟨g, off, none⟩) (n + 1) c]).run Tryd.prog w = .ok (.tuple #[]) (w.setRow g (splice cur off (u8s (List.replicate (n + 1) 0))).toArray) := by
      simp [Builtin.clear_, run_underlying Tryd.underlying30, Sem.run_bind, Result.andThen, hz, hc, hst, splice]
    unfold Oper.wp
    simp [execOp, ho, resolve, invoke, builtin, hd, hr, Result.andThen]
    exact hK _ _ (h _ (setRow_heap w g cur.toArray _ t _ hg) ⟨rfl, rfl, rfl, by simp [World.setRow], fun k hk => setRow_other w g k _ hk⟩)
end Go.Proofs.YtcnnijhfliahgaaDoor
