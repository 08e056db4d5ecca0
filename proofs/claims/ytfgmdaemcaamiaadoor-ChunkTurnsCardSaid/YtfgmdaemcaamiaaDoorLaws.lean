/- Laws for the walks of this seat: append of bytes from whatever slice onto a row of the call's own; make. -/
import Derived.Test.YtfgmdaemcaamiaaDoorMem
import Derived.Deep.DeepAppendWide
import Derived.Lib.AppendStr
namespace Go.Proofs.YtfgmdaemcaamiaaDoor
open Go.RowKit

theorem app_byt {ops : Array Oper} {rest : List Oper} {o : Oper} {a : Act} {Q : Exit → Act → World → Prop} {w : World} (w0 : World) (hgd : o.guard = none) (s x : Operand)
    (ho : o.op = .call { callee := .builtin .append, args := #[s, x], argTypes := #[24, 24] }) (v : Value) (d : List UInt8) (hs : a.eval s = v) (hown : Own w w0.heap.size v d) (hbel : Below w0.heap.size w0 w)
    (A : Option Addr) (m c : Nat) (q : List UInt8) (hx : a.eval x = .slice A m c) (hm : m = q.length) (hq : Byt w A q) (hn : A = none → c = 0) (hsz : d.length + q.length ≤ 200000000000000)
    (h : ∀ v' w', Own w' w0.heap.size v' (d ++ q) → Below w0.heap.size w0 w' → (w.grownBy w' v.ownBlock ∧ (v ≠ .slice none 0 0 → v' ≠ .slice none 0 0)) → wpList Tryd.prog ops Q rest (a.put o.dst v') w') : wpList Tryd.prog ops Q (o :: rest) a w := by
  obtain ⟨i0, hti, hz0, hz1, hz2⟩ := info_parts Tryd.info5
  subst hm
  cases A with
  | none =>
    obtain rfl := hq.nil
    obtain rfl := hn rfl
    refine wpList_append_own_none hgd s x 24 ho w0.heap.size 5 i0 1 Tryd.underlying24 hti v d.length (u8s d) hs hown hx (h v w ?_ hbel ⟨World.grownBy.refl w _, fun h => h⟩)
    rw [List.append_nil]; exact hown
  | some ad =>
    refine wpList_append_own_wide w hgd s x 24 ho w0.heap.size 5 i0 (.int .u8 0) 1 1 Tryd.underlying24 hti hz0 hz1 hz2 rfl (by decide) v d.length (u8s d) hs hown ad q.length c (u8s q) hx (by rw [u8s_len]; omega) hq.news (u8s_one q) (by unfold maxLen; omega) (by omega) hbel.size ?_
    intro v' w' h1 h2 h5
    obtain ⟨h3, h4⟩ := own_step hbel hown h1 h2
    exact h v' w' h3 h4 ⟨h2, fun hv e => hv (h5.1 e).1⟩

theorem mk_byt {ops : Array Oper} {rest : List Oper} {o : Oper} {a : Act} {Q : Exit → Act → World → Prop} {w : World} (w0 : World) (hgd : o.guard = none) (l c : Operand)
    (hop : o.op = Op.makeSlice 24 l c) (C : Int) (n : Nat) (hl : a.eval l = .int .i64 0) (hc : a.eval c = .int .i64 C) (hC : C = (n : Int)) (hsz : n ≤ 281474976710656) (hbel : Below w0.heap.size w0 w)
    (h : ∀ w', Own w' w0.heap.size (.slice (some ⟨w.heap.size, 0, none⟩) 0 n) [] → Below w0.heap.size w0 w' → wpList Tryd.prog ops Q rest (a.put o.dst (.slice (some ⟨w.heap.size, 0, none⟩) 0 n)) w') : wpList Tryd.prog ops Q (o :: rest) a w := by
  obtain ⟨i0, hti, hz0, hz1, hz2⟩ := info_parts Tryd.info5
  refine wpList_make_own w hgd l c 24 hop w0.heap.size 5 i0 (.int .u8 0) 1 Tryd.underlying24 hti hz0 hz1 .i64 .i64 C n hl hc hC (by rw [hz2]; omega) (by unfold maxLen; omega) hbel.size ?_
  intro w' h1 h2
  exact h w' h1 (hbel.grown h2 hbel.size (by simp))

theorem Own.below {w w' : World} {B : Nat} {v : Value} {l : List UInt8} (h : Own w B v l) (hb : Below w.heap.size w w') : Own w' B v l := by
  refine ⟨h.1, ?_⟩
  rcases h.2 with hn | ⟨g, cap, cur, rfl, hg0, hg, rest⟩
  · exact .inl hn
  · exact .inr ⟨g, cap, cur, rfl, hg0, (hb.block g (lt_of_block hg)).trans hg, rest⟩
/-- A row of the call's own that is not nil, as a block. -/
theorem Own.blk {w : World} {B : Nat} {v : Value} {l : List UInt8} (h : Own w B v l) (hv : v ≠ .slice none 0 0) : ∃ g c cs, v = .slice (some ⟨g, 0, none⟩) l.length c ∧ B ≤ g ∧ l.length ≤ c ∧ c ≤ maxLen ∧ Blk w g 5 cs ∧ cs.length = c ∧ cs.take l.length = u8s l := by
  rcases h.2 with ⟨e, _⟩ | ⟨g, cap, cur, rfl, hb, hg, hn, hm, hs, ht⟩
  · exact absurd e hv
  · exact ⟨g, cap, cur.toList, rfl, hb, hn, hm, by simpa [Blk] using hg, by simpa using hs, by simpa using ht⟩
theorem str_cells (s : ByteArray) : Lib.strCells s = u8s s.data.toList := rfl
theorem str_len (s : ByteArray) : s.data.toList.length = s.size := by rw [Array.length_toList]; rfl

/-- Append of a text's bytes onto bytes that the call has laid (some byte lies there). -/
theorem run_str {w : World} {B : Nat} {v : Value} {d : List UInt8} (hown : Own w B v d) (h0 : 0 < d.length) (hB : B ≤ w.heap.size) (s : ByteArray) (hsz : d.length + s.size ≤ 200000000000000) (ty : TypeId) :
    ∃ v' w', (Builtin.append_ #[24, 9] ty #[v, .string s]).run Tryd.prog w = .ok v' w' ∧ Own w' B v' (d ++ s.data.toList) ∧ w.grownBy w' v.ownBlock := by
  obtain ⟨i0, hti, hz0, hz1, hz2⟩ := info_parts Tryd.info5
  have hl : (d ++ s.data.toList).length = d.length + s.size := by rw [List.length_append, str_len]
  have hu : u8s (d ++ s.data.toList) = u8s d ++ Lib.strCells s := by rw [u8s_app, str_cells]
  rcases hown.2 with ⟨_, h⟩ | ⟨g, cap, cur, rfl, hbg, hg, hnc, hcm, hcs, htake⟩
  · omega
  · have hcs' : cur.size = cap := by simpa using hcs
    have ht' : cur.toList.take d.length = u8s d := by simpa using htake
    have hxl : (u8s d).length = d.length := u8s_len d
    by_cases hroom : d.length + s.size ≤ cap
    · refine ⟨_, _, Lib.run_append_room_string (P := Tryd.prog) w 24 9 ty 5 i0 Tryd.underlying24 Tryd.underlying9 hti hz1 g d.length cap cur hg s hroom (by omega), ?_, ⟨rfl, rfl, rfl, by simp, fun k _ hk => setRow_other w g k _ (fun e => hk (by simp [Value.ownBlock, e]))⟩⟩
      refine ⟨by rw [u8s_len]; omega, .inr ⟨g, cap, _, by rw [hl], hbg, setRow_heap w g cur _ 5 _ hg, by rw [hl]; exact hroom, hcm, ?_, ?_⟩⟩
      · simp only [List.size_toArray, List.length_append, List.length_take, List.length_drop, Array.length_toList, Lib.strCells_length]
        omega
      · rw [ht', hl, hu]
        have e : (d.length + s.size) * 1 = (u8s d ++ Lib.strCells s).length := by rw [List.length_append, u8s_len, Lib.strCells_length]; omega
        rw [e]
        exact List.take_left
    · have holds : ∀ j u, (u8s d)[j]? = some u → w.cell? ((⟨g, 0, none⟩ : Addr).add j) = some u := World.ownsRow.cells hown (g := g) rfl
      have hr := Lib.run_append_grow_string (P := Tryd.prog) w 24 9 ty 5 i0 (.int .u8 0) Tryd.underlying24 Tryd.underlying9 hti hz0 ⟨g, 0, none⟩ d.length cap (u8s d) (by rw [hz1, u8s_len]; omega) holds s (by omega) (by omega) (by rw [hz2]; exact growslice_fits_wide (by omega) (by omega))
      refine ⟨_, _, hr, ?_, ⟨rfl, rfl, rfl, by simp, fun k hk _ => Below.heap_alloc w.drew _ k hk⟩⟩
      have hge := grownCap_ge w (d.length + s.size) cap 5
      have hcm2 := grownCap_le_maxLen w (d.length + s.size) cap 5 (by unfold maxLen; omega)
      refine ⟨by rw [u8s_len]; omega, .inr ⟨w.heap.size, _, _, by rw [hl], hB, heap_alloc_new w.drew _, by rw [hl]; exact hge, hcm2, ?_, ?_⟩⟩
      · have hz1' : (Value.int IntKind.u8 0).cells.size = 1 := rfl
        simp only [Array.size_append, List.size_toArray, size_zeroCells, hz1', u8s_len, Lib.strCells_length]
        omega
      · rw [hl, hu]
        have e : (d.length + s.size) * 1 = (u8s d ++ Lib.strCells s).length := by rw [List.length_append, u8s_len, Lib.strCells_length]; omega
        rw [e, Array.toList_append, Array.toList_append]
        exact List.take_left

theorem app_str {ops : Array Oper} {rest : List Oper} {o : Oper} {a : Act} {Q : Exit → Act → World → Prop} {w : World} (w0 : World) (hgd : o.guard = none) (sl x : Operand)
    (ho : o.op = .call { callee := .builtin .append, args := #[sl, x], argTypes := #[24, 9] }) (v : Value) (d : List UInt8) (hs : a.eval sl = v) (hown : Own w w0.heap.size v d) (hbel : Below w0.heap.size w0 w) (h0 : 0 < d.length)
    (s : ByteArray) (hx : a.eval x = .string s) (hsz : d.length + s.size ≤ 200000000000000)
    (h : ∀ v' w', Own w' w0.heap.size v' (d ++ s.data.toList) → Below w0.heap.size w0 w' → wpList Tryd.prog ops Q rest (a.put o.dst v') w') : wpList Tryd.prog ops Q (o :: rest) a w := by
  refine wpList_plain hgd fun K hK => ?_
  obtain ⟨v', w', hr, h2, h3⟩ := run_str hown h0 hbel.size s hsz o.type
  unfold Oper.wp execOp
  simp only [ho, resolve, invoke, builtin, Sem.run_bind, Sem.run_pure, Result.andThen_ok, List.map_toArray, List.map_cons, List.map_nil, hs, hx, hr]
  exact hK _ _ (h v' w' h2 (hbel.grown h3 hbel.size (fun k hk => hown.lt k hk)))

theorem Own.alloc {w : World} {B : Nat} {v : Value} {l : List UInt8} (h : Own w B v l) (o : Obj) : Own (w.alloc o) B v l := World.ownsRow.alloc h o

/-- One byte in a block of its own, as 'append(out, c)' lays it. -/
theorem byt_one (w : World) (c : UInt8) (x : Int) (hx : x = (c.toNat : Int)) : Byt (w.alloc (Obj.cells #[Value.int .u8 x] 5)) (some ⟨w.heap.size, 0, none⟩) [c] := by
  subst hx
  intro k hk
  have hk0 : k = 0 := by simpa using hk
  subst hk0
  refine ⟨w.heap.size, 0, rfl, ?_⟩
  rw [Nat.zero_add, cell_of_row _ w.heap.size 0 #[Value.int .u8 (c.toNat : Int)] 5 (0, 0) (heap_alloc_new w _)]
  rfl
end Go.Proofs.YtfgmdaemcaamiaaDoor
