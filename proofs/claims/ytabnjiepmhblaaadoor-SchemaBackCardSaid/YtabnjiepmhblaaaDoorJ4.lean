/- Joined texts: The walks of Signed (21, 32), Zig (44), TakeSigned (17, 18), and the document's Number (20). Laws for the walks of this seat: append of bytes from whatever slice onto a row of the call's own; make. The walk of the document's Number (20) and Signed (32). A piece of a slice of bytes; what a draw leaves. The walks of Text (71, 24) and TakeText (25, 26). -/
import Derived.Test.YtabnjiepmhblaaaDoorJ23
import Derived.Test.YtabnjiepmhblaaaDoorJ24
import Derived.Test.YtabnjiepmhblaaaDoorZig
import Derived.Test.YtabnjiepmhblaaaDoorJ1
import Derived.Deep.DeepAppendWide
import Derived.Lib.AppendStr
import Derived.Deep.DeepCutAuto
import Derived.Deep.QuietTactic
import Derived.BigQuiet
import Derived.Lib.Hide
/-! The walks of Signed (21, 32), Zig (44), TakeSigned (17, 18), and the document's Number (20). -/
namespace Go.Proofs.YtabnjiepmhblaaaDoor
open Go.RowKit
set_option linter.unusedVariables false

set_option maxHeartbeats 1000000 in
set_option maxRecDepth 100000 in
theorem signed_any (A : Option Addr) (cap : Nat) (s : Int) (l : List UInt8) (w : World) (hb : Byt w A l) (hA : A = none → cap = 0) (hl : l.length + 10 ≤ 140737488355328) (h0 : -9223372036854775808 ≤ s) (h1 : s ≤ 9223372036854775807) :
    Calls Tryd.prog 48 #[.slice A l.length cap, .int .i64 s] w (Made w (l ++ num (zig s))) := by
  have HZ : Hid (bits .xor .u64 (IntKind.u64.wrap (IntKind.u64.wrap s * 2)) (IntKind.u64.wrap (s / 9223372036854775808)) = (zig s : Int)) := zig_wire s h0 h1
  have hlt := zig_lt s h0 h1
  have hcall := number_any A cap (zig s) l w hb hA hl hlt
  clear hlt h0 h1
  rw [← HZ.out] at hcall
  go_enter Tryd.func48, Tryd.ntmps48
  go_wp2_with (go_at_call 25; refine hcall.mono ?_; rintro e w' ⟨v, rfl, h1, h2⟩)
  go_ret
  exact ⟨v, rfl, h1, h2⟩

/-- What TakeSigned hands back. -/
def TookS (w : World) (l : List UInt8) (at_ : Int) (e : Ending) (w' : World) : Prop := e = .returned (.tuple #[.int .i64 (unzig l at_), .int .i64 (tP l at_), .int .i64 (tE l at_)]) ∧ w = w'
theorem TookS.mk {w : World} {l : List UInt8} {at_ x y z : Int} (hx : unzig l at_ = x) (hy : tP l at_ = y) (hz : tE l at_ = z) : TookS w l at_ (.returned (.tuple #[.int .i64 x, .int .i64 y, .int .i64 z])) w := by
  subst hx hy hz
  exact ⟨rfl, rfl⟩
theorem take_lt {l : List UInt8} {at_ : Int} {n c : Nat} (h : takeO l at_ = some (n, c)) : n < 18446744073709551616 := by
  unfold takeO at h
  by_cases hi : 0 ≤ at_ ∧ at_ ≤ l.length
  · rw [if_pos hi] at h
    obtain ⟨v, hn, _, hr, _⟩ := decF_form 10 0 0 _ n c (by omega) (by decide) h
    rw [room_0] at hr
    omega
  · rw [if_neg hi] at h; cases h

set_option maxHeartbeats 1000000 in
set_option maxRecDepth 100000 in
theorem takesigned_any (a : Option Addr) (cap : Nat) (at_ : Int) (l : List UInt8) (w : World) (hb : Byt w a l) (hc : l.length ≤ cap) (hm : cap ≤ 140737488351232) :
    Calls Tryd.prog 49 #[.slice a l.length cap, .int .i64 at_] w (TookS w l at_) := by
  cases ht : takeO l at_ with
  | none =>
    obtain ⟨h1, h2, h3⟩ := t_none ht
    have HU : Hid (unzig l at_ = 0) := by show _ = _; simp [unzig, ht]
    have hcall := take_any a cap at_ l w hb hc hm
    unfold Took at hcall
    rw [h1, h2, h3] at hcall
    have H2 : Hid (tP l at_ = 0) := h2
    have H3 : Hid (tE l at_ = 20) := h3
    clear h1 h2 h3 ht
    go_enter Tryd.func49, Tryd.ntmps49
    go_wp2_with (go_at_call 30; refine hcall.mono ?_; rintro e w' ⟨rfl, rfl⟩)
    go_ret3
    exact TookS.mk HU.out H2.out H3.out
  | some p =>
    obtain ⟨n, c⟩ := p
    obtain ⟨h1, h2, h3⟩ := t_some ht
    have hlt := take_lt ht
    have HU : Hid (unzig l at_ = bits .xor .i64 (wrap64 ((n : Int) / 2)) (wrap64 (-wrap64 (bits .and .u64 (n : Int) 1)))) := by show _ = _; rw [zag_wire n hlt]; simp [unzig, ht]
    have hcall := take_any a cap at_ l w hb hc hm
    unfold Took at hcall
    rw [h1, h2, h3] at hcall
    have H2 : Hid (tP l at_ = at_ + c) := h2
    have H3 : Hid (tE l at_ = 0) := h3
    clear h1 h2 h3 ht hlt
    go_enter Tryd.func49, Tryd.ntmps49
    go_wp2_with (go_at_call 30; refine hcall.mono ?_; rintro e w' ⟨rfl, rfl⟩)
    go_ret3
    exact TookS.mk HU.out H2.out H3.out

theorem ret_u64 {a b : Int} (h : a = b) : Ending.returned (.int .u64 a) = .returned (.int .u64 b) := by rw [h]

end Go.Proofs.YtabnjiepmhblaaaDoor

/-! Laws for the walks of this seat: append of bytes from whatever slice onto a row of the call's own; make. -/
namespace Go.Proofs.YtabnjiepmhblaaaDoor
open Go.RowKit

theorem app_byt {ops : Array Oper} {rest : List Oper} {o : Oper} {a : Act} {Q : Exit → Act → World → Prop} {w : World} (w0 : World) (hgd : o.guard = none) (s x : Operand)
    (ho : o.op = .call { callee := .builtin .append, args := #[s, x], argTypes := #[32, 32] }) (v : Value) (d : List UInt8) (hs : a.eval s = v) (hown : Own w w0.heap.size v d) (hbel : Below w0.heap.size w0 w)
    (A : Option Addr) (m c : Nat) (q : List UInt8) (hx : a.eval x = .slice A m c) (hm : m = q.length) (hq : Byt w A q) (hn : A = none → c = 0) (hsz : d.length + q.length ≤ 200000000000000)
    (h : ∀ v' w', Own w' w0.heap.size v' (d ++ q) → Below w0.heap.size w0 w' → (w.grownBy w' v.ownBlock ∧ (v ≠ .slice none 0 0 → v' ≠ .slice none 0 0)) → wpList Tryd.prog ops Q rest (a.put o.dst v') w') : wpList Tryd.prog ops Q (o :: rest) a w := by
  obtain ⟨i0, hti, hz0, hz1, hz2⟩ := info_parts Tryd.info5
  subst hm
  cases A with
  | none =>
    obtain rfl := hq.nil
    obtain rfl := hn rfl
    refine wpList_append_own_none hgd s x 32 ho w0.heap.size 5 i0 1 Tryd.underlying32 hti v d.length (u8s d) hs hown hx (h v w ?_ hbel ⟨World.grownBy.refl w _, fun h => h⟩)
    rw [List.append_nil]; exact hown
  | some ad =>
    refine wpList_append_own_wide w hgd s x 32 ho w0.heap.size 5 i0 (.int .u8 0) 1 1 Tryd.underlying32 hti hz0 hz1 hz2 rfl (by decide) v d.length (u8s d) hs hown ad q.length c (u8s q) hx (by rw [u8s_len]; omega) hq.news (u8s_one q) (by unfold maxLen; omega) (by omega) hbel.size ?_
    intro v' w' h1 h2 h5
    obtain ⟨h3, h4⟩ := own_step hbel hown h1 h2
    exact h v' w' h3 h4 ⟨h2, fun hv e => hv (h5.1 e).1⟩

theorem mk_byt {ops : Array Oper} {rest : List Oper} {o : Oper} {a : Act} {Q : Exit → Act → World → Prop} {w : World} (w0 : World) (hgd : o.guard = none) (l c : Operand)
    (hop : o.op = Op.makeSlice 32 l c) (C : Int) (n : Nat) (hl : a.eval l = .int .i64 0) (hc : a.eval c = .int .i64 C) (hC : C = (n : Int)) (hsz : n ≤ 281474976710656) (hbel : Below w0.heap.size w0 w)
    (h : ∀ w', Own w' w0.heap.size (.slice (some ⟨w.heap.size, 0, none⟩) 0 n) [] → Below w0.heap.size w0 w' → wpList Tryd.prog ops Q rest (a.put o.dst (.slice (some ⟨w.heap.size, 0, none⟩) 0 n)) w') : wpList Tryd.prog ops Q (o :: rest) a w := by
  obtain ⟨i0, hti, hz0, hz1, hz2⟩ := info_parts Tryd.info5
  refine wpList_make_own w hgd l c 32 hop w0.heap.size 5 i0 (.int .u8 0) 1 Tryd.underlying32 hti hz0 hz1 .i64 .i64 C n hl hc hC (by rw [hz2]; omega) (by unfold maxLen; omega) hbel.size ?_
  intro w' h1 h2
  exact h w' h1 (hbel.grown h2 hbel.size (by simp))

theorem Own.below {w w' : World} {B : Nat} {v : Value} {l : List UInt8} (h : Own w B v l) (hb : Below w.heap.size w w') : Own w' B v l := by
  refine ⟨h.1, ?_⟩
  rcases h.2 with hn | ⟨g, cap, cur, rfl, hg0, hg, rest⟩
  · exact .inl hn
  · exact .inr ⟨g, cap, cur, rfl, hg0, (hb.block g (lt_of_block hg)).trans hg, rest⟩
/-- A row of the call's own that is not nil, as a block. -/
theorem Own.blk {w : World} {B : Nat} {v : Value} {l : List UInt8} (h : Own w B v l) (hv : v ≠ .slice none 0 0) : ∃ g c cs, v = .slice (some ⟨g, 0, none⟩) l.length c ∧ B ≤ g ∧ l.length ≤ c ∧ c ≤ maxLen ∧ Blk w g 5 cs ∧ cs.length = c ∧ cs.take l.length = u8s l := by
  rcases h.2 with ⟨e, _⟩ | ⟨g, cap, cur, rfl, hb, hg, hn, hm, hs, ht⟩
  · exact absurd e hv
  · exact ⟨g, cap, cur.toList, rfl, hb, hn, hm, by simpa [Blk] using hg, by simpa using hs, by simpa using ht⟩
theorem str_cells (s : ByteArray) : Lib.strCells s = u8s s.data.toList := rfl
theorem str_len (s : ByteArray) : s.data.toList.length = s.size := by rw [Array.length_toList]; rfl

/-- Append of a text's bytes onto bytes that the call has laid (some byte lies there). -/
theorem run_str {w : World} {B : Nat} {v : Value} {d : List UInt8} (hown : Own w B v d) (h0 : 0 < d.length) (hB : B ≤ w.heap.size) (s : ByteArray) (hsz : d.length + s.size ≤ 200000000000000) (ty : TypeId) :
    ∃ v' w', (Builtin.append_ #[32, 9] ty #[v, .string s]).run Tryd.prog w = .ok v' w' ∧ Own w' B v' (d ++ s.data.toList) ∧ w.grownBy w' v.ownBlock := by
  obtain ⟨i0, hti, hz0, hz1, hz2⟩ := info_parts Tryd.info5
  have hl : (d ++ s.data.toList).length = d.length + s.size := by rw [List.length_append, str_len]
  have hu : u8s (d ++ s.data.toList) = u8s d ++ Lib.strCells s := by rw [u8s_app, str_cells]
  rcases hown.2 with ⟨_, h⟩ | ⟨g, cap, cur, rfl, hbg, hg, hnc, hcm, hcs, htake⟩
  · omega
  · have hcs' : cur.size = cap := by simpa using hcs
    have ht' : cur.toList.take d.length = u8s d := by simpa using htake
    have hxl : (u8s d).length = d.length := u8s_len d
    by_cases hroom : d.length + s.size ≤ cap
    · refine ⟨_, _, Lib.run_append_room_string (P := Tryd.prog) w 32 9 ty 5 i0 Tryd.underlying32 Tryd.underlying9 hti hz1 g d.length cap cur hg s hroom (by omega), ?_, ⟨rfl, rfl, rfl, by simp, fun k _ hk => setRow_other w g k _ (fun e => hk (by simp [Value.ownBlock, e]))⟩⟩
      refine ⟨by rw [u8s_len]; omega, .inr ⟨g, cap, _, by rw [hl], hbg, setRow_heap w g cur _ 5 _ hg, by rw [hl]; exact hroom, hcm, ?_, ?_⟩⟩
      · simp only [List.size_toArray, List.length_append, List.length_take, List.length_drop, Array.length_toList, Lib.strCells_length]
        omega
      · rw [ht', hl, hu]
        have e : (d.length + s.size) * 1 = (u8s d ++ Lib.strCells s).length := by rw [List.length_append, u8s_len, Lib.strCells_length]; omega
        rw [e]
        exact List.take_left
    · have holds : ∀ j u, (u8s d)[j]? = some u → w.cell? ((⟨g, 0, none⟩ : Addr).add j) = some u := World.ownsRow.cells hown (g := g) rfl
      have hr := Lib.run_append_grow_string (P := Tryd.prog) w 32 9 ty 5 i0 (.int .u8 0) Tryd.underlying32 Tryd.underlying9 hti hz0 ⟨g, 0, none⟩ d.length cap (u8s d) (by rw [hz1, u8s_len]; omega) holds s (by omega) (by omega) (by rw [hz2]; exact growslice_fits_wide (by omega) (by omega))
      refine ⟨_, _, hr, ?_, ⟨rfl, rfl, rfl, by simp, fun k hk _ => Below.heap_alloc w.drew _ k hk⟩⟩
      have hge := grownCap_ge w (d.length + s.size) cap 5
      have hcm2 := grownCap_le_maxLen w (d.length + s.size) cap 5 (by unfold maxLen; omega)
      refine ⟨by rw [u8s_len]; omega, .inr ⟨w.heap.size, _, _, by rw [hl], hB, heap_alloc_new w.drew _, by rw [hl]; exact hge, hcm2, ?_, ?_⟩⟩
      · have hz1' : (Value.int IntKind.u8 0).cells.size = 1 := rfl
        simp only [Array.size_append, List.size_toArray, size_zeroCells, hz1', u8s_len, Lib.strCells_length]
        omega
      · rw [hl, hu]
        have e : (d.length + s.size) * 1 = (u8s d ++ Lib.strCells s).length := by rw [List.length_append, u8s_len, Lib.strCells_length]; omega
        rw [e, Array.toList_append, Array.toList_append]
        exact List.take_left

theorem app_str {ops : Array Oper} {rest : List Oper} {o : Oper} {a : Act} {Q : Exit → Act → World → Prop} {w : World} (w0 : World) (hgd : o.guard = none) (sl x : Operand)
    (ho : o.op = .call { callee := .builtin .append, args := #[sl, x], argTypes := #[32, 9] }) (v : Value) (d : List UInt8) (hs : a.eval sl = v) (hown : Own w w0.heap.size v d) (hbel : Below w0.heap.size w0 w) (h0 : 0 < d.length)
    (s : ByteArray) (hx : a.eval x = .string s) (hsz : d.length + s.size ≤ 200000000000000)
    (h : ∀ v' w', Own w' w0.heap.size v' (d ++ s.data.toList) → Below w0.heap.size w0 w' → wpList Tryd.prog ops Q rest (a.put o.dst v') w') : wpList Tryd.prog ops Q (o :: rest) a w := by
  refine wpList_plain hgd fun K hK => ?_
  obtain ⟨v', w', hr, h2, h3⟩ := run_str hown h0 hbel.size s hsz o.type
  unfold Oper.wp execOp
  simp only [ho, resolve, invoke, builtin, Sem.run_bind, Sem.run_pure, Result.andThen_ok, List.map_toArray, List.map_cons, List.map_nil, hs, hx, hr]
  exact hK _ _ (h v' w' h2 (hbel.grown h3 hbel.size (fun k hk => hown.lt k hk)))

theorem Own.alloc {w : World} {B : Nat} {v : Value} {l : List UInt8} (h : Own w B v l) (o : Obj) : Own (w.alloc o) B v l := World.ownsRow.alloc h o

/-- One byte in a block of its own, as 'append(out, c)' lays it. -/
theorem byt_one (w : World) (c : UInt8) (x : Int) (hx : x = (c.toNat : Int)) : Byt (w.alloc (Obj.cells #[Value.int .u8 x] 5)) (some ⟨w.heap.size, 0, none⟩) [c] := by
  subst hx
  intro k hk
  have hk0 : k = 0 := by simpa using hk
  subst hk0
  refine ⟨w.heap.size, 0, rfl, ?_⟩
  rw [Nat.zero_add, cell_of_row _ w.heap.size 0 #[Value.int .u8 (c.toNat : Int)] 5 (0, 0) (heap_alloc_new w _)]
  rfl
end Go.Proofs.YtabnjiepmhblaaaDoor

/-! The walk of the document's Number (20) and Signed (32). -/
namespace Go.Proofs.YtabnjiepmhblaaaDoor
open Go.RowKit
set_option linter.unusedVariables false

end Go.Proofs.YtabnjiepmhblaaaDoor

/-! A piece of a slice of bytes; what a draw leaves. -/
namespace Go.Proofs.YtabnjiepmhblaaaDoor
open Go.RowKit
theorem Below.drewN' {B : Nat} {a w : World} (h : Below B a w) (k : Nat) : Below B a (w.drewN k) := h.trans ⟨rfl, rfl, rfl, Nat.le_refl _, fun _ _ => rfl⟩

/-- A piece of a slice of bytes. -/
theorem Byt.part {w : World} {b o : Nat} {l : List UInt8} (h : Byt w (some ⟨b, o, none⟩) l) (i c : Nat) : Byt w (some ⟨b, o + i, none⟩) ((l.drop i).take c) := by
  intro k hk
  simp only [List.length_take, List.length_drop] at hk
  obtain ⟨b', o', e, hc'⟩ := h (i + k) (by omega)
  simp only [Option.some.injEq, Addr.mk.injEq, and_true] at e
  obtain ⟨rfl, rfl⟩ := e
  refine ⟨b, o + i, rfl, ?_⟩
  rw [Nat.add_assoc, hc']
  simp

end Go.Proofs.YtabnjiepmhblaaaDoor

/-! The walks of Text (71, 24) and TakeText (25, 26). -/
namespace Go.Proofs.YtabnjiepmhblaaaDoor
open Go.RowKit
set_option linter.unusedVariables false

/-- What Text leaves of a text that is not too long. -/
def MadeT (w : World) (l : List UInt8) (e : Ending) (w' : World) : Prop := ∃ v, e = .returned (.tuple #[v, .int .i64 0]) ∧ Own w' w.heap.size v l ∧ Below w.heap.size w w'
def NoText (w : World) (e : Ending) (w' : World) : Prop := e = .returned (.tuple #[.slice none 0 0, .int .i64 2]) ∧ w = w'

theorem num_pos (l : List UInt8) (n : Nat) : 0 < (l ++ num n).length := by have := num_len n; rw [List.length_append]; omega
theorem num_ten (l : List UInt8) (n : Nat) : (l ++ num n).length ≤ l.length + 10 := by have := num_len n; rw [List.length_append]; omega

set_option maxHeartbeats 1000000 in
set_option maxRecDepth 100000 in
theorem text_big (A : Option Addr) (cap : Nat) (s : ByteArray) (l : List UInt8) (w : World) (h : 1048576 < s.size) : Calls Tryd.prog 26 #[.slice A l.length cap, .string s] w (NoText w) := by
  go_enter Tryd.func26, Tryd.ntmps26
  go_wp2
  go_ret2
  exact ⟨rfl, rfl⟩
set_option maxHeartbeats 1000000 in
set_option maxRecDepth 100000 in
theorem text_any (A : Option Addr) (cap : Nat) (s : ByteArray) (l : List UInt8) (w : World) (h : s.size ≤ 1048576) (hb : Byt w A l) (hA : A = none → cap = 0) (hl : l.length + 10 ≤ 140737488355328) :
    Calls Tryd.prog 26 #[.slice A l.length cap, .string s] w (MadeT w (l ++ num s.size ++ s.data.toList)) := by
  have hcall := number_any A cap s.size l w hb hA hl (by omega)
  have h0 := num_pos l s.size
  have h10 := num_ten l s.size
  generalize l ++ num s.size = d at hcall h0 h10
  go_enter Tryd.func26, Tryd.ntmps26
  go_wp2_with (first | (go_at_call 25; refine hcall.mono ?_; rintro e w1 ⟨v, rfl, hown, hbel⟩) | (at_builtin; refine app_str w rfl _ _ rfl _ d rfl hown hbel h0 s rfl (by omega) ?_; intro v2 w2 hown2 hbel2))
  go_ret2
  exact ⟨v2, rfl, hown2, hbel2⟩
/-- What is read at a place as a text of at most so many bytes: its bytes, and the place behind it. -/
def textO (l : List UInt8) (at_ most : Int) : Option (List UInt8 × Int) :=
  match takeO l at_ with
  | none => none
  | some (n, c) => if 1048576 < n ∨ most < (n : Int) ∨ (l.length : Int) - (at_ + c) < n then none else some ((l.drop (at_ + c).toNat).take n, at_ + c + n)
def txS (l : List UInt8) (at_ most : Int) : ByteArray := match textO l at_ most with | some (t, _) => str t | none => str []
def txP (l : List UInt8) (at_ most : Int) : Int := match textO l at_ most with | some (_, p) => p | none => 0
def txE (l : List UInt8) (at_ most : Int) : Int := match textO l at_ most with | some _ => 0 | none => 20
def TookT (w : World) (l : List UInt8) (at_ most : Int) (e : Ending) (w' : World) : Prop := e = .returned (.tuple #[.string (txS l at_ most), .int .i64 (txP l at_ most), .int .i64 (txE l at_ most)]) ∧ w = w'
theorem TookT.none {w : World} {l : List UInt8} {at_ most : Int} (h : textO l at_ most = none) : TookT w l at_ most (.returned (.tuple #[.string ⟨#[]⟩, .int .i64 0, .int .i64 20])) w := by
  refine ⟨?_, rfl⟩
  simp [txS, txP, txE, h]
  rfl
theorem TookT.some {w : World} {l : List UInt8} {at_ most p : Int} {t : List UInt8} {s : ByteArray} (h : textO l at_ most = some (t, p)) (hs : s = str t) : TookT w l at_ most (.returned (.tuple #[.string s, .int .i64 p, .int .i64 0])) w := by
  refine ⟨?_, rfl⟩
  simp [txS, txP, txE, h, hs]

set_option maxHeartbeats 2000000 in
set_option maxRecDepth 100000 in
set_option maxRecDepth 100000 in
theorem taketext_any (a : Option Addr) (cap : Nat) (at_ most : Int) (l : List UInt8) (w : World) (hb : Byt w a l) (hn : a = none → cap = 0) (hc : l.length ≤ cap) (hm : cap ≤ 140737488351232) :
    Calls Tryd.prog 46 #[.slice a l.length cap, .int .i64 at_, .int .i64 most] w (TookT w l at_ most) := by
  have htk := take_any a cap at_ l w hb hc hm
  unfold Took at htk
  cases ht : takeO l at_ with
  | none =>
    obtain ⟨h1, h2, h3⟩ := t_none ht
    rw [h1, h2, h3] at htk
    have HO : Hid (textO l at_ most = none) := by show _ = _; simp [textO, ht]
    clear h1 h2 h3 ht
    go_enter Tryd.func46, Tryd.ntmps46
    go_wp2_with (go_at_call 30; refine htk.mono ?_; rintro e w2 ⟨rfl, rfl⟩)
    go_ret3
    exact TookT.none HO.out
  | some p =>
    obtain ⟨n, c⟩ := p
    obtain ⟨h1, h2, h3⟩ := t_some ht
    rw [h1, h2, h3] at htk
    have HO : Hid (textO l at_ most = if 1048576 < n ∨ most < (n : Int) ∨ (l.length : Int) - (at_ + c) < n then none else some ((l.drop (at_ + c).toNat).take n, at_ + c + n)) := by show _ = _; simp [textO, ht]
    have hlt := take_lt ht
    obtain ⟨i, rfl, hil⟩ : ∃ i : Nat, at_ = i ∧ i ≤ l.length := by
      unfold takeO at ht
      by_cases hi : 0 ≤ at_ ∧ at_ ≤ l.length
      · exact ⟨at_.toNat, by omega, by omega⟩
      · rw [if_neg hi] at ht; cases ht
    obtain ⟨v, hv, _, _, hc0, hcl, _⟩ := decF_form 10 0 0 (l.drop i) n c (by omega) (by decide) (by rw [take_in l i hil, decF_take] at ht; exact ht)
    rw [List.length_drop] at hcl
    have hcl2 : i + c ≤ l.length := by omega
    clear h1 h2 h3 ht hv hcl
    by_cases hbig : 1048576 < n
    · have HN := HO.out.trans (if_pos (.inl hbig))
      have HN' := Lib.hid HN
      clear HN HO
      have tb : decide ((1048576 : Int) < (n : Int)) = true := by simp; omega
      go_enter Tryd.func46, Tryd.ntmps46
      go_wp2_with (go_at_call 30; refine htk.mono ?_; rintro e w2 ⟨rfl, rfl⟩)
      go_ret3
      exact TookT.none HN'.out
    have hn1 : (n : Int) ≤ 1048576 := by omega
    by_cases hmost : most < (n : Int)
    · have HN' := Lib.hid (HO.out.trans (if_pos (.inr (.inl hmost))))
      clear HO
      go_enter Tryd.func46, Tryd.ntmps46
      go_wp2_with (go_at_call 30; refine htk.mono ?_; rintro e w2 ⟨rfl, rfl⟩)
      go_ret3
      exact TookT.none HN'.out
    by_cases hlong : (l.length : Int) - ((i : Int) + c) < n
    · have HN' := Lib.hid (HO.out.trans (if_pos (.inr (.inr hlong))))
      clear HO
      go_enter Tryd.func46, Tryd.ntmps46
      go_wp2_with (go_at_call 30; refine htk.mono ?_; rintro e w2 ⟨rfl, rfl⟩)
      go_ret3
      exact TookT.none HN'.out
    have HN' := Lib.hid (HO.out.trans (if_neg (by omega)))
    clear HO
    obtain ⟨b, o, rfl, _⟩ := hb i (by omega)
    by_cases hcap : cap = i + c
    · obtain rfl : n = 0 := by omega
      subst hcap
      have hcv : (convert 32 9 (.slice (some ⟨b, o, none⟩) 0 0)).run Tryd.prog w = .ok (.string (str [])) w := conv (Byt.empty w _) 0
      go_enter Tryd.func46, Tryd.ntmps46
      go_wp2_with (go_at_call 30; refine htk.mono ?_; rintro e w2 ⟨rfl, rfl⟩)
      go_ret3
      exact TookT.some HN'.out rfl
    have hcap2 : i + c < cap := by omega
    clear hcap
    have hpart := hb.part (i + c) n
    have hlen : ((l.drop (i + c)).take n).length = n := by simp; omega
    have hcv : (convert 32 9 (.slice (some ⟨b, o + (i + c), none⟩) n (cap - (i + c)))).run Tryd.prog w = .ok (.string (str ((l.drop (i + c)).take n))) w := by
      have := conv hpart (cap - (i + c))
      rwa [hlen] at this
    clear hlen hpart
    go_enter Tryd.func46, Tryd.ntmps46
    go_wp2_with (go_at_call 30; refine htk.mono ?_; rintro e w2 ⟨rfl, rfl⟩)
    go_ret3
    exact TookT.some HN'.out (by rw [show ((i : Int) + c).toNat = i + c by omega])

end Go.Proofs.YtabnjiepmhblaaaDoor
