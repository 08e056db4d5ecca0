/- Numbers and texts of the values that are not null, gathered and encoded: encodeOthers. -/
import Derived.Test.YtfgmdaemcaamiaaDoorChD
import Derived.Test.YtfgmdaemcaamiaaDoorDcZ
import Derived.Test.YtfgmdaemcaamiaaDoorInZA
import Derived.Test.YtfgmdaemcaamiaaDoorRegR
namespace Go.Proofs.YtfgmdaemcaamiaaDoor
open Go.RowKit Go.Shelf
set_option linter.unusedVariables false
attribute [local go_sem] Oper.semAt_some

theorem app1_i64I {F : Fence} {n : Nat} {ops : Array Oper} {rest : List Oper} {o : Oper} {a : Act} {Q : Exit → Act → World → Prop} {w : World} (w0 : World) (hgd : o.guard = none) (s x : Operand)
    (ho : o.op = .call { callee := .builtin .append, args := #[s, x], argTypes := #[69, 69] }) (v : Value) (d : List Int) (hs : a.eval s = v) (hown : OwnI w w0.heap.size v d) (hbel : Below w0.heap.size w0 w)
    (g c : Nat) (q : Int) (hx : a.eval x = .slice (some ⟨g, 0, none⟩) 1 c) (hq : w.cell? ⟨g, 0, none⟩ = some (.int .i64 q)) (hsz : d.length ≤ 4000000000000)
    (h : ∀ v' w', OwnI w' w0.heap.size v' (d ++ [q]) → Below w0.heap.size w0 w' → w.grownBy w' v.ownBlock → wpListIn F n Tryd.prog ops Q rest (a.put o.dst v') w') : wpListIn F n Tryd.prog ops Q (o :: rest) a w := by
  obtain ⟨i0, hti, hz0, hz1, hz2⟩ := info_parts info_i64
  refine wpListIn_append_own w hgd s x 69 ho w0.heap.size 2 i0 (.int .i64 0) 1 8 Tryd.underlying69 hti hz0 hz1 hz2 rfl (by decide) v d.length (i64s d) hs hown ⟨g, 0, none⟩ 1 c [.int .i64 q] hx rfl
    (fun j u hj => by
      match j, hj with
      | 0, hj => simp at hj; subst hj; rw [Addr.add_lit]; exact hq)
    (fun u hu => by simp at hu; subst hu; rfl) (by unfold maxLen; omega) (by omega) hbel.size ?_
  intro v' w' h1 h2 h5
  refine h v' w' ?_ (hbel.grown h2 hbel.size (fun k hk => (row_lt hown hk).1)) h2
  show w'.ownsRow w0.heap.size 2 1 v' (d ++ [q]).length (i64s (d ++ [q]))
  rw [List.length_append, i64s_app]; exact h1
theorem app1_strI {F : Fence} {n : Nat} {ops : Array Oper} {rest : List Oper} {o : Oper} {a : Act} {Q : Exit → Act → World → Prop} {w : World} (w0 : World) (hgd : o.guard = none) (s x : Operand)
    (ho : o.op = .call { callee := .builtin .append, args := #[s, x], argTypes := #[70, 70] }) (v : Value) (d : List Tx) (hs : a.eval s = v) (hown : OwnS w w0.heap.size v d) (hbel : Below w0.heap.size w0 w)
    (g c : Nat) (q : Tx) (t : ByteArray) (hx : a.eval x = .slice (some ⟨g, 0, none⟩) 1 c) (hq : w.cell? ⟨g, 0, none⟩ = some (.string t)) (ht : t.data.toList = q) (hsz : d.length ≤ 40000000000)
    (h : ∀ v' w', OwnS w' w0.heap.size v' (d ++ [q]) → Below w0.heap.size w0 w' → w.grownBy w' v.ownBlock → wpListIn F n Tryd.prog ops Q rest (a.put o.dst v') w') : wpListIn F n Tryd.prog ops Q (o :: rest) a w := by
  obtain ⟨i0, hti, hz0, hz1, hz2⟩ := info_parts info_str
  have hte : Value.string t = encStr q := by subst ht; rfl
  refine wpListIn_append_own w hgd s x 70 ho w0.heap.size 9 i0 (.string ⟨#[]⟩) 1 16 Tryd.underlying70 hti hz0 hz1 hz2 rfl (by decide) v d.length (d.map encStr) hs hown ⟨g, 0, none⟩ 1 c [encStr q] hx rfl
    (fun j u hj => by
      match j, hj with
      | 0, hj => simp at hj; subst hj; rw [Addr.add_lit, ← hte]; exact hq)
    (fun u hu => by simp at hu; subst hu; rfl) (by unfold maxLen; omega) (by omega) hbel.size ?_
  intro v' w' h1 h2 h5
  refine h v' w' ?_ (hbel.grown h2 hbel.size (fun k hk => (row_lt hown hk).1)) h2
  show w'.ownsRow w0.heap.size 9 1 v' (d ++ [q]).length ((d ++ [q]).map encStr)
  rw [List.length_append, List.map_append]; exact h1

/-- A box is written; a row beside it lies as it lay. -/
theorem row_boxed {w : World} {B : Nat} {e t : TypeId} {z : Nat} {v : Value} {k : Nat} {xs cs : List Value} {g : Nat} (h : w.ownsRow B e z v k xs) (hb : Blk w g t cs) (ht : t ≠ e) (i : Nat) (u : Value) : (w.setCell ⟨g, i, none⟩ u).ownsRow B e z v k xs :=
  row_kept h fun j hj => Below.heap_setCell w ⟨g, i, none⟩ u j (fun ej => row_ne h hb ht (by rw [hj]; exact congrArg some ej))
theorem blk_other {w : World} {g k : Nat} {t : TypeId} {cs : List Value} (h : Blk w k t cs) (hne : k ≠ g) (i : Nat) (u : Value) : Blk (w.setCell ⟨g, i, none⟩ u) k t cs :=
  (Below.heap_setCell w ⟨g, i, none⟩ u k hne).trans h

set_option maxRecDepth 100000 in
set_option maxHeartbeats 8000000 in
theorem encoth_any (kind : Int) (A : Option Addr) (cap : Nat) (l : List Vl) (W : World) (hl : Vls W A l) (hr : colR kind l = true) (hlt0 : nulN l < l.length) (hT : TabAt W) :
    Calls Tryd.prog 21 #[.int .i64 kind, .slice A l.length cap] W (LaidI W (othB kind l)) := by
  obtain ⟨N, hN⟩ : ∃ N, W.heap.size = N := ⟨_, rfl⟩
  obtain ⟨n, hn2⟩ : ∃ n, l.length = n := ⟨_, rfl⟩
  have hn4 : n ≤ 1024 := by rw [← hn2]; exact (colR_iff.1 hr).2.1
  rw [hn2]
  have HNN := Lib.hid hN
  have HLN := Lib.hid hn2
  have HL := Lib.hid hl
  have HR := Lib.hid hr
  have HT := Lib.hid hT
  have HLT0 := Lib.hid hlt0
  clear hl hn2 hr hT hlt0
  refine (callsIn_wide (n := 10)).1 ?_
  refine callsIn_of_wp_marks Tryd.func21 rfl trivial ?_ rfl
  simp only [Tryd.ntmps21, List.size_toArray, List.length_cons, List.length_nil, Nat.reduceAdd, Nat.reduceSub, Array.replicate_succ, Array.replicate_zero, List.push_toArray, List.append_toArray, List.nil_append, List.cons_append]
  gi_wp2_with (refine ⟨trivial, ?_⟩; gi_at_call 30; refine (others_fn 9 A n cap _).mono ?_; rintro e w3 ⟨rfl, rfl⟩)
  simp only [Nat.add_assoc, Nat.reduceAdd]
  obtain ⟨W4, hW4⟩ : ∃ x, x = ((W.alloc (Obj.cells #[Value.slice none 0 0] 69)).alloc (Obj.cells #[Value.slice none 0 0] 70)).alloc (Obj.cells #[Value.slice A n cap] 22) := ⟨_, rfl⟩
  have hW5 : W4 = allocs8 W [Obj.cells [Value.slice none 0 0].toArray 69, Obj.cells [Value.slice none 0 0].toArray 70, Obj.cells [Value.slice A n cap].toArray 22] := hW4
  rw [← hW4]
  have hb0 : Blk W4 N 69 [Value.slice none 0 0] := by rw [hW5, ← HNN.out]; exact allocs8_blk _ W 0 _ _ rfl
  have hb1 : Blk W4 (N + 1) 70 [Value.slice none 0 0] := by rw [hW5, ← HNN.out]; exact allocs8_blk _ W 1 _ _ rfl
  have hb2 : Blk W4 (N + 2) 22 [Value.slice A n cap] := by rw [hW5, ← HNN.out]; exact allocs8_blk _ W 2 _ _ rfl
  have bel : Below N W W4 := by rw [hW5]; exact allocs8_below _ W W N (by rw [HNN.out]; omega) (Below.refl _ _)
  have s4 : W4.heap.size = N + 3 := by rw [hW5, allocs8_size, HNN.out]; rfl
  have hln := HLN.out
  have hol : (notN id l).length ≤ n := by rw [← hln]; exact List.length_filter_le _ _
  have hon : (notN id l) = othL l := rfl
  clear hW4 hW5
  refine wpIn_rangeFunc_ownH rfl (by omega) (gf := 51) (lb := #[.pointer (some ⟨N + 2, 0, none⟩)]) rfl trivial (enters_of Tryd.func51 (by kernel_rfl) rfl)
    (oth_stops id 9 (by omega) (N + 2) N N A cap l (by omega) W4 (by omega) (by omega) (by rw [hln]; exact (hb2.at_ 0).trans rfl)
      (fun k hk => by
        obtain ⟨b, o, e, g3⟩ := HL.out k hk
        have hlt := g3.lt
        rw [HNN.out] at hlt
        exact ⟨b, o, e, hlt, by omega, g3.keep bel hlt⟩))
    Kept8.trans (Kept8.putObj (by omega)) (Below.refl _ _) (fun _ => rfl)
    (fun pre Wd => ∃ v u, Blk Wd N 69 [v] ∧ Blk Wd (N + 1) 70 [u] ∧ OwnI Wd W.heap.size v (pre.map (·.num)) ∧ OwnS Wd W.heap.size u (pre.map (·.text.data.toList)) ∧ Blk Wd (N + 2) 22 [Value.slice A n cap] ∧ Below W.heap.size W Wd)
    (fun c pre Wd => False)
    (fun s A B row hs hg hr => by
      obtain ⟨v, u, h1, h2, h3, h4, h6, h5⟩ := hs
      have hw : ∀ r, row = some r → ∃ o : Obj, A.heap[r]? = some o ∧ o.isCells = false := fun r e => (hr r e).2
      exact ⟨v, u, (grownBy_keeps_cells hg hw h1 rfl).trans h1, (grownBy_keeps_cells hg hw h2 rfl).trans h2, row_walked h3 hg hw, row_walked h4 hg hw, (grownBy_keeps_cells hg hw h6 rfl).trans h6, (ownFrom_below (by omega) (by omega) : OwnFrom W4.heap.size (fun (_ : Unit) X => Below W.heap.size W X)) () A B row h5 hg hr⟩)
    (fun c => fun s A B row hs hg hr => hs)
    ⟨_, _, hb0, hb1, World.ownsRow_nil _ _ _ _, World.ownsRow_nil _ _ _ _, hb2, by rw [HNN.out]; exact bel⟩
    (fun x a' Wd => ∃ g, N + 3 ≤ g ∧ a' = { tmps := #[Value.int IntKind.i64 kind, Value.slice A n cap, undef, undef, Value.slice none 0 0, Value.int IntKind.i64 0, Value.pointer (some ⟨N, 0, none⟩), Value.pointer (some ⟨N + 1, 0, none⟩), .pointer (some ⟨g, 0, none⟩), undef, undef, undef, undef, Value.slice A n cap, Value.func (Fn.func 51) #[] #[Value.pointer (some ⟨N + 2, 0, none⟩)], vlV x, undef, undef, undef, undef, undef, undef, undef, undef, undef, undef, undef, undef, undef, undef, undef, undef, undef, undef, undef, undef, undef, undef, undef, undef, undef, undef, undef, undef, undef, undef, undef, undef, undef, undef, undef, undef, undef, undef], defers := [] } ∧ Blk Wd g 30 (vlC x))
    (fun x a' => fun s A B row hs hg hr => by obtain ⟨g, hg0, ha, hb⟩ := hs; exact ⟨g, hg0, ha, (grownBy_keeps_cells hg (fun r e => (hr r e).2) hb rfl).trans hb⟩) ?assign ?body ?done ?stop
  case assign =>
    rintro l0 pre x Wd K ⟨v, u, hv, hu, ho1, ho2, hb3, hbel⟩ hK
    have hsz : N + 3 ≤ Wd.heap.size := by have := lt_of_block hb3; omega
    have hka := Kept8.alloc (B := N) (n₀ := N) (w := Wd) (by omega) (Obj.cells (vlC x).toArray 30)
    have hkf : KeepsFrom W4.heap.size Wd (Wd.alloc (Obj.cells (vlC x).toArray 30)) := KeepsFrom.of_grownBy (World.grownBy_alloc Wd _ none) (fun k e => by cases e)
    have hK2 := hK _ _ hkf hka ⟨v, u, hv.later _, hu.later _, World.ownsRow.alloc ho1 _, World.ownsRow.alloc ho2 _, hb3.later _, hbel.alloc hbel.size _⟩ ⟨Wd.heap.size, hsz, rfl, Blk.born Wd _ _⟩
    clear hK hka hkf ho1 ho2 hv hu hbel hb3
    unfold vlV vlC at hK2
    simp only [id]
    unfold vlV
    gi_wp2
    exact hK2
  case body =>
    rintro l0 pre x a' Wd hl0 hrec ⟨v, u, hv, hu, ho1, ho2, hb3, hbel⟩ ⟨g, hg0, rfl, hbx⟩ hlt2
    have hp : pre.length ≤ 1024 := by omega
    obtain ⟨d1, hd1⟩ : ∃ d, pre.map (·.num) = d := ⟨_, rfl⟩
    obtain ⟨d2, hd2⟩ : ∃ d, pre.map (·.text.data.toList) = d := ⟨_, rfl⟩
    obtain ⟨m1, hm1⟩ : ∃ m, d1.length = m := ⟨_, rfl⟩
    obtain ⟨m2, hm2⟩ : ∃ m, d2.length = m := ⟨_, rfl⟩
    have hl1 : m1 ≤ 1024 := by rw [← hm1, ← hd1, List.length_map]; exact hp
    have hl2 : m2 ≤ 1024 := by rw [← hm2, ← hd2, List.length_map]; exact hp
    rw [hd1] at ho1
    rw [hd2] at ho2
    obtain ⟨A1, c1, rfl, _, _, _⟩ := ho1.form
    obtain ⟨A2, c2, rfl, _, _, _, _⟩ := ho2.form
    rw [hm1] at ho1 hv
    rw [hm2] at ho2 hu
    have hL1 : Hid ((pre ++ [x]).map (·.num) = d1 ++ [x.num]) := by show _ = _; rw [List.map_append, hd1]; rfl
    have hL2 : Hid ((pre ++ [x]).map (·.text.data.toList) = d2 ++ [x.text.data.toList]) := by show _ = _; rw [List.map_append, hd2]; rfl
    unfold vlC at hbx
    unfold vlV
    obtain ⟨nm, hnm⟩ : ∃ nm, x.num = nm := ⟨_, rfl⟩
    obtain ⟨tx, htx⟩ : ∃ tx, x.text = tx := ⟨_, rfl⟩
    rw [hnm] at hbx hL1
    rw [htx] at hbx hL2
    rw [hnm, htx]
    have hc1 : Wd.cell? ⟨g, 1, none⟩ = some (.int .i64 nm) := (hbx.at_ 1).trans rfl
    have hcN : Wd.cell? ⟨N, 0, none⟩ = some (.slice A1 m1 c1) := (hv.at_ 0).trans rfl
    have O1 := Lib.hid ho1
    have O2 := Lib.hid ho2
    have HV := Lib.hid hv
    have HU := Lib.hid hu
    have HB3 := Lib.hid hb3
    have HBX := Lib.hid hbx
    have HBEL := Lib.hid hbel
    have HM1 := Lib.hid hm1
    have HM2 := Lib.hid hm2
    clear hv hu ho1 ho2 hb3 hbel hbx hm1 hm2 hd1 hd2 hnm htx hrec
    gi_wp2_with (gi_at_builtin; refine Hid.out ?_)
    refine Lib.hid ?_
    have hO9 : OwnI (Wd.alloc (Obj.cells #[Value.int .i64 nm] 2)) W.heap.size (.slice A1 m1 c1) d1 := World.ownsRow.alloc O1.out _
    have hO8 : OwnS (Wd.alloc (Obj.cells #[Value.int .i64 nm] 2)) W.heap.size (.slice A2 m2 c2) d2 := World.ownsRow.alloc O2.out _
    refine app1_i64I W rfl _ _ rfl _ d1 rfl hO9 (HBEL.out.alloc HBEL.out.size _) Wd.heap.size 1 nm rfl ((Blk.born Wd 2 [.int .i64 nm]).at_ 0) (by rw [HM1.out]; omega) ?_
    intro v5 w5 ho5 hb5 hg5
    obtain ⟨A5, c5, rfl, _, _, _⟩ := ho5.form
    have e5 : ∀ k t cs, Blk Wd k t cs → t ≠ 2 → Blk w5 k t cs := fun k t cs h ht => blk_beside hO9 hg5 (h.later _) ht
    have hk5 : KeepsOthers Wd w5 := (KeepsOthers.alloc Wd _).trans (row_others hO9 hg5)
    have h25 : OwnS w5 W.heap.size (.slice A2 m2 c2) d2 := row_beside hO8 hO9 (by decide) hg5
    have hv5 := e5 _ _ _ HV.out (by decide)
    have hu5 := e5 _ _ _ HU.out (by decide)
    have hb35 := e5 _ _ _ HB3.out (by decide)
    have hx5 := e5 _ _ _ HBX.out (by decide)
    have hl5 : (d1 ++ [nm]).length = m1 + 1 := by rw [List.length_append, HM1.out]; rfl
    rw [hl5] at ho5 ⊢
    have hcN5 : w5.cell? ⟨N, 0, none⟩ = some (.slice A1 m1 c1) := (hv5.at_ 0).trans rfl
    have hfN5 := hv5.free 0
    -- the first box is written
    have hv6 := hv5.store 0 (.slice A5 (m1 + 1) c5)
    have hu6 := blk_other (g := N) hu5 (by omega) 0 (.slice A5 (m1 + 1) c5)
    have hb36 := blk_other (g := N) hb35 (by omega) 0 (.slice A5 (m1 + 1) c5)
    have hx6 := blk_other (g := N) hx5 (by omega) 0 (.slice A5 (m1 + 1) c5)
    have h16 : OwnI (w5.setCell ⟨N, 0, none⟩ (.slice A5 (m1 + 1) c5)) W.heap.size (.slice A5 (m1 + 1) c5) (d1 ++ [nm]) := row_boxed ho5 hv5 (by decide) 0 _
    have h26 : OwnS (w5.setCell ⟨N, 0, none⟩ (.slice A5 (m1 + 1) c5)) W.heap.size (.slice A2 m2 c2) d2 := row_boxed h25 hv5 (by decide) 0 _
    have hb6 := hb5.setCell (p := ⟨N, 0, none⟩) (by show W.heap.size ≤ N; rw [HNN.out]; exact Nat.le_refl _) (.slice A5 (m1 + 1) c5)
    have hk6 := hk5.trans (KeepsOthers.setCell w5 ⟨N, 0, none⟩ (.slice A5 (m1 + 1) c5))
    have hcU6 : World.cell? (w5.setCell ⟨N, 0, none⟩ (.slice A5 (m1 + 1) c5)) ⟨N + 1, 0, none⟩ = some (.slice A2 m2 c2) := (hu6.at_ 0).trans rfl
    have hcX6 : World.cell? (w5.setCell ⟨N, 0, none⟩ (.slice A5 (m1 + 1) c5)) ⟨g, 2, none⟩ = some (.string tx) := (hx6.at_ 2).trans rfl
    obtain ⟨w6, hw6⟩ : ∃ w6, w5.setCell ⟨N, 0, none⟩ (.slice A5 (m1 + 1) c5) = w6 := ⟨_, rfl⟩
    have HU6 := Lib.hid hu6
    have HX6 := Lib.hid hx6
    have HB36 := Lib.hid hb36
    have HV6 := Lib.hid hv6
    have O16 := Lib.hid h16
    have O26 := Lib.hid h26
    have HB6 := Lib.hid hb6
    have HK6 := Lib.hid hk6
    rw [hw6] at HU6 HX6 HB36 HV6 O16 O26 HB6 HK6
    have HW6 := Lib.hid hw6
    clear hw6 hu6 hx6 hb36 hv6 h16 h26 hb6 hk6 e5 hO9 hO8 ho5 hb5 hg5 hk5 h25 hv5 hu5 hb35 hx5 hl5 hc1 hcN O1 O2
    gi_wp2_with (gi_at_builtin; refine Hid.out ?_)
    refine Lib.hid ?_
    rw [HW6.out] at hcU6 hcX6 ⊢
    have hz65 : w6.heap.size = w5.heap.size := by rw [← HW6.out]; simp [World.setCell]
    have hO9 : OwnS (w6.alloc (Obj.cells #[Value.string tx] 9)) W.heap.size (.slice A2 m2 c2) d2 := World.ownsRow.alloc O26.out _
    have hO8 : OwnI (w6.alloc (Obj.cells #[Value.string tx] 9)) W.heap.size (.slice A5 (m1 + 1) c5) (d1 ++ [nm]) := World.ownsRow.alloc O16.out _
    refine app1_strI W rfl _ _ rfl _ d2 rfl hO9 (HB6.out.alloc HB6.out.size _) w5.heap.size 1 tx.data.toList tx rfl (by rw [← hz65]; exact (Blk.born w6 9 [.string tx]).at_ 0) rfl (by rw [HM2.out]; omega) ?_
    intro v7 w7 ho7 hb7 hg7
    obtain ⟨A7, c7, rfl, _, _, _, _⟩ := ho7.form
    have e7 : ∀ k t cs, Blk w6 k t cs → t ≠ 9 → Blk w7 k t cs := fun k t cs h ht => blk_beside hO9 hg7 (h.later _) ht
    have hk7 : KeepsOthers Wd w7 := HK6.out.trans ((KeepsOthers.alloc w6 _).trans (row_others hO9 hg7))
    have h17 : OwnI w7 W.heap.size (.slice A5 (m1 + 1) c5) (d1 ++ [nm]) := row_beside hO8 hO9 (by decide) hg7
    have hv7 := e7 _ _ _ HV6.out (by decide)
    have hu7 := e7 _ _ _ HU6.out (by decide)
    have hb37 := e7 _ _ _ HB36.out (by decide)
    have hl7 : (d2 ++ [tx.data.toList]).length = m2 + 1 := by rw [List.length_append, HM2.out]; rfl
    rw [hl7] at ho7 ⊢
    have hcU7 : w7.cell? ⟨N + 1, 0, none⟩ = some (.slice A2 m2 c2) := (hu7.at_ 0).trans rfl
    have hfU7 := hu7.free 0
    have hu8 := hu7.store 0 (.slice A7 (m2 + 1) c7)
    have hv8 := blk_other (g := N + 1) hv7 (by omega) 0 (.slice A7 (m2 + 1) c7)
    have hb38 := blk_other (g := N + 1) hb37 (by omega) 0 (.slice A7 (m2 + 1) c7)
    have h18 : OwnI (w7.setCell ⟨N + 1, 0, none⟩ (.slice A7 (m2 + 1) c7)) W.heap.size (.slice A5 (m1 + 1) c5) (d1 ++ [nm]) := row_boxed h17 hu7 (by decide) 0 _
    have h28 : OwnS (w7.setCell ⟨N + 1, 0, none⟩ (.slice A7 (m2 + 1) c7)) W.heap.size (.slice A7 (m2 + 1) c7) (d2 ++ [tx.data.toList]) := row_boxed ho7 hu7 (by decide) 0 _
    have hb8 := hb7.setCell (p := ⟨N + 1, 0, none⟩) (by show W.heap.size ≤ N + 1; rw [HNN.out]; omega) (.slice A7 (m2 + 1) c7)
    have hk8 := hk7.trans (KeepsOthers.setCell w7 ⟨N + 1, 0, none⟩ (.slice A7 (m2 + 1) c7))
    have HEND : Hid (KeepsFrom W4.heap.size Wd (w7.setCell ⟨N + 1, 0, none⟩ (.slice A7 (m2 + 1) c7)) ∧ Kept8 N N Wd (w7.setCell ⟨N + 1, 0, none⟩ (.slice A7 (m2 + 1) c7)) ∧ (∃ v u, Blk (w7.setCell ⟨N + 1, 0, none⟩ (.slice A7 (m2 + 1) c7)) N 69 [v] ∧ Blk (w7.setCell ⟨N + 1, 0, none⟩ (.slice A7 (m2 + 1) c7)) (N + 1) 70 [u] ∧ OwnI (w7.setCell ⟨N + 1, 0, none⟩ (.slice A7 (m2 + 1) c7)) W.heap.size v ((pre ++ [x]).map (·.num)) ∧ OwnS (w7.setCell ⟨N + 1, 0, none⟩ (.slice A7 (m2 + 1) c7)) W.heap.size u ((pre ++ [x]).map (·.text.data.toList)) ∧ Blk (w7.setCell ⟨N + 1, 0, none⟩ (.slice A7 (m2 + 1) c7)) (N + 2) 22 [Value.slice A n cap] ∧ Below W.heap.size W (w7.setCell ⟨N + 1, 0, none⟩ (.slice A7 (m2 + 1) c7)))) :=
      ⟨hk8.from _, ⟨hk8.size, fun k hk _ => (hb8.block k (by rw [HNN.out]; omega)).trans (HBEL.out.block k (by rw [HNN.out]; omega)).symm⟩, _, _, hv8, hu8, by rw [hL1.out]; exact h18, by rw [hL2.out]; exact h28, hb38, hb8⟩
    clear hu8 hv8 hb38 h18 h28 hb8 hk8 e7 hO9 hO8 ho7 hb7 hg7 hk7 h17 hv7 hu7 hb37 hl7 hcU6 hcX6
    gi_wp2
    exact HEND.out
  case done =>
    rintro D ys Wd hD rfl ⟨v, u, hv, hu, ho1, ho2, hb3, hbel⟩ hK
    have e1 : (notN id l).map (·.num) = numsL l := rfl
    have e2 : (notN id l).map (·.text.data.toList) = txtsL l := rfl
    rw [e1] at ho1
    rw [e2] at ho2
    have hr := HR.out
    have htr := txts_right hr
    have hnl : (numsL l).length ≤ 4096 := by rw [nums_len]; have := othL_le l; rw [HLN.out] at this; omega
    have h64 := nums_64 l
    obtain ⟨A1, c1, rfl, hi1, _, hcc1⟩ := ho1.form
    obtain ⟨A2, c2, rfl, hs2, _, hcc2, _⟩ := ho2.form
    have hT2 := HT.out.keep hbel
    have hlt0 := HLT0.out
    have HBEL := Lib.hid hbel
    have HK := Lib.hid hK
    obtain ⟨ob, hob⟩ : ∃ ob, othB kind l = ob := ⟨_, rfl⟩
    have HOB := Lib.hid hob
    unfold othB at hob
    rw [if_pos hlt0] at hob
    by_cases h3 : kind = 3
    · subst h3
      rw [if_pos rfl] at hob
      have hcU : Wd.cell? ⟨N + 1, 0, none⟩ = some (.slice A2 (txtsL l).length c2) := (hu.at_ 0).trans rfl
      have hbv : bestT (txtsL l) = (bstT (txtsL l) : Int) := by unfold bestT bstT; split <;> rfl
      have hB1 : ∀ w, Below Wd.heap.size Wd w → CallsIn Fence.wide 9 Tryd.prog 40 #[.slice A2 (txtsL l).length c2] w fun e W' => e = .returned (.tuple #[.int .i64 (bstT (txtsL l) : Int), .int .i64 0]) ∧ Below w.heap.size w W' := fun w h => by
        rw [← hbv]
        exact callsIn_wide.2 (tbest_yes A2 c2 (txtsL l) w (hs2.keep h) htr (hT2.keep h))
      have hE1 : ∀ w, Below Wd.heap.size Wd w → CallsIn Fence.wide 9 Tryd.prog 41 #[.int .i64 (bstT (txtsL l) : Int), .slice A2 (txtsL l).length c2] w (LaidI w ob) := fun w h => by
        rw [← hob]
        exact callsIn_wide.2 (tenc_any _ (bstT_lt _) A2 c2 (txtsL l) w (hs2.keep h) htr (hT2.keep h))
      clear hbv
      have HB1 := Lib.hid hB1
      have HE1 := Lib.hid hE1
      clear hB1 hE1 hob hs2 htr hi1 h64 ho1 ho2 hT2 hbel hr hlt0 hv hu hb3 hK
      generalize (txtsL l).length = m at *
      generalize bstT (txtsL l) = f at *
      unfold LaidI at HE1
      gi_wp2_with (first | (refine ⟨trivial, ?_⟩; gi_at_call 40; refine (HB1.out _ (Below.refl _ _)).mono ?_; rintro e w1 ⟨rfl, hb1⟩; have B1 := Lib.hid hb1; clear hb1; have y1 := cell_below B1.out hcU) | (refine ⟨trivial, ?_⟩; gi_at_call 41; refine (HE1.out w1 B1.out).mono ?_; rintro e w2 ⟨v2, rfl, ho2, hb2⟩; have O2 := Lib.hid ho2; have B2 := Lib.hid hb2; clear ho2 hb2))
      have hz := HBEL.out.size
      have hz1 := B1.out.size
      have hz2 := B2.out.size
      have hDl : D < Wd.heap.size := (Array.getElem?_eq_some_iff.1 HK.out).1
      have kD := (B2.out.block D (by omega)).trans ((B1.out.block D hDl).trans HK.out)
      refine ⟨by simp, .inl ⟨_, _, rfl, run_takeDeferred kD, ?_⟩⟩
      have hB7 : Below W.heap.size W w2 := HBEL.out.trans ((B1.out.trans (B2.out.mono hz1)).mono hz)
      have hB2 : Below W.heap.size W (w2.putObj D (Obj.deferred none)) := hB7.trans (belowK_b (w := W) (Nat.le_refl _) w2 D _ _ (by omega) kD rfl rfl)
      have hO2 : Own (w2.putObj D (Obj.deferred none)) W.heap.size v2 ob := row_walked (O2.out.base (Nat.le_trans hz hz1)) (grownBy_putObj' w2 D (Obj.deferred none)) (fun r e => by cases e; exact ⟨_, kD, rfl⟩)
      exact ⟨_, results_tmp2 rfl _ _ _, v2, rfl, by rw [HOB.out]; exact hO2, hB2⟩
    · rw [if_neg h3] at hob
      have hcU : Wd.cell? ⟨N, 0, none⟩ = some (.slice A1 (numsL l).length c1) := (hv.at_ 0).trans rfl
      have hbf := (bestL_spec (numsL l)).1
      have hB1 : ∀ w, Below Wd.heap.size Wd w → CallsIn Fence.wide 9 Tryd.prog 42 #[.slice A1 (numsL l).length c1] w fun e W' => e = .returned (.tuple #[.int .i64 (bestL (numsL l) : Int), .int .i64 0]) ∧ Below w.heap.size w W' := fun w h => callsIn_wide.2 (best_any A1 c1 (numsL l) w (hi1.keep h) h64 hnl hcc1 (hT2.keep h))
      have hE1 : ∀ w, Below Wd.heap.size Wd w → CallsIn Fence.wide 9 Tryd.prog 43 #[.int .i64 (bestL (numsL l) : Int), .slice A1 (numsL l).length c1] w (LaidI w ob) := fun w h => by
        rw [← hob]
        exact callsIn_wide.2 (enc_any _ hbf A1 c1 (numsL l) w (hi1.keep h) h64 hnl hcc1 (hT2.keep h))
      have q3 : (kind == 3) = false := by rw [beq_eq_false_iff_ne]; exact h3
      clear hbf h3
      have HB1 := Lib.hid hB1
      have HE1 := Lib.hid hE1
      clear hB1 hE1 hob hs2 htr hi1 h64 ho1 ho2 hT2 hbel hr hlt0 hv hu hb3 hK
      generalize (numsL l).length = m at *
      generalize bestL (numsL l) = f at *
      unfold LaidI at HE1
      gi_wp2_with (first | (refine ⟨trivial, ?_⟩; gi_at_call 42; refine (HB1.out _ (Below.refl _ _)).mono ?_; rintro e w1 ⟨rfl, hb1⟩; have B1 := Lib.hid hb1; clear hb1; have y1 := cell_below B1.out hcU) | (refine ⟨trivial, ?_⟩; gi_at_call 43; refine (HE1.out w1 B1.out).mono ?_; rintro e w2 ⟨v2, rfl, ho2, hb2⟩; have O2 := Lib.hid ho2; have B2 := Lib.hid hb2; clear ho2 hb2))
      have hz := HBEL.out.size
      have hz1 := B1.out.size
      have hz2 := B2.out.size
      have hDl : D < Wd.heap.size := (Array.getElem?_eq_some_iff.1 HK.out).1
      have kD := (B2.out.block D (by omega)).trans ((B1.out.block D hDl).trans HK.out)
      refine ⟨by simp, .inl ⟨_, _, rfl, run_takeDeferred kD, ?_⟩⟩
      have hB7 : Below W.heap.size W w2 := HBEL.out.trans ((B1.out.trans (B2.out.mono hz1)).mono hz)
      have hB2 : Below W.heap.size W (w2.putObj D (Obj.deferred none)) := hB7.trans (belowK_b (w := W) (Nat.le_refl _) w2 D _ _ (by omega) kD rfl rfl)
      have hO2 : Own (w2.putObj D (Obj.deferred none)) W.heap.size v2 ob := row_walked (O2.out.base (Nat.le_trans hz hz1)) (grownBy_putObj' w2 D (Obj.deferred none)) (fun r e => by cases e; exact ⟨_, kD, rfl⟩)
      exact ⟨_, results_tmp2 rfl _ _ _, v2, rfl, by rw [HOB.out]; exact hO2, hB2⟩
  case stop =>
    rintro D c pre Wd hD hpre hf hK
    exact hf.elim
end Go.Proofs.YtfgmdaemcaamiaaDoor
