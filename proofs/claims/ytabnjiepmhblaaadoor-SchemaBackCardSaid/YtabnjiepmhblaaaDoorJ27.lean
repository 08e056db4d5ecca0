/- Showing a schema: the program's Show. -/
import Derived.Test.YtabnjiepmhblaaaDoorJ26
import Derived.Test.YtabnjiepmhblaaaDoorJ5
import Derived.Test.YtabnjiepmhblaaaDoorJ5
namespace Go.Proofs.YtabnjiepmhblaaaDoor
open Go.RowKit Go.Shelf Go.Maps
set_option linter.unusedVariables false
attribute [local go_sem] Oper.semAt_some

def kindT (k : Int) : List UInt8 := if k = 1 then [32, 105, 110, 116] else if k = 2 then [32, 98, 111, 111, 108] else [32, 116, 101, 120, 116]
theorem kindword_any (k : Int) (w : World) : Calls Tryd.prog 18 #[.int .i64 k] w fun e w' => e = .returned (.string ⟨(kindT k).toArray⟩) ∧ w = w' := by
  by_cases h1 : k = 1
  · subst h1
    go_enter Tryd.func18, Tryd.ntmps18
    go_wp2
    go_ret
    exact ⟨rfl, rfl⟩
  by_cases h2 : k = 2
  · subst h2
    go_enter Tryd.func18, Tryd.ntmps18
    go_wp2
    go_ret
    exact ⟨rfl, rfl⟩
  rw [show kindT k = [32, 116, 101, 120, 116] by unfold kindT; rw [if_neg h1, if_neg h2]]
  have b1 : (k == 1) = false := by rw [beq_eq_false_iff_ne]; exact h1
  have b2 : (k == 2) = false := by rw [beq_eq_false_iff_ne]; exact h2
  go_enter Tryd.func18, Tryd.ntmps18
  go_wp2
  go_ret
  exact ⟨rfl, rfl⟩
def showC (c : Col) : List UInt8 := c.name.data.toList ++ kindT c.kind ++ if c.null then [32, 110, 117, 108, 108] else []
def showL (l : List Col) : List UInt8 := Lib.join (l.map showC) [44, 32]

theorem bytes_app (a : ByteArray) (l : List UInt8) : a ++ ⟨l.toArray⟩ = str (a.data.toList ++ l) := by
  simp [str, ByteArray.ext_iff]
theorem kindT_len (k : Int) : (kindT k).length ≤ 5 := by
  unfold kindT
  by_cases h1 : k = 1
  · simp [h1]
  · by_cases h2 : k = 2
    · simp [h2]
    · simp [h1, h2]

set_option maxHeartbeats 2000000 in
theorem show_no (A : Option Addr) (cap : Nat) (l : List Col) (W : World) (hl : Cols W A l) (hn : l.length ≤ 4000000000000000000) (hr : rightC l = false) :
    Calls Tryd.prog 6 #[.slice A l.length cap] W fun e W' => e = .returned (.tuple #[.string ⟨#[]⟩, .int .i64 50]) ∧ Below W.heap.size W W' := by
  have hri := right_any A cap l W hl hn
  rw [hr] at hri
  have HR := Lib.hid hri
  clear hri hl
  generalize l.length = n at HR hn
  go_enter Tryd.func6, Tryd.ntmps6
  go_wp2_with (go_at_call 12; refine HR.out.mono ?_; rintro e w1 ⟨rfl, hb1⟩; have HB1 := Lib.hid hb1; clear hb1)
  go_ret2
  exact ⟨rfl, HB1.out⟩

theorem showC_len {c : Col} (h : colOk c = true) : (showC c).length ≤ 34 := by
  have h1 := (encC_len h).2.1
  have h2 := kindT_len c.kind
  unfold showC
  rw [List.length_append, List.length_append]
  have h3 : c.name.data.toList.length ≤ 24 := by rw [sz_list]; exact h1
  by_cases hn : c.null = true
  · rw [if_pos hn]; simp; omega
  · rw [if_neg hn]; simp; omega
theorem joins_len (s : List UInt8) (k : Nat) : ∀ l : List (List UInt8), (∀ x ∈ l, x.length ≤ k) → (Lib.join l s).length ≤ l.length * (k + s.length)
  | [], _ => by simp [Lib.join, List.intercalate]
  | [x], h => by
    have := h x (by simp)
    simp [Lib.join, List.intercalate]
    omega
  | x :: y :: t, h => by
    have h1 := h x (by simp)
    have h2 := joins_len s k (y :: t) (fun z hz => h z (by simp [List.mem_cons.1 hz]))
    have e : Lib.join (x :: y :: t) s = x ++ s ++ Lib.join (y :: t) s := by simp [Lib.join, List.intercalate, List.intersperse]
    rw [e, List.length_append, List.length_append]
    rw [List.length_cons (a := x), Nat.add_mul, Nat.one_mul]
    omega
theorem join_len (l : List Col) (h : rightC l = true) : (Lib.join (l.map showC) [44, 32]).length ≤ l.length * 36 := by
  have := joins_len [44, 32] 34 (l.map showC) (fun x hx => by
    obtain ⟨c, hc, rfl⟩ := List.mem_map.1 hx
    exact showC_len (cols_ok h c hc))
  rwa [List.length_map] at this

set_option maxRecDepth 100000 in
set_option maxHeartbeats 4000000 in
theorem show_ok (A : Option Addr) (cap : Nat) (l : List Col) (W : World) (hl : Cols W A l) (hr : rightC l = true) :
    Calls Tryd.prog 6 #[.slice A l.length cap] W fun e W' => e = .returned (.tuple #[.string ⟨(showL l).toArray⟩, .int .i64 0]) ∧ Below W.heap.size W W' := by
  obtain ⟨N, hN⟩ : ∃ N, W.heap.size = N := ⟨_, rfl⟩
  rw [hN]
  have hlen : 1 ≤ l.length ∧ l.length ≤ 16 := by
    apply Classical.byContradiction
    intro h
    rw [rightC_len h] at hr
    cases hr
  have hri := right_any A cap l W hl (by omega)
  rw [hr] at hri
  obtain ⟨n, hn⟩ : ∃ n, l.length = n := ⟨_, rfl⟩
  rw [hn] at hri hlen ⊢
  have HR : Hid (CallsIn Fence.wide 9 _ _ _ _ _) := callsIn_wide.2 hri
  have HNN := Lib.hid hN
  have HLN := Lib.hid hn
  have HL := Lib.hid hl
  have HR1 := Lib.hid hr
  clear hri hl hn hr
  refine (callsIn_wide (n := 10)).1 ?_
  refine callsIn_of_wp_marks Tryd.func6 rfl trivial ?_ rfl
  simp only [Tryd.ntmps6, List.size_toArray, List.length_cons, List.length_nil, Nat.reduceAdd, Nat.reduceSub, Array.replicate_succ, Array.replicate_zero, List.push_toArray, List.append_toArray, List.nil_append, List.cons_append]
  gi_wp2_with (first | (refine ⟨trivial, ?_⟩; gi_at_call 12; refine HR.out.mono ?_; rintro e w1 ⟨rfl, hb1⟩; have HB1 := Lib.hid hb1; clear hb1 HR) | (refine ⟨trivial, ?_⟩; gi_at_call 17; refine (columns_fn 9 A n cap _).mono ?_; rintro e w3 ⟨rfl, rfl⟩))
  obtain ⟨X, hX⟩ : ∃ X, w1.heap.size = X := ⟨_, rfl⟩
  rw [hX]
  obtain ⟨W4, hW4⟩ : ∃ x, x = (w1.alloc (Obj.cells #[Value.slice none 0 0] 45)).alloc (Obj.cells #[Value.slice A n cap] 22) := ⟨_, rfl⟩
  have hW5 : W4 = allocs w1 [Obj.cells [Value.slice none 0 0].toArray 45, Obj.cells [Value.slice A n cap].toArray 22] := hW4
  rw [← hW4]
  have hbX : Blk W4 X 45 [Value.slice none 0 0] := by rw [hW5, ← hX]; exact allocs_blk _ w1 0 _ _ rfl
  have hbX1 : Blk W4 (X + 1) 22 [Value.slice A n cap] := by rw [hW5, ← hX]; exact allocs_blk _ w1 1 _ _ rfl
  have hb14 : Below w1.heap.size w1 W4 := by rw [hW5]; exact allocs_below _ w1 w1 _ (Nat.le_refl _) (Below.refl _ _)
  have hNX : N ≤ X := by rw [← hX, ← HNN.out]; exact HB1.out.size
  have hown0 : OwnT W4 w1.heap.size (Value.slice none 0 0) [] := World.ownsRow_nil W4 _ 9 1
  have s4 : W4.heap.size = X + 2 := by rw [hW5, allocs_size, hX]; rfl
  have hok := cols_ok HR1.out
  obtain ⟨xs, hxs⟩ := lift_sub (fun c => colOk c = true) l hok
  have hxl : xs.length = n := by rw [← HLN.out, ← hxs, List.length_map]
  have HXS := Lib.hid hxs
  clear hW4 hW5 hok
  refine wpIn_rangeFunc_ownH rfl (by omega) (gf := 36) (lb := #[.pointer (some ⟨X + 1, 0, none⟩)]) rfl trivial (enters_of Tryd.func36 (by kernel_rfl) rfl)
    (cols_stops (Subtype.val : { c : Col // colOk c = true } → Col) 9 (by omega) (X + 1) N N A cap xs (by omega) W4 (by omega) (by omega) (by rw [hxl]; exact (hbX1.at_ 0).trans rfl)
      (fun k hk => by
        obtain ⟨bb, o, e, g3⟩ := HL.out k (by rw [HLN.out, ← hxl]; exact hk)
        have hlt := g3.lt
        rw [HNN.out] at hlt
        have e2 : l[k]'(by rw [HLN.out, ← hxl]; exact hk) = (xs[k]).val := by simp only [← hxs, List.getElem_map]
        rw [e2] at g3
        exact ⟨bb, o, e, hlt, by omega, g3.keep (HB1.out.trans (hb14.mono HB1.out.size)) (by rw [HNN.out]; exact hlt)⟩))
    Kept.trans (Kept.putObj (by omega)) (Below.refl _ _) (fun _ => rfl)
    (fun pre Wd => Blk Wd (X + 1) 22 [Value.slice A n cap] ∧ (∃ v, Blk Wd X 45 [v] ∧ OwnT Wd w1.heap.size v (pre.map (fun c => str (showC c.val)))) ∧ Below w1.heap.size w1 Wd)
    (fun c pre Wd => False)
    (OwnFrom.and (Own.from (fun s A B row hs hg hr => (grownBy_keeps_cells hg hr hs rfl).trans hs) _) (OwnFrom.and (Own.from (fun s A B row hs hg hr => by obtain ⟨v, h1, h2⟩ := hs; exact ⟨v, (grownBy_keeps_cells hg hr h1 rfl).trans h1, row_walked h2 hg hr⟩) _) (ownFrom_below (Nat.le_refl _) (by omega))))
    (fun c => fun s A B row hs hg hr => hs)
    ⟨hbX1, ⟨_, hbX, hown0⟩, hb14⟩
    (fun x a' Wd => ∃ g, X + 2 ≤ g ∧ a' = { tmps := #[Value.slice A n cap, undef, Value.string ⟨#[]⟩, Value.int IntKind.i64 0, Value.pointer (some ⟨X, 0, none⟩), .pointer (some ⟨g, 0, none⟩), undef, Value.slice A n cap, Value.bool true, Value.bool false, Value.slice A n cap, Value.func (Fn.func 36) #[] #[Value.pointer (some ⟨X + 1, 0, none⟩)], colV x.val, undef, undef, undef, undef, undef, undef, undef, undef, undef, undef, undef, undef, undef, undef, undef, undef], defers := [] } ∧ Blk Wd g 44 (colC x.val))
    (fun x a' => fun s A B row hs hg hr => by obtain ⟨g, hg0, ha, hb⟩ := hs; exact ⟨g, hg0, ha, (grownBy_keeps_cells hg (fun r e => (hr r e).2) hb rfl).trans hb⟩) ?assign ?body ?done ?stop
  case assign =>
    rintro l0 pre x Wd K ⟨hb3, ⟨v, hbv, hov⟩, hbel⟩ hK
    have hsz : X + 2 ≤ Wd.heap.size := by have := lt_of_block hb3; omega
    have hka := Kept.alloc (B := N) (n₀ := N) (w := Wd) (by omega) (Obj.cells (colC x.val).toArray 44)
    have hkf : KeepsFrom W4.heap.size Wd (Wd.alloc (Obj.cells (colC x.val).toArray 44)) := KeepsFrom.of_grownBy (World.grownBy_alloc Wd _ none) (fun k e => by cases e)
    have hK2 := hK _ _ hkf hka ⟨hb3.later _, ⟨v, hbv.later _, World.ownsRow.alloc hov _⟩, hbel.alloc hbel.size _⟩ ⟨Wd.heap.size, hsz, rfl, Blk.born Wd _ _⟩
    clear hK hka hkf hov hbv hb3
    unfold colV colC at hK2
    unfold colV
    gi_wp2
    exact hK2
  case body =>
    rintro l0 pre x a' Wd hl0 hrec ⟨hb3, ⟨v, hbv, hov⟩, hbel⟩ ⟨g, hg0, rfl, hbx⟩ hlt2
    have hxo := encC_len x.2
    obtain ⟨d, hd⟩ : ∃ d, pre.map (fun c => str (showC c.val)) = d := ⟨_, rfl⟩
    have hdl : d.length ≤ 16 := by rw [← hd, List.length_map]; omega
    rw [hd] at hov
    obtain ⟨Av, cv, rfl, _, _, _, _⟩ := row_form hov
    obtain ⟨c, hc⟩ : ∃ c, x.val = c := ⟨_, rfl⟩
    rw [hc] at hbx hxo
    have hc0 : Wd.drew.cell? ⟨g, 0, none⟩ = some (.string c.name) := (hbx.at_ 0).trans rfl
    have hc1 : Wd.drew.cell? ⟨g, 1, none⟩ = some (.int .i64 c.kind) := (hbx.at_ 1).trans rfl
    have hc2 : Wd.cell? ⟨g, 2, none⟩ = some (.bool c.null) := (hbx.at_ 2).trans rfl
    have hcX : Wd.cell? ⟨X, 0, none⟩ = some (.slice Av d.length cv) := (hbv.at_ 0).trans rfl
    have hfX := hbv.free 0
    have hXl := lt_of_block hbv
    have hkw := kindword_any c.kind Wd.drew
    have hkl := kindT_len c.kind
    obtain ⟨kw, hkwe⟩ : ∃ kw : ByteArray, (⟨(kindT c.kind).toArray⟩ : ByteArray) = kw := ⟨_, rfl⟩
    have hks : kw.size ≤ 5 := by rw [← hkwe]; simpa [ByteArray.size] using hkl
    have HP1 : Hid (c.name ++ kw = str (c.name.data.toList ++ kindT c.kind)) := by show _ = _; rw [← hkwe]; exact bytes_app _ _
    rw [hkwe] at hkw
    obtain ⟨nm, hnm⟩ : ∃ nm, c.name = nm := ⟨_, rfl⟩
    have hns : nm.size ≤ 24 := by rw [← hnm]; exact hxo.2.1
    obtain ⟨nn, hnn⟩ : ∃ nn, c.null = nn := ⟨_, rfl⟩
    have HSH : Hid (showC c = (c.name.data.toList ++ kindT c.kind) ++ if nn then [32, 110, 117, 108, 108] else []) := by show _ = _; rw [← hnn]; rfl
    rw [hnm] at hc0
    rw [hnn] at hc2
    obtain ⟨pt, hpt⟩ : ∃ pt, nm ++ kw = pt := ⟨_, rfl⟩
    have hps : pt.size ≤ 29 := by rw [← hpt]; simp [ByteArray.size_append]; omega
    have HP2 : Hid (pt = str (c.name.data.toList ++ kindT c.kind)) := by show _ = _; rw [← HP1.out, hnm, hpt]
    have hnolt : ¬ 9223372036854775807 < nm.size + kw.size := by omega
    have HBX := Lib.hid hbx
    have HBV := Lib.hid hbv
    have HOV := Lib.hid hov
    have HBEL := Lib.hid hbel
    have HB3 := Lib.hid hb3
    have HD := Lib.hid hd
    have HC := Lib.hid hc
    unfold colV
    rw [hc]
    clear hbx hbv hov hbel hb3 hd hc hrec hkl hkwe HP1 hnm hnn hxo
    gi_wp2
    refine region_in_tail (m := 6) (by kernel_rfl) (by rintro ⟨a, w, h⟩; exact h) (by kernel_rfl) (by kernel_rfl) ?_
    simp only [List.take_succ_cons, List.take_zero, List.drop_succ_cons, List.drop_zero]
    still_step
    still_step
    still_step
    still_step
    still_call (hkw.mono fun e w9 h => ⟨h.1, h.2.symm⟩)
    still_step
    refine wpStill_nil ?_
    clear hnolt hpt hc0 hc1 hkw
    have hcX2 : Wd.drew.cell? ⟨X, 0, none⟩ = some (.slice Av d.length cv) := hcX
    generalize hPQ : Exit.then _ (Exit.inBlock _ _) = PQ
    go_wp2
    subst hPQ
    by_cases hnull : nn = true
    · subst hnull
      have hnolt2 : ¬ 9223372036854775807 < pt.size + 5 := by omega
      obtain ⟨pt2, hpt2⟩ : ∃ pt2, pt ++ (⟨#[32, 110, 117, 108, 108]⟩ : ByteArray) = pt2 := ⟨_, rfl⟩
      have HP3 : Hid (pt2 = str (showC c)) := by
        show _ = _
        rw [← hpt2, HSH.out, HP2.out]
        exact bytes_app _ _
      have hO9 : OwnT (Wd.alloc (Obj.cells #[Value.string pt2] 9)).drew w1.heap.size (.slice Av d.length cv) d := World.ownsRow.alloc (w := Wd) HOV.out (Obj.cells #[Value.string pt2] 9)
      have hB9 : Below w1.heap.size w1 (Wd.alloc (Obj.cells #[Value.string pt2] 9)).drew := (HBEL.out.alloc HBEL.out.size (Obj.cells #[Value.string pt2] 9)).drew
      have hC9 : World.cell? (Wd.alloc (Obj.cells #[Value.string pt2] 9)).drew ⟨Wd.heap.size, 0, none⟩ = some (.string pt2) := (Blk.born Wd 9 [Value.string pt2]).at_ 0
      have HO9 := Lib.hid hO9
      have HB9 := Lib.hid hB9
      have HC9 := Lib.hid hC9
      clear hO9 hB9 hC9
      gi_wp2_with (gi_at_builtin; refine Hid.out ?_)
      refine Lib.hid ?_
      refine app_txtI w1 rfl _ _ rfl _ d rfl HO9.out HB9.out Wd.heap.size 1 pt2 rfl HC9.out (by omega) ?_
      intro v6 w6 hown6 hbel6 hgr6
      obtain ⟨A6, c6, rfl, _, _, _, _⟩ := row_form hown6
      have e6 : ∀ k t cs, Blk Wd k t cs → t ≠ 9 → Blk w6 k t cs := fun k t cs h ht => blk_grown HO9.out hgr6 (h.later _) ht
      have hX6 := e6 X _ _ HBV.out (by decide)
      have fX6 := hX6.free 0
      have cX6 : w6.cell? ⟨X, 0, none⟩ = some (.slice Av d.length cv) := (hX6.at_ 0).trans rfl
      have HX6 := Lib.hid hX6
      have HB6 := Lib.hid (e6 (X + 1) _ _ HB3.out (by decide))
      have HO6 := Lib.hid hown6
      have HBE6 := Lib.hid hbel6
      have hko6 : KeepsOthers (Wd.alloc (Obj.cells #[Value.string pt2] 9)).drew w6 := row_others (w := (Wd.alloc (Obj.cells #[Value.string pt2] 9)).drew) HO9.out hgr6
      have HKO6 := Lib.hid (((KeepsOthers.alloc Wd (Obj.cells #[Value.string pt2] 9)).trans (KeepsOthers.drew _)).trans hko6)
      clear hown6 hbel6 hgr6 e6 hX6 hko6
      gi_wp2
      have hs9 : Sole X w6 (w6.setCell ⟨X, 0, none⟩ (.slice A6 (d.length + 1) c6)) := (Sole.refl X w6).setCell 0 _
      have kX := HX6.out.store 0 (.slice A6 (d.length + 1) c6)
      have kB := HB6.out.sole hs9 (by omega)
      have hO := row_sole HO6.out HX6.out (by decide) hs9
      rw [show (d ++ [pt2]).length = d.length + 1 by simp] at hO
      have hO2 : OwnT (w6.setCell ⟨X, 0, none⟩ (.slice A6 (d.length + 1) c6)) w1.heap.size (.slice A6 (d.length + 1) c6) (d ++ [pt2]) := by
        unfold OwnT
        rw [show (d ++ [pt2]).length = d.length + 1 by simp]
        exact hO
      have hB10 := hs9.below HBE6.out (by omega)
      have hKO := HKO6.out.trans (KeepsOthers.setCell w6 ⟨X, 0, none⟩ (.slice A6 (d.length + 1) c6))
      have hL : (pre ++ [x]).map (fun c => str (showC c.val)) = d ++ [pt2] := by
        rw [List.map_append, List.map_cons, List.map_nil, HC.out, HD.out, HP3.out]
      exact (show KeepsFrom W4.heap.size Wd (w6.setCell ⟨X, 0, none⟩ (.slice A6 (d.length + 1) c6)) ∧ Kept N N Wd (w6.setCell ⟨X, 0, none⟩ (.slice A6 (d.length + 1) c6)) ∧ (Blk (w6.setCell ⟨X, 0, none⟩ (.slice A6 (d.length + 1) c6)) (X + 1) 22 [Value.slice A n cap] ∧ (∃ v, Blk (w6.setCell ⟨X, 0, none⟩ (.slice A6 (d.length + 1) c6)) X 45 [v] ∧ OwnT (w6.setCell ⟨X, 0, none⟩ (.slice A6 (d.length + 1) c6)) w1.heap.size v ((pre ++ [x]).map (fun c => str (showC c.val)))) ∧ Below w1.heap.size w1 (w6.setCell ⟨X, 0, none⟩ (.slice A6 (d.length + 1) c6))) from ⟨hKO.from _, ⟨hKO.size, fun k hk _ => (hB10.block k (by omega)).trans (HBEL.out.block k (by omega)).symm⟩, kB, ⟨_, kX, by rw [hL]; exact hO2⟩, hB10⟩)
    · rw [Bool.not_eq_true] at hnull
      subst hnull
      have HP3 : Hid (pt = str (showC c)) := by
        show _ = _
        rw [HSH.out, HP2.out]
        simp
      have hO9 : OwnT (Wd.alloc (Obj.cells #[Value.string pt] 9)).drew w1.heap.size (.slice Av d.length cv) d := World.ownsRow.alloc (w := Wd) HOV.out (Obj.cells #[Value.string pt] 9)
      have hB9 : Below w1.heap.size w1 (Wd.alloc (Obj.cells #[Value.string pt] 9)).drew := (HBEL.out.alloc HBEL.out.size (Obj.cells #[Value.string pt] 9)).drew
      have hC9 : World.cell? (Wd.alloc (Obj.cells #[Value.string pt] 9)).drew ⟨Wd.heap.size, 0, none⟩ = some (.string pt) := (Blk.born Wd 9 [Value.string pt]).at_ 0
      have HO9 := Lib.hid hO9
      have HB9 := Lib.hid hB9
      have HC9 := Lib.hid hC9
      clear hO9 hB9 hC9
      gi_wp2_with (gi_at_builtin; refine Hid.out ?_)
      refine Lib.hid ?_
      refine app_txtI w1 rfl _ _ rfl _ d rfl HO9.out HB9.out Wd.heap.size 1 pt rfl HC9.out (by omega) ?_
      intro v6 w6 hown6 hbel6 hgr6
      obtain ⟨A6, c6, rfl, _, _, _, _⟩ := row_form hown6
      have e6 : ∀ k t cs, Blk Wd k t cs → t ≠ 9 → Blk w6 k t cs := fun k t cs h ht => blk_grown HO9.out hgr6 (h.later _) ht
      have hX6 := e6 X _ _ HBV.out (by decide)
      have fX6 := hX6.free 0
      have cX6 : w6.cell? ⟨X, 0, none⟩ = some (.slice Av d.length cv) := (hX6.at_ 0).trans rfl
      have HX6 := Lib.hid hX6
      have HB6 := Lib.hid (e6 (X + 1) _ _ HB3.out (by decide))
      have HO6 := Lib.hid hown6
      have HBE6 := Lib.hid hbel6
      have hko6 : KeepsOthers (Wd.alloc (Obj.cells #[Value.string pt] 9)).drew w6 := row_others (w := (Wd.alloc (Obj.cells #[Value.string pt] 9)).drew) HO9.out hgr6
      have HKO6 := Lib.hid (((KeepsOthers.alloc Wd (Obj.cells #[Value.string pt] 9)).trans (KeepsOthers.drew _)).trans hko6)
      clear hown6 hbel6 hgr6 e6 hX6 hko6
      gi_wp2
      have hs9 : Sole X w6 (w6.setCell ⟨X, 0, none⟩ (.slice A6 (d.length + 1) c6)) := (Sole.refl X w6).setCell 0 _
      have kX := HX6.out.store 0 (.slice A6 (d.length + 1) c6)
      have kB := HB6.out.sole hs9 (by omega)
      have hO := row_sole HO6.out HX6.out (by decide) hs9
      rw [show (d ++ [pt]).length = d.length + 1 by simp] at hO
      have hO2 : OwnT (w6.setCell ⟨X, 0, none⟩ (.slice A6 (d.length + 1) c6)) w1.heap.size (.slice A6 (d.length + 1) c6) (d ++ [pt]) := by
        unfold OwnT
        rw [show (d ++ [pt]).length = d.length + 1 by simp]
        exact hO
      have hB10 := hs9.below HBE6.out (by omega)
      have hKO := HKO6.out.trans (KeepsOthers.setCell w6 ⟨X, 0, none⟩ (.slice A6 (d.length + 1) c6))
      have hL : (pre ++ [x]).map (fun c => str (showC c.val)) = d ++ [pt] := by
        rw [List.map_append, List.map_cons, List.map_nil, HC.out, HD.out, HP3.out]
      exact (show KeepsFrom W4.heap.size Wd (w6.setCell ⟨X, 0, none⟩ (.slice A6 (d.length + 1) c6)) ∧ Kept N N Wd (w6.setCell ⟨X, 0, none⟩ (.slice A6 (d.length + 1) c6)) ∧ (Blk (w6.setCell ⟨X, 0, none⟩ (.slice A6 (d.length + 1) c6)) (X + 1) 22 [Value.slice A n cap] ∧ (∃ v, Blk (w6.setCell ⟨X, 0, none⟩ (.slice A6 (d.length + 1) c6)) X 45 [v] ∧ OwnT (w6.setCell ⟨X, 0, none⟩ (.slice A6 (d.length + 1) c6)) w1.heap.size v ((pre ++ [x]).map (fun c => str (showC c.val)))) ∧ Below w1.heap.size w1 (w6.setCell ⟨X, 0, none⟩ (.slice A6 (d.length + 1) c6))) from ⟨hKO.from _, ⟨hKO.size, fun k hk _ => (hB10.block k (by omega)).trans (HBEL.out.block k (by omega)).symm⟩, kB, ⟨_, kX, by rw [hL]; exact hO2⟩, hB10⟩)
  case done =>
    rintro D ys Wd hD rfl ⟨hb3, ⟨v, hbv, hov⟩, hbel⟩ hK
    obtain ⟨d, hd⟩ : ∃ d, ys.map (fun c => str (showC c.val)) = d := ⟨_, rfl⟩
    have hdl : d.length = n := by rw [← hd, List.length_map, hxl]
    have hdj : d.map (·.data.toList) = l.map showC := by
      rw [← hd, ← HXS.out, List.map_map, List.map_map]
      exact List.map_congr_left fun c _ => by simp [str]
    rw [hd] at hov
    obtain ⟨Av, cv, rfl, _, hcap, _, hcl⟩ := row_form hov
    obtain ⟨u0, hu0⟩ : ∃ u, (d.map Value.string)[0]? = some u := ⟨_, List.getElem?_eq_getElem (by rw [List.length_map]; omega)⟩
    obtain ⟨gb, rfl, hc0⟩ := hcl 0 u0 hu0
    have hgb := row_lt hov (g := gb) rfl
    have hjl := join_len l HR1.out
    have hJ := Tryd.strings_Join gb 0 cv d ⟨#[44, 32]⟩ Wd (fun j x hj => by
      obtain ⟨g2, e2, h2⟩ := hcl j (.string x) (by rw [List.getElem?_map, hj]; rfl)
      injection e2 with e2
      injection e2 with e2
      subst e2
      rw [Nat.zero_add]
      exact h2) hgb.2 (by omega) hcap (by rw [hdj]; exact Nat.le_trans hjl (by rw [HLN.out]; omega))
    rw [hdj] at hJ
    rw [hdl] at hJ hbv
    have hcX : Wd.cell? ⟨X, 0, none⟩ = some (.slice (some ⟨gb, 0, none⟩) n cv) := (hbv.at_ 0).trans rfl
    have hBN : Below N W Wd := by
      have h1 := HB1.out
      rw [HNN.out] at h1
      exact h1.trans (hbel.mono (by omega))
    have HBN := Lib.hid hBN
    have HK := Lib.hid hK
    have HJ : Hid (CallsIn Fence.wide 9 _ _ _ _ _) := callsIn_wide.2 hJ
    have hDl : D < Wd.heap.size := (Array.getElem?_eq_some_iff.1 hK).1
    clear hJ hcl hov hbv hbel hb3 hBN hK hdj hd hu0 hc0 hjl
    have hNW := HBN.out.size
    gi_wp2_with (refine ⟨trivial, ?_⟩; gi_at_call 19; refine HJ.out.mono ?_; rintro e w7 ⟨rfl, hb7⟩; have HB7 := Lib.hid hb7; clear hb7 HJ)
    have kD := (HB7.out.block D hDl).trans HK.out
    have hB7 : Below N W w7 := HBN.out.trans (HB7.out.mono (by omega))
    refine ⟨by simp, .inl ⟨_, _, rfl, run_takeDeferred kD, ?_⟩⟩
    have hB2 : Below N W (w7.putObj D (Obj.deferred none)) := hB7.trans (belowK_b (w := W) (by omega) w7 D _ _ (by omega) kD rfl rfl)
    exact ⟨_, results_tmp2 rfl _ _ _, rfl, hB2⟩
  case stop =>
    rintro D c pre Wd hD hpre h hK
    exact h.elim
end Go.Proofs.YtabnjiepmhblaaaDoor
