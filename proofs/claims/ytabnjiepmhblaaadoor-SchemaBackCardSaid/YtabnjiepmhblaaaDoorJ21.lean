/- Which schemas may be: the walk of schema.Right where the length may be. -/
import Derived.Test.YtabnjiepmhblaaaDoorJ2
namespace Go.Proofs.YtabnjiepmhblaaaDoor
open Go.RowKit Go.Shelf Go.Maps
set_option linter.unusedVariables false
attribute [local go_sem] Oper.semAt_some

/-- Blocks that are made one behind the other. -/
def allocs : World → List Obj → World
  | w, [] => w
  | w, o :: t => allocs (w.alloc o) t
theorem allocs_size : ∀ (os : List Obj) (w : World), (allocs w os).heap.size = w.heap.size + os.length
  | [], w => rfl
  | o :: t, w => by rw [allocs, allocs_size t, World.size_alloc, List.length_cons]; omega
theorem allocs_below : ∀ (os : List Obj) (w w0 : World) (n : Nat), n ≤ w.heap.size → Below n w0 w → Below n w0 (allocs w os)
  | [], w, w0, n, _, h => h
  | o :: t, w, w0, n, hn, h => allocs_below t _ _ _ (by rw [World.size_alloc]; omega) (h.alloc hn o)
theorem allocs_blk : ∀ (os : List Obj) (w : World) (i : Nat) (t : TypeId) (cs : List Value), os[i]? = some (.cells cs.toArray t) → Blk (allocs w os) (w.heap.size + i) t cs
  | [], w, i, t, cs, h => by simp at h
  | o :: os, w, 0, t, cs, h => by
    obtain rfl : o = .cells cs.toArray t := by simpa using h
    exact (Blk.born w t cs).below (allocs_below os _ _ _ (Nat.le_refl _) (Below.refl _ _)) (by rw [World.size_alloc]; omega)
  | o :: os, w, i + 1, t, cs, h => by
    have := allocs_blk os (w.alloc o) i t cs (by simpa using h)
    rw [World.size_alloc] at this
    rw [show w.heap.size + (i + 1) = w.heap.size + 1 + i by omega]
    exact this

set_option maxRecDepth 100000 in
set_option maxHeartbeats 4000000 in
theorem right_good (A : Option Addr) (cap : Nat) (l : List Col) (W : World) (hl : Cols W A l) (h1 : 1 ≤ l.length ∧ l.length ≤ 16) :
    Calls Tryd.prog 12 #[.slice A l.length cap] W fun e W' => e = .returned (.bool (rightC l)) ∧ Below W.heap.size W W' := by
  obtain ⟨N, hN⟩ : ∃ N, W.heap.size = N := ⟨_, rfl⟩
  rw [hN]
  have hat : colsAt id W (N + 1) (N + 4) A l := by
    intro k hk
    obtain ⟨b, o, e, hc⟩ := hl k hk
    have hb := hc.lt
    exact ⟨b, o, e, by omega, by omega, hc⟩
  obtain ⟨n, hn⟩ : ∃ n, l.length = n := ⟨_, rfl⟩
  have hne0 : ((n : Int) == 0) = false := by rw [beq_eq_false_iff_ne]; omega
  have hn16 : ¬ (16 : Int) < (n : Int) := by omega
  have hmm := @run_makeMap Tryd.prog
  have HAT := Lib.hid hat
  have HNN := Lib.hid hN
  have HLN := Lib.hid hn
  rw [hn]
  have HH1 := Lib.hid h1
  clear hat hl hn h1
  refine (callsIn_wide (n := 10)).1 ?_
  refine callsIn_of_wp_marks Tryd.func12 rfl trivial ?_ rfl
  simp only [Tryd.ntmps12, List.size_toArray, List.length_cons, List.length_nil, Nat.reduceAdd, Nat.reduceSub, Array.replicate_succ, Array.replicate_zero, List.push_toArray, List.append_toArray, List.nil_append, List.cons_append]
  gi_wp2_with (refine ⟨trivial, ?_⟩; gi_at_call 17; refine (columns_fn 9 A n cap _).mono ?_; rintro e w2 ⟨rfl, rfl⟩)
  simp only [Nat.add_assoc, Nat.reduceAdd]
  obtain ⟨W4, hW4⟩ : ∃ x, x = (((W.alloc (Obj.cells #[Value.bool false] 4)).alloc (Obj.map #[] 0)).alloc (Obj.cells #[Value.map (some (N + 1))] 59)).alloc (Obj.cells #[Value.slice A n cap] 22) := ⟨_, rfl⟩
  have hW5 : W4 = allocs W [Obj.cells [Value.bool false].toArray 4, Obj.map #[] 0, Obj.cells [Value.map (some (N + 1))].toArray 59, Obj.cells [Value.slice A n cap].toArray 22] := hW4
  rw [← hW4]
  have hb0 : Blk W4 N 4 [Value.bool false] := by rw [hW5, ← HNN.out]; exact allocs_blk _ W 0 _ _ rfl
  have hb2 : Blk W4 (N + 2) 59 [Value.map (some (N + 1))] := by rw [hW5, ← HNN.out]; exact allocs_blk _ W 2 _ _ rfl
  have hb3 : Blk W4 (N + 3) 22 [Value.slice A n cap] := by rw [hW5, ← HNN.out]; exact allocs_blk _ W 3 _ _ rfl
  have hm0 : W4.ownsMap Tryd.prog 9 (unitElem (H := Unit)) (N + 1) 0 (.map []) := by
    have h := ((World.ownsMap_made (W.alloc (Obj.cells #[Value.bool false] 4)) Tryd.prog 9 (unitElem (H := Unit))).alloc (Obj.cells #[Value.map (some (N + 1))] 59)).alloc (Obj.cells #[Value.slice A n cap] 22)
    rw [World.size_alloc, HNN.out] at h
    rw [hW4]
    exact h
  have bel : Below N W W4 := by rw [hW5]; exact allocs_below _ W W N (by rw [HNN.out]; omega) (Below.refl _ _)
  have s4 : W4.heap.size = N + 4 := by rw [hW5, allocs_size, HNN.out]; rfl
  have hln := HLN.out
  clear hW4 hW5
  refine wpIn_rangeFunc_ownH rfl (by omega) (gf := 36) (lb := #[.pointer (some ⟨N + 3, 0, none⟩)]) rfl trivial (enters_of Tryd.func36 (by kernel_rfl) rfl)
    (cols_stops id 9 (by omega) (N + 3) (N + 1) (N + 4) A cap l (by have := HH1.out.2; omega) W4 (by omega) (by omega) (by rw [hln]; exact (hb3.at_ 0).trans rfl)
      (fun k hk => by obtain ⟨b, o, e, g1, g2, g3⟩ := HAT.out k hk; exact ⟨b, o, e, g1, g2, g3.keep bel (by have := g3.lt; rw [HNN.out] at this; exact this)⟩))
    Kept.trans (Kept.putObj (by omega)) (Below.refl _ _) (fun _ => rfl)
    (fun pre Wd => (Blk Wd N 4 [Value.bool false] ∧ Blk Wd (N + 2) 59 [Value.map (some (N + 1))] ∧ Blk Wd (N + 3) 22 [Value.slice A n cap]) ∧ Wd.ownsMap Tryd.prog 9 (unitElem (H := Unit)) (N + 1) pre.length (setOf (.agg []) (pre.map keyN)) ∧ (∀ c ∈ pre, colOk c = true) ∧ Below N W Wd)
    (fun c pre Wd => (c = .ret ∧ ∃ p ∈ pre, colOk p = false) ∧ Blk Wd N 4 [Value.bool false] ∧ Below N W Wd)
    (OwnFrom.and (Own.from (fun s A B row hs hg hr => ⟨(grownBy_keeps_cells hg hr hs.1 rfl).trans hs.1, (grownBy_keeps_cells hg hr hs.2.1 rfl).trans hs.2.1, (grownBy_keeps_cells hg hr hs.2.2 rfl).trans hs.2.2⟩) _) (OwnFrom.and (fun s A B row hs hg hr => hs.kept hg (fun e => by have := (hr _ e.symm).1; omega)) (OwnFrom.and (ownFrom_pure _ _) (ownFrom_below (by omega) (by omega)))))
    (fun c => OwnFrom.and (ownFrom_pure _ _) (OwnFrom.and (Own.from (fun s A B row hs hg hr => (grownBy_keeps_cells hg hr hs rfl).trans hs) _) (ownFrom_below (by omega) (by omega))))
    ⟨⟨hb0, hb2, hb3⟩, hm0, by simp, bel⟩
    (fun x a' Wd => ∃ g, N + 4 ≤ g ∧ a' = { tmps := #[Value.slice A n cap, undef, Value.pointer (some ⟨N, 0, none⟩), Value.pointer (some ⟨N + 2, 0, none⟩), .pointer (some ⟨g, 0, none⟩), Value.slice A n cap, Value.int IntKind.i64 (n : Int), Value.bool false, Value.bool false, Value.slice A n cap, Value.int IntKind.i64 (n : Int), Value.bool false, Value.bool false, Value.map (some (N + 1)), Value.slice A n cap, Value.func (Fn.func 36) #[] #[Value.pointer (some ⟨N + 3, 0, none⟩)], colV x, undef, undef, undef, undef, undef, undef, undef, undef, undef, undef, undef, undef, undef, undef, undef, undef, undef, undef, undef], defers := [] } ∧ Blk Wd g 44 (colC x))
    (fun x a' => fun s A B row hs hg hr => by obtain ⟨g, hg0, ha, hb⟩ := hs; exact ⟨g, hg0, ha, (grownBy_keeps_cells hg (fun r e => (hr r e).2) hb rfl).trans hb⟩) ?assign ?body ?done ?stop
  case assign =>
    rintro l0 pre x Wd K ⟨⟨hb0, hb2, hb3⟩, hm, hok, hbel⟩ hK
    have hsz : N + 4 ≤ Wd.heap.size := by have := lt_of_block hb3; omega
    have hka := Kept.alloc (B := N + 1) hsz (Obj.cells (colC x).toArray 44)
    have hkf : KeepsFrom W4.heap.size Wd (Wd.alloc (Obj.cells (colC x).toArray 44)) := KeepsFrom.of_grownBy (World.grownBy_alloc Wd _ none) (fun k e => by cases e)
    have hK2 := hK _ _ hkf hka ⟨⟨hb0.later _, hb2.later _, hb3.later _⟩, hm.alloc _, hok, hbel.alloc (by omega) _⟩ ⟨Wd.heap.size, hsz, rfl, Blk.born Wd _ _⟩
    clear hK hka hkf hm hb0 hb2 hb3
    unfold colV colC at hK2; unfold colV
    gi_wp2
    exact hK2
  case body =>
    rintro l0 pre x a' Wd hl0 hrec ⟨⟨hb0, hb2, hb3⟩, hm, hok, hbel⟩ ⟨g, hg0, rfl, hbx⟩ hlt2
    have hsz : N + 4 ≤ Wd.heap.size := by have := lt_of_block hb3; omega
    have hc0 : Wd.cell? ⟨g, 0, none⟩ = some (.string x.name) := (hbx.at_ 0).trans rfl
    have hc1 : Wd.cell? ⟨g, 1, none⟩ = some (.int .i64 x.kind) := (hbx.at_ 1).trans rfl
    have hc2 : Wd.cell? ⟨N + 2, 0, none⟩ = some (.map (some (N + 1))) := (hb2.at_ 0).trans rfl
    have hcr : Wd.cell? ⟨N, 0, none⟩ = some (.bool false) := (hb0.at_ 0).trans rfl
    have hfr := hb0.free 0
    have hbound := x.bound
    have hkey : keyOf Tryd.prog 9 (.string x.name) = some (keyN x) := Go.WideMaps.keyOf_string_mk Tryd.underlying9 (by unfold maxLen; omega)
    have HB0 := Lib.hid hb0
    have HBX := Lib.hid (And.intro hb2 hb3)
    have HM := Lib.hid hm
    have HOK := Lib.hid hok
    have HBEL := Lib.hid hbel
    have HKEY := Lib.hid hkey
    have his := isname_any x.name Wd
    have hik := iskind_any x.kind Wd
    unfold colV
    clear hb0 hb2 hb3 hm hok hbel hbx hkey hrec
    by_cases hname : nameL x.name.data.toList = true
    · rw [hname] at his
      by_cases hkind : kindB x.kind = true
      · rw [hkind] at hik
        have hcol : colOk x = true := by unfold colOk; rw [hname]; exact hkind
        have HCOL := Lib.hid hcol
        have HIS := Lib.hid his
        have HIK := Lib.hid hik
        clear his hik hname hkind hcol
        gi_wp2_with (first | (refine ⟨trivial, ?_⟩; gi_at_call 28; refine ((CallsIn.inRound l0 (callsIn_wide.2 HIS.out)).mono ?_); rintro e w1 ⟨rfl, rfl⟩) | (refine ⟨trivial, ?_⟩; gi_at_call 29; refine ((CallsIn.inRound l0 (callsIn_wide.2 HIK.out)).mono ?_); rintro e w1 ⟨rfl, rfl⟩) | (gi_at_mapUpdate; refine wpListIn_mapUpdate_own _ rfl _ _ _ 59 rfl 9 62 (Maps.string_keyed Tryd.underlying9) Tryd.underlying59 unitElem (N + 1) pre.length _ rfl HM.out (by unfold maxLen; omega) _ _ _ rfl rfl HKEY.out (.agg []) [] unitElem_mk ?_; intro w1 hown1 hgrow1))
        refine ⟨KeepsFrom.of_grownBy hgrow1 (fun j e => by cases e; omega), ⟨hgrow1.size, fun k hk hB => hgrow1.block k (by omega) (fun e => hB (by cases e; rfl))⟩, ⟨(hgrow1.block N (by omega) (by simp)).trans HB0.out, (hgrow1.block (N + 2) (by omega) (by simp)).trans HBX.out.1, (hgrow1.block (N + 3) (by omega) (by simp)).trans HBX.out.2⟩, ?_, ?_, ?_⟩
        · rw [List.map_append, List.map_cons, List.map_nil, setOf_snoc, List.length_append]
          exact hown1
        · intro c hc
          rcases List.mem_append.1 hc with hc | hc
          · exact HOK.out c hc
          · rw [List.mem_singleton] at hc; rw [hc]; exact HCOL.out
        · exact HBEL.out.grown hgrow1 (by omega) (fun k e => by cases e; omega)
      · rw [Bool.not_eq_true] at hkind
        rw [hkind] at hik
        have hcol : colOk x = false := by unfold colOk; rw [show kindOk x = false from hkind, Bool.and_false]
        have HBADX := Lib.hid hcol
        have HIS := Lib.hid his
        have HIK := Lib.hid hik
        clear his hik hname hkind hcol
        gi_wp2_with (first | (refine ⟨trivial, ?_⟩; gi_at_call 28; refine ((CallsIn.inRound l0 (callsIn_wide.2 HIS.out)).mono ?_); rintro e w1 ⟨rfl, rfl⟩) | (refine ⟨trivial, ?_⟩; gi_at_call 29; refine ((CallsIn.inRound l0 (callsIn_wide.2 HIK.out)).mono ?_); rintro e w1 ⟨rfl, rfl⟩))
        exact (show KeepsFrom W4.heap.size Wd _ ∧ ((Code.ret = Code.ret ∧ ∃ p ∈ pre ++ [x], colOk p = false) ∧ Blk _ N 4 [Value.bool false] ∧ Below N W _) from ⟨(KeepsOthers.setCell _ _ _).from _, ⟨rfl, x, by simp, HBADX.out⟩, HB0.out.store 0 (.bool false), HBEL.out.setCell (p := ⟨N, 0, none⟩) (Nat.le_refl _) _⟩)
    · rw [Bool.not_eq_true] at hname
      rw [hname] at his
      have hcol : colOk x = false := by unfold colOk; rw [hname, Bool.false_and]
      have HBADX := Lib.hid hcol
      have HIS := Lib.hid his
      have HIK := Lib.hid hik
      clear his hik hname hcol
      gi_wp2_with (first | (refine ⟨trivial, ?_⟩; gi_at_call 28; refine ((CallsIn.inRound l0 (callsIn_wide.2 HIS.out)).mono ?_); rintro e w1 ⟨rfl, rfl⟩) | (refine ⟨trivial, ?_⟩; gi_at_call 29; refine ((CallsIn.inRound l0 (callsIn_wide.2 HIK.out)).mono ?_); rintro e w1 ⟨rfl, rfl⟩) | (refine ⟨trivial, ?_⟩))
      exact (show KeepsFrom W4.heap.size Wd _ ∧ ((Code.ret = Code.ret ∧ ∃ p ∈ pre ++ [x], colOk p = false) ∧ Blk _ N 4 [Value.bool false] ∧ Below N W _) from ⟨(KeepsOthers.setCell _ _ _).from _, ⟨rfl, x, by simp, HBADX.out⟩, HB0.out.store 0 (.bool false), HBEL.out.setCell (p := ⟨N, 0, none⟩) (Nat.le_refl _) _⟩)
  case done =>
    rintro D ys Wd hD rfl ⟨⟨hb0, hb2, hb3⟩, hm, hok, hB⟩ hK
    have hc2 : Wd.cell? ⟨N + 2, 0, none⟩ = some (.map (some (N + 1))) := (hb2.at_ 0).trans rfl
    have hcr : Wd.cell? ⟨N, 0, none⟩ = some (.bool false) := (hb0.at_ 0).trans rfl
    have hfr := hb0.free 0
    have hlen := hm.len Tryd.underlying59 3
    obtain ⟨z, hz⟩ : ∃ z, Maps.size (setOf (.agg [] : DataW Unit) (ys.map keyN)) = z := ⟨_, rfl⟩
    rw [hz] at hlen
    have hzn : z = n ↔ (namesL ys).Nodup := by rw [← hz, ← size_names (H := Unit) ys, HLN.out]
    have hrt := rightC_all HH1.out hok
    have HB0 := Lib.hid hb0
    have HB := Lib.hid hB
    have HK := Lib.hid hK
    by_cases hd : z = n
    · rw [decide_eq_true (hzn.1 hd)] at hrt
      have HRT := Lib.hid hrt
      have hzi : ((z : Int) == (n : Int)) = true := by rw [hd]; simp
      clear hb0 hb2 hb3 hm hok hB hK hz hzn hrt hd
      gi_wp2
      have hs1 : Sole N Wd (Wd.setCell ⟨N, 0, none⟩ (.bool true)) := (Sole.refl N Wd).setCell 0 _
      have k0 := HB0.out.store 0 (.bool true)
      have kB := hs1.below HB.out (by omega)
      have kD := (hs1.block D (by omega)).trans HK.out
      generalize Wd.setCell ⟨N, 0, none⟩ (.bool true) = W6 at k0 kB kD
      have hcr2 : (W6.putObj D (Obj.deferred none)).cell? ⟨N, 0, none⟩ = some (.bool true) := (Blk.at_ (show Blk (W6.putObj D (Obj.deferred none)) N 4 _ from (World.putObj_heap_other (by omega)).trans k0) 0).trans rfl
      have hB2 : Below N W (W6.putObj D (Obj.deferred none)) := kB.trans (belowK_b (w := W) (by omega) W6 D _ _ (by omega) kD rfl rfl)
      refine ⟨by simp, .inl ⟨_, _, rfl, run_takeDeferred kD, ?_⟩⟩
      refine ⟨.bool true, ?_, by rw [HRT.out], hB2⟩
      clear k0 kB kD hs1 HB0 HB HK
      rw [results_cell1 rfl]
      go_simp
    · rw [decide_eq_false (fun h => hd (hzn.2 h))] at hrt
      have HRT := Lib.hid hrt
      have hzi : ((z : Int) == (n : Int)) = false := by rw [beq_eq_false_iff_ne]; omega
      clear hb0 hb2 hb3 hm hok hB hK hz hzn hrt hd
      gi_wp2
      have hs1 : Sole N Wd (Wd.setCell ⟨N, 0, none⟩ (.bool false)) := (Sole.refl N Wd).setCell 0 _
      have k0 := HB0.out.store 0 (.bool false)
      have kB := hs1.below HB.out (by omega)
      have kD := (hs1.block D (by omega)).trans HK.out
      generalize Wd.setCell ⟨N, 0, none⟩ (.bool false) = W6 at k0 kB kD
      have hcr2 : (W6.putObj D (Obj.deferred none)).cell? ⟨N, 0, none⟩ = some (.bool false) := (Blk.at_ (show Blk (W6.putObj D (Obj.deferred none)) N 4 _ from (World.putObj_heap_other (by omega)).trans k0) 0).trans rfl
      have hB2 : Below N W (W6.putObj D (Obj.deferred none)) := kB.trans (belowK_b (w := W) (by omega) W6 D _ _ (by omega) kD rfl rfl)
      refine ⟨by simp, .inl ⟨_, _, rfl, run_takeDeferred kD, ?_⟩⟩
      refine ⟨.bool false, ?_, by rw [HRT.out], hB2⟩
      clear k0 kB kD hs1 HB0 HB HK
      rw [results_cell1 rfl]
      go_simp
  case stop =>
    rintro D c pre Wd hD hpre ⟨⟨rfl, p, hp, hpM⟩, hb0, hB⟩ hK
    have hrt := rightC_col (hpre.subset hp) hpM
    have hcr : (Wd.putObj D (Obj.deferred none)).cell? ⟨N, 0, none⟩ = some (.bool false) := (Blk.at_ (show Blk (Wd.putObj D (Obj.deferred none)) N 4 _ from (World.putObj_heap_other (by omega)).trans hb0) 0).trans rfl
    have hB2 : Below N W (Wd.putObj D (Obj.deferred none)) := hB.trans (belowK_b (w := W) (by omega) Wd D _ _ (by omega) hK rfl rfl)
    refine wpIn_ret ?_
    refine ⟨by simp, .inl ⟨_, _, rfl, run_takeDeferred hK, ?_⟩⟩
    refine ⟨.bool false, ?_, by rw [hrt], hB2⟩
    clear hb0 hB hK
    rw [results_cell1 rfl]
    go_simp
end Go.Proofs.YtabnjiepmhblaaaDoor
