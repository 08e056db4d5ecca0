/- The walk of slices.Delete of one message (49), of messages of the call's own. -/
import Derived.Test.YtplfigikjlfmjaaNetB
import Derived.Lib.SliceRun
namespace Go.Proofs.Ytplfigikjlfmjaa
open Go.RowKit Go.Lib
set_option linter.unusedVariables false

/-- A list with other values from a place on. -/
def spl (cs : List Value) : Nat → List Value → List Value
  | _, [] => cs
  | o, v :: r => spl (cs.set o v) (o + 1) r
theorem spl_length : ∀ (vs : List Value) (o : Nat) (cs : List Value), (spl cs o vs).length = cs.length
  | [], _, _ => rfl
  | v :: r, o, cs => by rw [spl, spl_length r]; simp
theorem spl_get : ∀ (vs : List Value) (o : Nat) (cs : List Value) (i : Nat), o + vs.length ≤ cs.length → (spl cs o vs)[i]? = if o ≤ i ∧ i < o + vs.length then vs[i - o]? else cs[i]?
  | [], o, cs, i, _ => by rw [if_neg (by simp)]; rfl
  | v :: r, o, cs, i, h => by
      simp only [List.length_cons] at h
      rw [spl, spl_get r (o + 1) (cs.set o v) i (by simp; omega)]
      simp only [List.length_cons]
      by_cases h1 : i = o
      · subst h1
        rw [if_neg (by omega), if_pos (by omega), Nat.sub_self]
        simp [show i < cs.length by omega]
      · by_cases h2 : o + 1 ≤ i ∧ i < o + 1 + r.length
        · rw [if_pos h2, if_pos (by omega), show i - o = i - (o + 1) + 1 by omega, List.getElem?_cons_succ]
        · rw [if_neg h2, if_neg (by omega), List.getElem?_set_ne (fun e => h1 e.symm)]
theorem Blk.stores {g : Nat} {t : TypeId} : ∀ (vs : List Value) (o : Nat) (cs : List Value) (w : World), Blk w g t cs → Blk (w.setCells g o vs) g t (spl cs o vs)
  | [], _, _, _, h => h
  | v :: r, o, cs, w, h => Blk.stores r (o + 1) (cs.set o v) _ (h.store o v)
theorem setCells_grown (g : Nat) : ∀ (vs : List Value) (o : Nat) (w : World), w.grownBy (w.setCells g o vs) (some g)
  | [], _, w => ⟨rfl, rfl, rfl, Nat.le_refl _, fun _ _ _ => rfl⟩
  | v :: r, o, w => by
      have h := setCells_grown g r (o + 1) (w.setCell ⟨g, o, none⟩ v)
      refine ⟨h.os.trans rfl, h.tape.trans rfl, h.output.trans rfl, Nat.le_trans (by simp [World.setCell]) h.size, fun k hk hne => (h.block k (by simpa [World.setCell] using hk) hne).trans ?_⟩
      exact Below.heap_setCell _ _ _ _ (by intro e; subst e; exact hne rfl)
theorem grown_trans {a b c : World} {row : Option Nat} (h : a.grownBy b row) (k : b.grownBy c row) : a.grownBy c row :=
  ⟨k.os.trans h.os, k.tape.trans h.tape, k.output.trans h.output, Nat.le_trans h.size k.size, fun i hi hne => (k.block i (Nat.lt_of_lt_of_le hi h.size) hne).trans (h.block i hi hne)⟩
theorem blk_setCell_other {w : World} {g : Nat} {t : TypeId} {cs : List Value} (h : Blk w g t cs) (a : Addr) (v : Value) (hne : g ≠ a.block) : Blk (w.setCell a v) g t cs := (Below.heap_setCell _ _ _ _ hne).trans h
/-- clear(s) of one element whose zero value has several cells. -/
theorem run_clear_one (w : World) (t e ty : TypeId) (z : Value) (ht : Try.prog.underlying t = some (.slice e)) (hv : ∀ w, (zeroValue e).run Try.prog w = .ok z w) (b o c : Nat) (cs : List Value) (hb : Blk w b e cs) (ho : o + z.cells.size ≤ cs.length)
    (h1 : ∀ u ∈ z.cells.toList, u.oneCell' = true) : (Builtin.clear_ #[t] ty #[.slice (some ⟨b, o, none⟩) 1 c]).run Try.prog w = .ok (.tuple #[]) (w.setCells b o z.cells.toList) := by
  have hzc : (Builtin.zeroCells z.cells 1).toList = z.cells.toList := by
    apply List.ext_getElem
    · simp [Builtin.zeroCells]
    · intro i h1 h2
      simp [Builtin.zeroCells] at h1 h2 ⊢
      rw [Nat.mod_eq_of_lt h1]
      simp [h1]
  have hst := run_storeCells_cells (P := Try.prog) b o z.cells.toList 0 w (fun j hj => by rw [Nat.add_zero, hb.at_, List.getElem?_eq_getElem (by simp at hj; omega)]; rfl) (fun j hj => hb.free _) h1
  simp only [Nat.add_zero] at hst
  simp [Builtin.clear_, run_underlying ht, hv, hzc, hst]
def msg0 : List Value := [.int .i64 0, .int .i64 0, .string ⟨#[]⟩]
theorem zero57 (w : World) : (zeroValue 41).run Try.prog w = .ok (.agg #[.int .i64 0, .int .i64 0, .string ⟨#[]⟩]) w := by
  have h : Try.t41.zero = some (.agg #[.int .i64 0, .int .i64 0, .string ⟨#[]⟩]) := by kernel_rfl
  simp [zeroValue, h]

set_option maxHeartbeats 4000000 in
set_option maxRecDepth 1000000 in
theorem delete_any (g k cap i : Nat) (cs : List Value) (w : World) (hb : Blk w g 41 cs) (hcs : cs.length = cap * 3) (hkc : k ≤ cap) (hcap : cap ≤ maxLen) (hi : i < k) (hone : ∀ u ∈ cs.take (k * 3), u.oneCell' = true) :
    Calls Try.prog 29 #[.slice (some ⟨g, 0, none⟩) k cap, .int .i64 i, .int .i64 ((i + 1 : Nat) : Int)] w fun e w' => e = .returned (.slice (some ⟨g, 0, none⟩) (k - 1) cap) ∧
      ∃ cs', Blk w' g 41 cs' ∧ cs'.length = cap * 3 ∧ cs'.take ((k - 1) * 3) = cs.take (i * 3) ++ (cs.take (k * 3)).drop ((i + 1) * 3) ∧ w.grownBy w' (some g) := by
  obtain ⟨i0, hti, hz0, hz1, hz2⟩ := info_parts Try.info41
  unfold maxLen at hcap
  obtain ⟨j, hj⟩ : ∃ j, j = i + 1 := ⟨_, rfl⟩
  rw [← hj]
  obtain ⟨news, hnews⟩ : ∃ news, news = (cs.take (k * 3)).drop (j * 3) := ⟨_, rfl⟩
  have hlen : news.length = (k - j) * 3 := by rw [hnews]; simp; omega
  have hget : ∀ t, t < (k - j) * 3 → news[t]? = cs[j * 3 + t]? := by
    intro t ht
    rw [hnews, List.getElem?_drop, List.getElem?_take, if_pos (by omega)]
  have hd : Blk w.drew g 41 cs := hb
  obtain ⟨A, hA, hsrc⟩ : ∃ A : Addr, (if cap = j then some (⟨g, 0, none⟩ : Addr) else some ⟨g, j * 3, none⟩) = some A ∧ Hid (∀ t u, news[t]? = some u → w.drew.cell? (A.add t) = some u) := by
    by_cases h : cap = j
    · refine ⟨⟨g, 0, none⟩, by simp [h], fun t u hu => ?_⟩
      have h0 : news.length = 0 := by rw [hlen]; omega
      rw [List.length_eq_zero_iff.1 h0] at hu
      simp at hu
    · refine ⟨⟨g, j * 3, none⟩, by simp [h], fun t u hu => ?_⟩
      have ht : t < (k - j) * 3 := by
        have := (List.getElem?_eq_some_iff.1 hu).1
        rwa [hlen] at this
      rw [hget t ht] at hu
      rw [Addr.add_lit, hd.at_]
      exact hu
  have s1 : Hid (news.length = (k - j) * 3) := hlen
  have s2 : Hid (∀ u ∈ news, u.oneCell' = true) := by
    intro u hu
    rw [hnews] at hu
    exact hone u (List.mem_of_mem_drop hu)
  have s3 : Hid (∀ t, t < news.length → (w.drew.cell? ⟨g, 0 + i * 3 + t, none⟩).isSome = true ∧ w.drew.frozen? ⟨g, 0 + i * 3 + t, none⟩ = false) := by
    intro t ht
    rw [hlen] at ht
    exact ⟨by rw [hd.at_, List.getElem?_eq_getElem (by omega)]; rfl, hd.free _⟩
  obtain ⟨W1, hW1⟩ : ∃ W1, W1 = w.drew.setCells g (0 + i * 3) news := ⟨_, rfl⟩
  have hb1 : Blk W1 g 41 (spl cs (i * 3) news) := by rw [hW1, Nat.zero_add]; exact hd.stores news (i * 3) cs
  have hcl : ∀ ty, (Builtin.clear_ #[35] ty #[.slice (some ⟨g, (i + (k - j)) * 3, none⟩) (k - (i + (k - j))) (cap - (i + (k - j)))]).run Try.prog W1 = .ok (.tuple #[]) (W1.setCells g ((i + (k - j)) * 3) msg0) := by
    intro ty
    rw [show k - (i + (k - j)) = 1 by omega]
    exact run_clear_one W1 35 41 ty _ Try.underlying35 (fun w => zero57 w) g _ _ _ hb1 (by rw [spl_length, hcs]; simp [Value.cells, go_sem]; omega) (by intro u hu; simp [Value.cells, go_sem] at hu; rcases hu with rfl | rfl | rfl <;> rfl)
  have hW : Hid (W1 = w.drew.setCells g (0 + i * 3) news) := hW1
  have X : Hid (Blk W1 g 41 (spl cs (i * 3) news)) := hb1
  have Y : Hid (news = (cs.take (k * 3)).drop (j * 3)) := hnews
  have hij : i < j := by omega
  have hjk : j ≤ k := by omega
  have Z : Hid (j = i + 1) := hj
  have hic : i ≤ cap := by omega
  have hjc : j ≤ cap := by omega
  clear hj hW1 hb1 hb hd hget hnews hlen hone
  go_enter Try.func29, Try.ntmps29
  go_wp2_with fail
  go_region_law (refine step_append_room rfl (.tmp 22) (.tmp 25) 35 rfl 41 i0 3 Try.underlying35 hti hz1 g 0 i cap (by simp [Act.eval, Act.put]) A (k - j) (cap - j) news (by simp [Act.eval, Act.put]) s1.out hsrc.out s2.out (by omega) s3.out ?_; rw [← hW.out])
  go_wp2
  go_ret
  have hj := Z.out
  refine ⟨by rw [show k - 1 = i + (k - j) by omega]; rfl, spl (spl cs (i * 3) news) ((i + (k - j)) * 3) msg0, X.out.stores _ _ _, by rw [spl_length, spl_length, hcs], ?_, ?_⟩
  · have hlen := s1.out
    have hnews := Y.out
    apply List.ext_getElem?
    intro t
    rw [List.getElem?_take]
    have l1 : (cs.take (i * 3)).length = i * 3 := by simp; omega
    have l2' : ((cs.take (k * 3)).drop (j * 3)).length = (k - j) * 3 := by simp; omega
    have l3 : msg0.length = 3 := rfl
    by_cases ht : t < (k - 1) * 3
    · rw [if_pos ht, spl_get _ _ _ _ (by rw [spl_length, hcs, l3]; omega), if_neg (by omega), spl_get _ _ _ _ (by rw [hcs, hlen]; omega)]
      by_cases h1 : t < i * 3
      · rw [if_neg (by omega), List.getElem?_append_left (by omega), List.getElem?_take, if_pos h1]
      · rw [if_pos (by rw [hlen]; omega), List.getElem?_append_right (by omega), l1, hnews, hj]
    · rw [if_neg ht, List.getElem?_eq_none (by simp; omega)]
  · have h1 : w.grownBy W1 (some g) := by
      rw [hW.out]
      exact grown_trans (b := w.drew) ⟨rfl, rfl, rfl, Nat.le_refl _, fun _ _ _ => rfl⟩ (setCells_grown g news (0 + i * 3) w.drew)
    exact grown_trans h1 (setCells_grown g msg0 _ W1)

set_option maxHeartbeats 1000000 in
set_option maxRecDepth 1000000 in
theorem take_any_net (w0 : World) (g : Nat) (v : Value) (k : Nat) (xs : List Value) (n lost : Int) (cut : List Value) (i : Nat) (x y : Int) (s : ByteArray) (w : World) (h : IsNet w0 w g v k xs n lost cut) (hn : 1 ≤ n) (hi : i < k)
    (c0 : xs[i * 3]? = some (.int .i64 x)) (c1 : xs[i * 3 + 1]? = some (.int .i64 y)) (c2 : xs[i * 3 + 2]? = some (.string s)) (hone : ∀ u ∈ xs, u.oneCell' = true) :
    Calls Try.prog 14 #[.pointer (some ⟨g, 0, none⟩), .int .i64 i] w fun e w' => e = .returned (.tuple #[.agg #[.int .i64 x, .int .i64 y, .string s], .bool true]) ∧
      ∃ v', IsNet w0 w' g v' (k - 1) (xs.take (i * 3) ++ xs.drop ((i + 1) * 3)) n lost cut := by
  obtain ⟨g', cap, cur, rfl, hg0, hg', hkc, hcap, hsz, htk⟩ : ∃ g' cap cur, v = .slice (some ⟨g', 0, none⟩) k cap ∧ w0.heap.size ≤ g' ∧ w.heap[g']? = some (.cells cur 41 (0, 0)) ∧ k ≤ cap ∧ cap ≤ maxLen ∧ cur.size = cap * 3 ∧ cur.toList.take (k * 3) = xs := by
    rcases h.own.2 with ⟨_, hk⟩ | hr
    · omega
    · exact hr
  have hB : Blk w g' 41 cur.toList := by simpa [Blk] using hg'
  have hgw := lt_of_block h.blk
  have hgw' := lt_of_block hB
  have hge : ∀ t u, t < k * 3 → xs[t]? = some u → cur.toList[t]? = some u := by
    intro t u ht hu
    rw [← htk, List.getElem?_take, if_pos ht] at hu
    exact hu
  have hlook : ∀ w1, Below w.heap.size w w1 → Calls Try.prog 11 #[.pointer (some ⟨g, 0, none⟩), .int .i64 i] w1 fun e w' => e = .returned (.tuple #[.agg #[.int .i64 x, .int .i64 y, .string s], .bool true]) ∧ Below w1.heap.size w1 w' := by
    intro w1 hb
    have h1 := h.later hb
    have hB1 := hB.below hb hgw'
    exact look_yes g k cap i n g' 0 x y s w1 (by rw [h1.blk.at_]; rfl) (by rw [h1.blk.at_]; rfl) hn hi hkc (by rw [Nat.zero_add, hB1.at_]; exact hge _ _ (by omega) c0) (by rw [Nat.zero_add, hB1.at_]; exact hge _ _ (by omega) c1) (by rw [Nat.zero_add, hB1.at_]; exact hge _ _ (by omega) c2)
  have hwr : wrap64 ((i : Int) + 1) = ((i + 1 : Nat) : Int) := by
    unfold maxLen at hcap
    simp only [wrap64]
    omega
  have hdel : ∀ w1, Below w.heap.size w w1 → Calls Try.prog 29 #[.slice (some ⟨g', 0, none⟩) k cap, .int .i64 i, .int .i64 (wrap64 ((i : Int) + 1))] w1 fun e w' => e = .returned (.slice (some ⟨g', 0, none⟩) (k - 1) cap) ∧
      ∃ cs', Blk w' g' 41 cs' ∧ cs'.length = cap * 3 ∧ cs'.take ((k - 1) * 3) = cur.toList.take (i * 3) ++ (cur.toList.take (k * 3)).drop ((i + 1) * 3) ∧ w1.grownBy w' (some g') :=
    fun w1 hb => by
      rw [hwr]
      exact delete_any g' k cap i cur.toList w1 (hB.below hb hgw') (by simpa using hsz) hkc hcap hi (by rw [htk]; exact hone)
  have hbw : Below w.heap.size w (w.alloc (Obj.cells #[Value.int IntKind.i64 0, Value.int IntKind.i64 0, Value.string { data := #[] }] 41)) := (Below.refl _ _).alloc (Nat.le_refl _) _
  have hlk := Lib.hid (hlook _ hbw)
  have H := Lib.hid h
  have hcap' := Lib.hid hcap
  have HE := Lib.hid hge
  have HT := Lib.hid htk
  have HD := Lib.hid hdel
  have HB := Lib.hid hbw
  have HO := Lib.hid hone
  have C := Lib.hid (And.intro c0 (And.intro c1 c2))
  clear hwr hlook hdel hbw hone hcap hge htk hg' hB h c0 c1 c2 hsz
  go_enter Try.func14, Try.ntmps14
  have hgs : g' ≠ g := by
    intro e
    subst e
    exact IsNet.ne H.out rfl
  go_wp2_with (first | (go_at_call 11; refine hlk.out.mono ?_; rintro e w2 ⟨rfl, hb2⟩; have hs2 : w.heap.size < w2.heap.size := (by have := hb2.size; simp at this; omega); have hb3 : Below w.heap.size w (w2.alloc (Obj.cells #[Value.int IntKind.i64 x, Value.int IntKind.i64 y, Value.string s] 41)) := (HB.out.trans (hb2.mono HB.out.size)).alloc (Nat.le_of_lt hs2) _; have gc : (w2.alloc (Obj.cells #[Value.int IntKind.i64 x, Value.int IntKind.i64 y, Value.string s] 41)).cell? ⟨g, 0, none⟩ = some (.slice (some ⟨g', 0, none⟩) k cap) := (by rw [(H.out.later hb3).blk.at_]; rfl); have hdl := Lib.hid (HD.out _ hb3); have hB2 : Blk (w2.alloc (Obj.cells #[Value.int IntKind.i64 x, Value.int IntKind.i64 y, Value.string s] 41)) w.heap.size 41 [.int .i64 0, .int .i64 0, .string ⟨#[]⟩] := ((Blk.born w 41 [.int .i64 0, .int .i64 0, .string ⟨#[]⟩]).below hb2 (by simp)).later _; have hB3 := Blk.born w2 41 (msgC x y s)) | (go_at_call 29; refine hdl.out.mono ?_; rintro e w4 ⟨rfl, cs', hB4, hl4, ht4, hg4⟩; have hB5 : Blk w4 w.heap.size 41 [.int .i64 0, .int .i64 0, .string ⟨#[]⟩] := (hg4.block _ (lt_of_block hB2) (by simp; omega)).trans hB2; have hB6 : Blk w4 w2.heap.size 41 (msgC x y s) := (hg4.block _ (lt_of_block hB3) (by simp; omega)).trans hB3; have hB7 : Blk w4 g 55 _ := (hg4.block g (lt_of_block (H.out.later hb3).blk) (by simp; omega)).trans (H.out.later hb3).blk; have c70 : w4.cell? ⟨g, 0, none⟩ = some (.slice (some ⟨g', 0, none⟩) k cap) := hB7.at_ 0; have c60 : w4.cell? ⟨w2.heap.size, 0, none⟩ = some (.int .i64 x) := hB6.at_ 0; have c61 : w4.cell? ⟨w2.heap.size, 1, none⟩ = some (.int .i64 y) := hB6.at_ 1; have c62 : w4.cell? ⟨w2.heap.size, 2, none⟩ = some (.string s) := hB6.at_ 2; have c50 : w4.cell? ⟨w.heap.size, 0, none⟩ = some (.int .i64 0) := hB5.at_ 0; have c51 : w4.cell? ⟨w.heap.size, 1, none⟩ = some (.int .i64 0) := hB5.at_ 1; have c52 : w4.cell? ⟨w.heap.size, 2, none⟩ = some (.string ⟨#[]⟩) := hB5.at_ 2; have f70 := hB7.free 0; have f50 := hB5.free 0; have f51 := hB5.free 1; have f52 := hB5.free 2; have HH := Lib.hid (And.intro hB4 (And.intro hB5 hB7)); clear hB5 hB6 hB7 hB2 hB3 hB4))
  obtain ⟨hB4, hB5, hB7⟩ := HH.out
  obtain ⟨v4, hv4⟩ : ∃ v4, v4 = Value.slice (some ⟨g', 0, none⟩) (k - 1) cap := ⟨_, rfl⟩
  obtain ⟨W, hWd⟩ : ∃ W, W = (((w4.setCell ⟨g, 0, none⟩ v4).setCell ⟨w.heap.size, 0, none⟩ (.int .i64 x)).setCell ⟨w.heap.size, 1, none⟩ (.int .i64 y)).setCell ⟨w.heap.size, 2, none⟩ (.string s) := ⟨_, rfl⟩
  have hW5 : Blk W w.heap.size 41 [.int .i64 x, .int .i64 y, .string s] := by
    rw [hWd]
    exact (((blk_setCell_other hB5 ⟨g, 0, none⟩ v4 (by show w.heap.size ≠ g; omega)).store 0 (.int .i64 x)).store 1 (.int .i64 y)).store 2 (.string s)
  have hW7 : Blk W g 55 (NetC v4 n cut lost) := by
    rw [hWd]
    exact blk_setCell_other (blk_setCell_other (blk_setCell_other (hB7.store 0 v4) _ _ (by show g ≠ w.heap.size; omega)) _ _ (by show g ≠ w.heap.size; omega)) _ _ (by show g ≠ w.heap.size; omega)
  have hW4 : Blk W g' 41 cs' := by
    rw [hWd]
    exact blk_setCell_other (blk_setCell_other (blk_setCell_other (blk_setCell_other hB4 _ _ (by show g' ≠ g; exact hgs)) _ _ (by show g' ≠ w.heap.size; omega)) _ _ (by show g' ≠ w.heap.size; omega)) _ _ (by show g' ≠ w.heap.size; omega)
  have hN : IsNet w0 W g v4 (k - 1) (xs.take (i * 3) ++ xs.drop ((i + 1) * 3)) n lost cut := by
    have hxl := H.out.own.1
    refine ⟨hW7, H.out.len, ⟨?_, .inr ⟨g', cap, cs'.toArray, hv4, hg0, hW4, by omega, hcap'.out, by simpa using hl4, ?_⟩⟩, ?_, H.out.here⟩
    · simp; omega
    · have hT := HT.out
      show cs'.take ((k - 1) * 3) = _
      rw [ht4, hT, ← hT, List.take_take, Nat.min_eq_left (by omega)]
    · have hs0 := H.out.bel.size
      rw [hWd]
      refine ((((H.out.bel.trans (hb3.mono hs0)).grown hg4 (Nat.le_trans hs0 hb3.size) ?_).setCell H.out.here v4).setCell hs0 _ |>.setCell hs0 _).setCell hs0 _
      intro j hj
      simp only [Option.some.injEq] at hj
      omega
  rw [← hv4, ← hWd]
  have e0 : W.cell? ⟨w.heap.size, 0, none⟩ = some (.int .i64 x) := hW5.at_ 0
  have e1 : W.cell? ⟨w.heap.size, 1, none⟩ = some (.int .i64 y) := hW5.at_ 1
  have e2 : W.cell? ⟨w.heap.size, 2, none⟩ = some (.string s) := hW5.at_ 2
  exact bodyPost_ret (v := .tuple #[.agg #[.int .i64 x, .int .i64 y, .string s], .bool true]) (by simp [results, Try.results14, go_sem, e0, e1, e2]) rfl ⟨rfl, v4, hN⟩
end Go.Proofs.Ytplfigikjlfmjaa
