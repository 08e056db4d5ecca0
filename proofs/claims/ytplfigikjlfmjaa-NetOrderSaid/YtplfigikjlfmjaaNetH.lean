/- The walks of Take (14) with what it leaves alone, and of Look and Take where no message is. -/
import Derived.Test.YtplfigikjlfmjaaNetG
namespace Go.Proofs.Ytplfigikjlfmjaa
open Go.RowKit Go.Lib
set_option linter.unusedVariables false

set_option maxHeartbeats 1000000 in
set_option maxRecDepth 1000000 in
theorem take_anyF (w0 : World) (g : Nat) (v : Value) (k : Nat) (xs : List Value) (n lost : Int) (cut : List Value) (i : Nat) (x y : Int) (s : ByteArray) (w : World) (h : IsNet w0 w g v k xs n lost cut) (hn : 1 ≤ n) (hi : i < k)
    (c0 : xs[i * 3]? = some (.int .i64 x)) (c1 : xs[i * 3 + 1]? = some (.int .i64 y)) (c2 : xs[i * 3 + 2]? = some (.string s)) (hone : ∀ u ∈ xs, u.oneCell' = true) :
    Calls Try.prog 14 #[.pointer (some ⟨g, 0, none⟩), .int .i64 i] w fun e w' => e = .returned (.tuple #[.agg #[.int .i64 x, .int .i64 y, .string s], .bool true]) ∧
      ∃ v', IsNet w0 w' g v' (k - 1) (xs.take (i * 3) ++ xs.drop ((i + 1) * 3)) n lost cut ∧ Fr w w' g v v' := by
  obtain ⟨g', cap, cur, rfl, hg0, hg', hkc, hcap, hsz, htk⟩ : ∃ g' cap cur, v = .slice (some ⟨g', 0, none⟩) k cap ∧ w0.heap.size ≤ g' ∧ w.heap[g']? = some (.cells cur 41 (0, 0)) ∧ k ≤ cap ∧ cap ≤ maxLen ∧ cur.size = cap * 3 ∧ cur.toList.take (k * 3) = xs := by
    rcases h.own.2 with ⟨_, hk⟩ | hr
    · omega
    · exact hr
  have hB : Blk w g' 41 cur.toList := by simpa [Blk] using hg'
  have hgw := lt_of_block h.blk
  have hgw' := lt_of_block hB
  have hge : ∀ t u, t < k * 3 → xs[t]? = some u → cur.toList[t]? = some u := by
    intro t u ht hu
    rw [← htk, List.getElem?_take, if_pos ht] at hu
    exact hu
  have hlook : ∀ w1, Below w.heap.size w w1 → Calls Try.prog 11 #[.pointer (some ⟨g, 0, none⟩), .int .i64 i] w1 fun e w' => e = .returned (.tuple #[.agg #[.int .i64 x, .int .i64 y, .string s], .bool true]) ∧ Below w1.heap.size w1 w' := by
    intro w1 hb
    have h1 := h.later hb
    have hB1 := hB.below hb hgw'
    exact look_yes g k cap i n g' 0 x y s w1 (by rw [h1.blk.at_]; rfl) (by rw [h1.blk.at_]; rfl) hn hi hkc (by rw [Nat.zero_add, hB1.at_]; exact hge _ _ (by omega) c0) (by rw [Nat.zero_add, hB1.at_]; exact hge _ _ (by omega) c1) (by rw [Nat.zero_add, hB1.at_]; exact hge _ _ (by omega) c2)
  have hwr : wrap64 ((i : Int) + 1) = ((i + 1 : Nat) : Int) := by
    unfold maxLen at hcap
    simp only [wrap64]
    omega
  have hdel : ∀ w1, Below w.heap.size w w1 → Calls Try.prog 29 #[.slice (some ⟨g', 0, none⟩) k cap, .int .i64 i, .int .i64 (wrap64 ((i : Int) + 1))] w1 fun e w' => e = .returned (.slice (some ⟨g', 0, none⟩) (k - 1) cap) ∧
      ∃ cs', Blk w' g' 41 cs' ∧ cs'.length = cap * 3 ∧ cs'.take ((k - 1) * 3) = cur.toList.take (i * 3) ++ (cur.toList.take (k * 3)).drop ((i + 1) * 3) ∧ w1.grownBy w' (some g') :=
    fun w1 hb => by
      rw [hwr]
      exact delete_any g' k cap i cur.toList w1 (hB.below hb hgw') (by simpa using hsz) hkc hcap hi (by rw [htk]; exact hone)
  have hbw : Below w.heap.size w (w.alloc (Obj.cells #[Value.int IntKind.i64 0, Value.int IntKind.i64 0, Value.string { data := #[] }] 41)) := (Below.refl _ _).alloc (Nat.le_refl _) _
  have hlk := Lib.hid (hlook _ hbw)
  have H := Lib.hid h
  have hcap' := Lib.hid hcap
  have HE := Lib.hid hge
  have HT := Lib.hid htk
  have HD := Lib.hid hdel
  have HB := Lib.hid hbw
  have HO := Lib.hid hone
  have C := Lib.hid (And.intro c0 (And.intro c1 c2))
  clear hwr hlook hdel hbw hone hcap hge htk hg' hB h c0 c1 c2 hsz
  go_enter Try.func14, Try.ntmps14
  have hgs : g' ≠ g := by
    intro e
    subst e
    exact IsNet.ne H.out rfl
  go_wp2_with (first | (go_at_call 11; refine hlk.out.mono ?_; rintro e w2 ⟨rfl, hb2⟩; have hs2 : w.heap.size < w2.heap.size := (by have := hb2.size; simp at this; omega); have hb3 : Below w.heap.size w (w2.alloc (Obj.cells #[Value.int IntKind.i64 x, Value.int IntKind.i64 y, Value.string s] 41)) := (HB.out.trans (hb2.mono HB.out.size)).alloc (Nat.le_of_lt hs2) _; have gc : (w2.alloc (Obj.cells #[Value.int IntKind.i64 x, Value.int IntKind.i64 y, Value.string s] 41)).cell? ⟨g, 0, none⟩ = some (.slice (some ⟨g', 0, none⟩) k cap) := (by rw [(H.out.later hb3).blk.at_]; rfl); have hdl := Lib.hid (HD.out _ hb3); have hB2 : Blk (w2.alloc (Obj.cells #[Value.int IntKind.i64 x, Value.int IntKind.i64 y, Value.string s] 41)) w.heap.size 41 [.int .i64 0, .int .i64 0, .string ⟨#[]⟩] := ((Blk.born w 41 [.int .i64 0, .int .i64 0, .string ⟨#[]⟩]).below hb2 (by simp)).later _; have hB3 := Blk.born w2 41 (msgC x y s)) | (go_at_call 29; refine hdl.out.mono ?_; rintro e w4 ⟨rfl, cs', hB4, hl4, ht4, hg4⟩; have hB5 : Blk w4 w.heap.size 41 [.int .i64 0, .int .i64 0, .string ⟨#[]⟩] := (hg4.block _ (lt_of_block hB2) (by simp; omega)).trans hB2; have hB6 : Blk w4 w2.heap.size 41 (msgC x y s) := (hg4.block _ (lt_of_block hB3) (by simp; omega)).trans hB3; have hB7 : Blk w4 g 55 _ := (hg4.block g (lt_of_block (H.out.later hb3).blk) (by simp; omega)).trans (H.out.later hb3).blk; have c70 : w4.cell? ⟨g, 0, none⟩ = some (.slice (some ⟨g', 0, none⟩) k cap) := hB7.at_ 0; have c60 : w4.cell? ⟨w2.heap.size, 0, none⟩ = some (.int .i64 x) := hB6.at_ 0; have c61 : w4.cell? ⟨w2.heap.size, 1, none⟩ = some (.int .i64 y) := hB6.at_ 1; have c62 : w4.cell? ⟨w2.heap.size, 2, none⟩ = some (.string s) := hB6.at_ 2; have c50 : w4.cell? ⟨w.heap.size, 0, none⟩ = some (.int .i64 0) := hB5.at_ 0; have c51 : w4.cell? ⟨w.heap.size, 1, none⟩ = some (.int .i64 0) := hB5.at_ 1; have c52 : w4.cell? ⟨w.heap.size, 2, none⟩ = some (.string ⟨#[]⟩) := hB5.at_ 2; have f70 := hB7.free 0; have f50 := hB5.free 0; have f51 := hB5.free 1; have f52 := hB5.free 2; have HH := Lib.hid (And.intro hB4 (And.intro hB5 hB7)); clear hB5 hB6 hB7 hB2 hB3 hB4))
  obtain ⟨hB4, hB5, hB7⟩ := HH.out
  obtain ⟨v4, hv4⟩ : ∃ v4, v4 = Value.slice (some ⟨g', 0, none⟩) (k - 1) cap := ⟨_, rfl⟩
  obtain ⟨W, hWd⟩ : ∃ W, W = (((w4.setCell ⟨g, 0, none⟩ v4).setCell ⟨w.heap.size, 0, none⟩ (.int .i64 x)).setCell ⟨w.heap.size, 1, none⟩ (.int .i64 y)).setCell ⟨w.heap.size, 2, none⟩ (.string s) := ⟨_, rfl⟩
  have hW5 : Blk W w.heap.size 41 [.int .i64 x, .int .i64 y, .string s] := by
    rw [hWd]
    exact (((blk_setCell_other hB5 ⟨g, 0, none⟩ v4 (by show w.heap.size ≠ g; omega)).store 0 (.int .i64 x)).store 1 (.int .i64 y)).store 2 (.string s)
  have hW7 : Blk W g 55 (NetC v4 n cut lost) := by
    rw [hWd]
    exact blk_setCell_other (blk_setCell_other (blk_setCell_other (hB7.store 0 v4) _ _ (by show g ≠ w.heap.size; omega)) _ _ (by show g ≠ w.heap.size; omega)) _ _ (by show g ≠ w.heap.size; omega)
  have hW4 : Blk W g' 41 cs' := by
    rw [hWd]
    exact blk_setCell_other (blk_setCell_other (blk_setCell_other (blk_setCell_other hB4 _ _ (by show g' ≠ g; exact hgs)) _ _ (by show g' ≠ w.heap.size; omega)) _ _ (by show g' ≠ w.heap.size; omega)) _ _ (by show g' ≠ w.heap.size; omega)
  have hN : IsNet w0 W g v4 (k - 1) (xs.take (i * 3) ++ xs.drop ((i + 1) * 3)) n lost cut := by
    have hxl := H.out.own.1
    refine ⟨hW7, H.out.len, ⟨?_, .inr ⟨g', cap, cs'.toArray, hv4, hg0, hW4, by omega, hcap'.out, by simpa using hl4, ?_⟩⟩, ?_, H.out.here⟩
    · simp; omega
    · have hT := HT.out
      show cs'.take ((k - 1) * 3) = _
      rw [ht4, hT, ← hT, List.take_take, Nat.min_eq_left (by omega)]
    · have hs0 := H.out.bel.size
      rw [hWd]
      refine ((((H.out.bel.trans (hb3.mono hs0)).grown hg4 (Nat.le_trans hs0 hb3.size) ?_).setCell H.out.here v4).setCell hs0 _ |>.setCell hs0 _).setCell hs0 _
      intro j hj
      simp only [Option.some.injEq] at hj
      omega
  have hF : Fr w W g (Value.slice (some ⟨g', 0, none⟩) k cap) v4 := by
    refine ⟨?_, ?_, .inl (by rw [hv4]; rfl)⟩
    · have e1 := hb3.size
      have e2 := hg4.size
      rw [hWd]
      simp only [World.setCell, Array.size_modify]
      exact Nat.le_trans e1 e2
    · intro q hq h1 h2
      rw [hWd]
      rw [Below.heap_setCell _ _ _ _ (by show q ≠ w.heap.size; omega), Below.heap_setCell _ _ _ _ (by show q ≠ w.heap.size; omega), Below.heap_setCell _ _ _ _ (by show q ≠ w.heap.size; omega), Below.heap_setCell _ _ _ _ h1]
      exact (hg4.block q (Nat.lt_of_lt_of_le hq hb3.size) h2).trans (hb3.block q hq)
  rw [← hv4, ← hWd]
  have e0 : W.cell? ⟨w.heap.size, 0, none⟩ = some (.int .i64 x) := hW5.at_ 0
  have e1 : W.cell? ⟨w.heap.size, 1, none⟩ = some (.int .i64 y) := hW5.at_ 1
  have e2 : W.cell? ⟨w.heap.size, 2, none⟩ = some (.string s) := hW5.at_ 2
  exact bodyPost_ret (v := .tuple #[.agg #[.int .i64 x, .int .i64 y, .string s], .bool true]) (by simp [results, Try.results14, go_sem, e0, e1, e2]) rfl ⟨rfl, v4, hN, hF⟩

set_option maxHeartbeats 1000000 in
theorem has_no (g c : Nat) (A : Option Addr) (w : World) (hc : w.cell? ⟨g, 0, none⟩ = some (.slice A 0 c)) :
    Calls Try.prog 25 #[.pointer (some ⟨g, 0, none⟩), .int .i64 0] w fun e w' => e = .returned (.bool false) ∧ w = w' := by
  go_enter Try.func25, Try.ntmps25
  go_wp2
  go_ret
  exact ⟨rfl, rfl⟩
set_option maxHeartbeats 1000000 in
theorem look_no (g c : Nat) (n : Int) (A : Option Addr) (w : World) (hc : w.cell? ⟨g, 0, none⟩ = some (.slice A 0 c)) (hn : w.cell? ⟨g, 1, none⟩ = some (.int .i64 n)) (h1 : 1 ≤ n) :
    Calls Try.prog 11 #[.pointer (some ⟨g, 0, none⟩), .int .i64 0] w fun e w' => e = .returned (.tuple #[.agg #[.int .i64 0, .int .i64 0, .string ⟨#[]⟩], .bool false]) ∧ Below w.heap.size w w' := by
  have hbw : Below w.heap.size w (w.alloc (Obj.cells #[Value.int IntKind.i64 0, Value.int IntKind.i64 0, Value.string { data := #[] }] 41)) := (Below.refl _ _).alloc (Nat.le_refl _) _
  have hnil := isnil_some g n _ (cell_later hbw hn) h1
  have hhas := has_no g c A _ (cell_later hbw hc)
  clear hc hn h1
  go_enter Try.func11, Try.ntmps11
  go_wp2_with (first | (go_at_call 24; refine hnil.mono ?_; rintro e w2 ⟨rfl, rfl⟩) | (go_at_call 25; refine hhas.mono ?_; rintro e w2 ⟨rfl, rfl⟩))
  exact bodyPost_ret (v := .tuple #[.agg #[.int .i64 0, .int .i64 0, .string ⟨#[]⟩], .bool false]) (by simp [results, Try.results11, go_sem]) rfl ⟨rfl, by simpa using (Below.refl w.heap.size w).alloc (Nat.le_refl _) _⟩
set_option maxHeartbeats 1000000 in
theorem take_no (g c : Nat) (n : Int) (A : Option Addr) (w : World) (hc : w.cell? ⟨g, 0, none⟩ = some (.slice A 0 c)) (hn : w.cell? ⟨g, 1, none⟩ = some (.int .i64 n)) (h1 : 1 ≤ n) :
    Calls Try.prog 14 #[.pointer (some ⟨g, 0, none⟩), .int .i64 0] w fun e w' => e = .returned (.tuple #[.agg #[.int .i64 0, .int .i64 0, .string ⟨#[]⟩], .bool false]) ∧ Below w.heap.size w w' := by
  have hbw : Below w.heap.size w (w.alloc (Obj.cells #[Value.int IntKind.i64 0, Value.int IntKind.i64 0, Value.string { data := #[] }] 41)) := (Below.refl _ _).alloc (Nat.le_refl _) _
  have hlk := look_no g c n A _ (cell_later hbw hc) (cell_later hbw hn) h1
  clear hc hn h1
  go_enter Try.func14, Try.ntmps14
  go_wp2_with (go_at_call 11; refine hlk.mono ?_; rintro e w2 ⟨rfl, hb2⟩; have hs2 : w.heap.size < w2.heap.size := (by have := hb2.size; simp at this; omega); have hB2 : Blk w2 w.heap.size 41 [.int .i64 0, .int .i64 0, .string ⟨#[]⟩] := ((Blk.born w 41 [.int .i64 0, .int .i64 0, .string ⟨#[]⟩]).below hb2 (by simp)); have c50 : w2.cell? ⟨w.heap.size, 0, none⟩ = some (.int .i64 0) := hB2.at_ 0; have c51 : w2.cell? ⟨w.heap.size, 1, none⟩ = some (.int .i64 0) := hB2.at_ 1; have c52 : w2.cell? ⟨w.heap.size, 2, none⟩ = some (.string ⟨#[]⟩) := hB2.at_ 2; have f50 := hB2.free 0; have f51 := hB2.free 1; have f52 := hB2.free 2; have HB := Lib.hid hB2; clear hB2)
  obtain ⟨W, hW⟩ : ∃ W, W = (((w2.setCell ⟨w.heap.size, 0, none⟩ (.int .i64 0)).setCell ⟨w.heap.size, 1, none⟩ (.int .i64 0)).setCell ⟨w.heap.size, 2, none⟩ (.string ⟨#[]⟩)).alloc (Obj.cells #[Value.int IntKind.i64 0, Value.int IntKind.i64 0, Value.string { data := #[] }] 41) := ⟨_, rfl⟩
  have hW5 : Blk W w.heap.size 41 [.int .i64 0, .int .i64 0, .string ⟨#[]⟩] := by
    rw [hW]
    exact (((HB.out.store 0 (.int .i64 0)).store 1 (.int .i64 0)).store 2 (.string ⟨#[]⟩)).later _
  have hb2' : Below w.heap.size w w2 := ((Below.refl w.heap.size w).alloc (Nat.le_refl _) _).trans (hb2.mono (by simp))
  have hbW : Below w.heap.size w W := by
    rw [hW]
    have hx := ((hb2'.setCell (p := ⟨w.heap.size, 0, none⟩) (Nat.le_refl _) (.int .i64 0)).setCell (p := ⟨w.heap.size, 1, none⟩) (Nat.le_refl _) (.int .i64 0)).setCell (p := ⟨w.heap.size, 2, none⟩) (Nat.le_refl _) (.string ⟨#[]⟩)
    exact hx.alloc hx.size _
  rw [← hW]
  have e0 : W.cell? ⟨w.heap.size, 0, none⟩ = some (.int .i64 0) := hW5.at_ 0
  have e1 : W.cell? ⟨w.heap.size, 1, none⟩ = some (.int .i64 0) := hW5.at_ 1
  have e2 : W.cell? ⟨w.heap.size, 2, none⟩ = some (.string ⟨#[]⟩) := hW5.at_ 2
  exact bodyPost_ret (v := .tuple #[.agg #[.int .i64 0, .int .i64 0, .string ⟨#[]⟩], .bool false]) (by simp [results, Try.results14, go_sem, e0, e1, e2]) rfl ⟨rfl, hbW⟩
end Go.Proofs.Ytplfigikjlfmjaa
