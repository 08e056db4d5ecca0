/- The walk of ints.Encode: what is refused, and the plain form. -/
import Derived.Test.YtdchaojgldfagaaDoorInB
import Derived.Test.YtdchaojgldfagaaDoorRegR
import Derived.Outline
namespace Go.Proofs.YtdchaojgldfagaaDoor
open Go.RowKit
set_option linter.unusedVariables false

theorem own_ne {w : World} {B g : Nat} {t : TypeId} {cs : List Value} {v : Value} {l : List UInt8} (h : Own w B v l) (hb : Blk w g t cs) (ht : t ≠ 5) : v.ownBlock ≠ some g := by
  intro e
  rcases h.2 with ⟨rfl, _⟩ | ⟨k, cap, cur, rfl, _, hk, _⟩
  · simp [Value.ownBlock] at e
  · have : k = g := by simpa [Value.ownBlock] using e
    subst this
    unfold Blk at hb
    rw [hk] at hb
    injection hb with hb
    injection hb with _ h2 _
    exact ht h2.symm
theorem own_store {w : World} {B g i : Nat} {t : TypeId} {cs : List Value} {v : Value} {l : List UInt8} (h : Own w B v l) (hb : Blk w g t cs) (ht : t ≠ 5) (u : Value) : Own (w.setCell ⟨g, i, none⟩ u) B v l := by
  have hne := own_ne h hb ht
  refine ⟨h.1, ?_⟩
  rcases h.2 with hn | ⟨k, cap, cur, rfl, hk, hg, rest⟩
  · exact .inl hn
  · refine .inr ⟨k, cap, cur, rfl, hk, ?_, rest⟩
    have : k ≠ g := fun e => hne (by rw [← e]; rfl)
    rw [← hg]
    simp [World.setCell, Array.getElem?_modify, Ne.symm this]

set_option maxHeartbeats 2000000 in
theorem enc_bad (f : Int) (A : Option Addr) (cap n : Nat) (W : World) (hn : n ≤ 4611686018427387904) (h : f < 0 ∨ 4 ≤ f ∨ 4096 < n) :
    Calls Tryd.prog 10 #[.int .i64 f, .slice A n cap] W fun e W' => e = .returned (.tuple #[.slice none 0 0, .int .i64 2]) ∧ W = W' := by
  by_cases h1 : f < 0
  · go_enter Tryd.func10, Tryd.ntmps10
    go_wp2
    go_ret2
    exact ⟨rfl, rfl⟩
  · by_cases h2 : 4 ≤ f
    · go_enter Tryd.func10, Tryd.ntmps10
      go_wp2
      go_ret2
      exact ⟨rfl, rfl⟩
    · have h3 : (4096 : Int) < (n : Int) := by omega
      clear h
      go_enter Tryd.func10, Tryd.ntmps10
      go_wp2
      go_ret2
      exact ⟨rfl, rfl⟩
theorem own_one (w : World) (c : UInt8) : Own (w.alloc (.cells #[Value.int .u8 (c.toNat : Int)] 5)) w.heap.size (.slice (some ⟨w.heap.size, 0, none⟩) 1 1) [c] := by
  refine ⟨rfl, .inr ⟨w.heap.size, 1, #[Value.int .u8 (c.toNat : Int)], rfl, Nat.le_refl _, heap_alloc_new w _, Nat.le_refl _, by unfold maxLen; omega, rfl, rfl⟩⟩
theorem blk_two (w : World) (o : Obj) (t : TypeId) (cs : List Value) : Blk ((w.alloc o).alloc (.cells cs.toArray t)) (w.heap.size + 1) t cs := by
  have := Blk.born (w.alloc o) t cs
  have e : (w.alloc o).heap.size = w.heap.size + 1 := by simp
  rwa [e] at this

set_option maxRecDepth 100000 in
set_option maxHeartbeats 8000000 in
/-- The plain form. -/
theorem enc0_any (A : Option Addr) (cap : Nat) (l : List Int) (W : World) (hl : Ints W A l) (h64 : All64 l) (hn : l.length ≤ 4096) :
    Calls Tryd.prog 10 #[.int .i64 0, .slice A l.length cap] W (LaidI W (encI 0 l)) := by
  obtain ⟨DD, hDD⟩ : ∃ DD : Nat → List UInt8, DD = fun k => [0] ++ (l.take k).flatMap sgn := ⟨_, rfl⟩
  have hfin : encI 0 l = DD l.length := by rw [hDD]; simp only [List.take_length]; rfl
  have hd0 : [(0 : UInt8)] = DD 0 := by rw [hDD]; simp
  have hst : ∀ k (h : k < l.length), DD (k + 1) = DD k ++ sgn l[k] := fun k h => by
    rw [hDD]; simp only [List.take_succ_eq_append_getElem h, List.flatMap_append, List.flatMap_cons, List.flatMap_nil, List.append_nil, List.append_assoc]
  have hdl : ∀ k, k ≤ l.length → (DD k).length ≤ 100001 := fun k hk => by
    have := encB_len (f := 0) (l := l.take k) (by rw [List.length_take]; omega)
    rw [hDD]
    simp only [List.length_append, List.length_cons, List.length_nil]
    have e : encB 0 (l.take k) = (l.take k).flatMap sgn := rfl
    rw [e] at this
    omega
  rw [hfin]
  clear hDD hfin
  obtain ⟨W1, hW1⟩ : ∃ x, x = (W.alloc (.cells #[Value.int .u8 0] 5)).alloc (.cells #[Value.slice (some ⟨W.heap.size, 0, none⟩) 1 1] 24) := ⟨_, rfl⟩
  have hbx : Blk W1 (W.heap.size + 1) 24 [Value.slice (some ⟨W.heap.size, 0, none⟩) 1 1] := by rw [hW1]; exact blk_two W _ _ _
  have how : Own W1 W.heap.size (.slice (some ⟨W.heap.size, 0, none⟩) 1 1) (DD 0) := by
    rw [hW1, ← hd0]
    exact World.ownsRow.alloc (own_one W 0) _
  have hbe : Below W.heap.size W W1 := by rw [hW1]; exact ((Below.refl _ _).alloc (Nat.le_refl _) _).alloc (by simp) _
  have HBX := Lib.hid hbx
  have HOW := Lib.hid how
  have HBE := Lib.hid hbe
  have HW1 := Lib.hid hW1
  have HL := Lib.hid hl
  have H64 := Lib.hid h64
  have HSTEP := Lib.hid hst
  have HDL := Lib.hid hdl
  obtain ⟨n, hln⟩ : ∃ n, l.length = n := ⟨_, rfl⟩
  have HLN := Lib.hid hln
  have hgt : ¬ (4096 : Int) < (n : Int) := by omega
  rw [hln]
  clear hd0 hst hdl hW1 hbx how hbe hl h64 hln
  go_enter Tryd.func10, Tryd.ntmps10
  go_wp2
  rw [← HW1.out]
  go_loopw [30] (fun x30 wr => ∃ k : Nat, k ≤ n ∧ x30 = .int .i64 k ∧ ∃ v, Blk wr (W.heap.size + 1) 24 [v] ∧ Own wr W.heap.size v (DD k) ∧ Below W.heap.size W wr) (fun x _ => n - (intOf x).toNat)
  case atStart => exact ⟨0, by omega, rfl, _, HBX.out, HOW.out, HBE.out⟩
  case round =>
    obtain ⟨k, hk, rfl, v, hbox, hown, hbel⟩ := hrel
    obtain ⟨Ab, cb, rfl, _, _, _, _⟩ := hown.form
    obtain ⟨bb, hbb⟩ : ∃ bb, DD k = bb := ⟨_, rfl⟩
    rw [hbb] at hown hbox
    obtain ⟨nb, hnb⟩ : ∃ nb, bb.length = nb := ⟨_, rfl⟩
    rw [hnb] at hown hbox
    have HBOX := Lib.hid hbox
    have HOWN := Lib.hid hown
    have HBEL := Lib.hid hbel
    have hNW : W.heap.size ≤ W.heap.size + 1 := by omega
    have HNW := Lib.hid hNW
    by_cases hlt : k < n
    · have hk1 : k < l.length := by rw [HLN.out]; exact hlt
      obtain ⟨b, o, rfl, hca⟩ := HL.out k hk1
      have hbN : b < W.heap.size := World.block_lt_of_cell? W _ hca
      have hcell := (hbel.cell (p := ⟨b, o + k, none⟩) hbN).trans hca
      have hs := HSTEP.out k hk1
      have hx64 := H64.out _ (List.getElem_mem hk1)
      generalize l[k] = x at hcell hs hx64
      rw [hbb] at hs
      have HST := Lib.hid hs
      have hsig := fun (w1 : World) => signed_any none 0 x [] w1 (Byt.empty _ _) (fun _ => rfl) (by simp) hx64.1 hx64.2
      simp only [sgn_nil, List.length_nil] at hsig
      have hsl := sgn_len x
      have hbl : bb.length ≤ 100001 := by rw [← hbb]; exact HDL.out k (by omega)
      obtain ⟨sg, hsg⟩ : ∃ sg, sgn x = sg := ⟨_, rfl⟩
      rw [hsg] at hsig HST hsl
      obtain ⟨m5, hm5⟩ : ∃ m5, sg.length = m5 := ⟨_, rfl⟩
      have HM5 := Lib.hid hm5
      have HSIG := Lib.hid hsig
      have HLEN : Hid (bb.length + sg.length ≤ 140737488355328) := by show _ ≤ _; omega
      have HK : Hid (k < n) := hlt
      have hcb : wr.cell? ⟨W.heap.size + 1, 0, none⟩ = some (.slice Ab nb cb) := (hbox.at_ 0).trans rfl
      have hcb2 : wr.drew.cell? ⟨W.heap.size + 1, 0, none⟩ = some (.slice Ab nb cb) := hcb
      clear hs hsig hsl hbl hsg hm5 hbox hown hbel hbb hnb hca hNW hk1
      go_upto_region 9 with (fail)
      clear hcb hcell
      refine wpS_start (fun _ => True) 5 (by kernel_rfl) rfl (fun RG HR => ?_)
      refine wpS_take HR (i := 1) (v := .int .i64 x) rfl (by decide +kernel) (by decide +kernel) (by decide +kernel) (fun _ _ _ h => h) (by rfl) trivial (fun W hW => by go_simp) ?_
      go_simp
      refine wpS_step2 HR (i := 0) (k := 2) (by decide +kernel) ?_ ?_
      · refine stepS_val HR (v := .slice Ab nb cb) rfl (by rfl) (by go_simp) trivial ?_
        go_simp
        refine wpS_step1 HR (i := 2) (by decide +kernel) ?_
        refine stepS_call HR rfl (by rfl) (by go_simp; exact ⟨rfl, rfl⟩) ?_
        refine (HSIG.out _).mono ?_
        rintro e w5 ⟨v5, rfl, hown5, hb5⟩
        obtain ⟨A5, c5, rfl, y5, n5, _, _⟩ := hown5.form
        have Y5 := Lib.hid y5
        have N5 := Lib.hid n5
        have O5 : Hid (Own w5 W.heap.size (.slice Ab nb cb) bb) := HOWN.out.below (w := wr.drew) hb5
        have E5 : Hid (Below W.heap.size W w5) := HBEL.out.drew.trans (hb5.mono (by exact HBEL.out.size))
        have X5 : Hid (Blk w5 (W.heap.size + 1) 24 [Value.slice Ab nb cb]) := Blk.below (w := wr.drew) HBOX.out hb5 (lt_of_block HBOX.out)
        have hc5 : w5.cell? ⟨W.heap.size + 1, 0, none⟩ = some (.slice Ab nb cb) := (X5.out.at_ 0).trans rfl
        rw [HM5.out]
        clear y5 n5 hown5 hb5
        refine ⟨_, rfl, trivial, ?_⟩
        go_simp
        refine wpS_step1 HR (i := 3) (by decide +kernel) ?_
        refine stepS_list HR rfl rfl ?_
        intro K hK
        refine app_at W rfl _ _ rfl (.slice Ab nb cb) bb rfl O5.out E5.out A5 m5 c5 sg rfl HM5.out.symm Y5.out N5.out HLEN.out ?_
        intro v6 w6 hown6 hbel6 hg6 hat6
        obtain ⟨A6, c6, rfl, _, _, _, _⟩ := hown6.form
        obtain ⟨n6, hn6⟩ : ∃ n6, (bb ++ sg).length = n6 := ⟨_, rfl⟩
        rw [hn6] at hown6 ⊢
        clear hn6
        have hx6 : Blk w6 (W.heap.size + 1) 24 [Value.slice Ab nb cb] := grown_blk hg6 X5.out (own_ne O5.out X5.out (by decide))
        have hc6 : w6.cell? ⟨W.heap.size + 1, 0, none⟩ = some (.slice Ab nb cb) := (hx6.at_ 0).trans rfl
        have hf6 : w6.frozen? ⟨W.heap.size + 1, 0, none⟩ = false := hx6.free 0
        have O6 := Lib.hid hown6
        have E6 := Lib.hid hbel6
        have X6 := Lib.hid hx6
        refine wpList_nil (hK _ _ trivial ?_)
        clear hK K hown6 hbel6 hg6 hat6 hx6
        go_simp
        refine wpS_step1 HR (i := 4) (by decide +kernel) ?_
        refine stepS_list HR rfl rfl ?_
        intro K hK
        go_wp2
        refine hK _ _ trivial ?_
        clear hK K
        refine wpS_done HR (by decide +kernel) ?_
        have X7 : Hid (Blk (w6.setCell ⟨(W.heap.size + 1), 0, none⟩ (.slice A6 n6 c6)) (W.heap.size + 1) 24 [.slice A6 n6 c6]) := X6.out.store 0 _
        have O7 : Hid (Own (w6.setCell ⟨(W.heap.size + 1), 0, none⟩ (.slice A6 n6 c6)) W.heap.size (.slice A6 n6 c6) (bb ++ sg)) := own_store O6.out X6.out (by decide) _
        have E7 : Hid (Below W.heap.size W (w6.setCell ⟨(W.heap.size + 1), 0, none⟩ (.slice A6 n6 c6))) := E6.out.setCell (by exact HNW.out) _
        clear hc6 hf6 O6 E6 X6
        clear hc5
        go_wp2
        go_roundw
        case rel => exact ⟨k + 1, HK.out, by go_num, _, X7.out, by rw [HST.out]; exact O7.out, E7.out⟩
        case measure => simp [intOf]; have := HK.out; omega
      · refine stepS_call HR rfl (by rfl) (by go_simp; exact ⟨rfl, rfl⟩) ?_
        refine (HSIG.out _).mono ?_
        rintro e w5 ⟨v5, rfl, hown5, hb5⟩
        obtain ⟨A5, c5, rfl, y5, n5, _, _⟩ := hown5.form
        have Y5 := Lib.hid y5
        have N5 := Lib.hid n5
        have O5 : Hid (Own w5 W.heap.size (.slice Ab nb cb) bb) := HOWN.out.below (w := wr.drew) hb5
        have E5 : Hid (Below W.heap.size W w5) := HBEL.out.drew.trans (hb5.mono (by exact HBEL.out.size))
        have X5 : Hid (Blk w5 (W.heap.size + 1) 24 [Value.slice Ab nb cb]) := Blk.below (w := wr.drew) HBOX.out hb5 (lt_of_block HBOX.out)
        have hc5 : w5.cell? ⟨W.heap.size + 1, 0, none⟩ = some (.slice Ab nb cb) := (X5.out.at_ 0).trans rfl
        rw [HM5.out]
        clear y5 n5 hown5 hb5
        refine ⟨_, rfl, trivial, ?_⟩
        go_simp
        refine wpS_step1 HR (i := 0) (by decide +kernel) ?_
        refine stepS_val HR (v := .slice Ab nb cb) rfl (by rfl) (by go_simp) trivial ?_
        go_simp
        refine wpS_step1 HR (i := 3) (by decide +kernel) ?_
        refine stepS_list HR rfl rfl ?_
        intro K hK
        refine app_at W rfl _ _ rfl (.slice Ab nb cb) bb rfl O5.out E5.out A5 m5 c5 sg rfl HM5.out.symm Y5.out N5.out HLEN.out ?_
        intro v6 w6 hown6 hbel6 hg6 hat6
        obtain ⟨A6, c6, rfl, _, _, _, _⟩ := hown6.form
        obtain ⟨n6, hn6⟩ : ∃ n6, (bb ++ sg).length = n6 := ⟨_, rfl⟩
        rw [hn6] at hown6 ⊢
        clear hn6
        have hx6 : Blk w6 (W.heap.size + 1) 24 [Value.slice Ab nb cb] := grown_blk hg6 X5.out (own_ne O5.out X5.out (by decide))
        have hc6 : w6.cell? ⟨W.heap.size + 1, 0, none⟩ = some (.slice Ab nb cb) := (hx6.at_ 0).trans rfl
        have hf6 : w6.frozen? ⟨W.heap.size + 1, 0, none⟩ = false := hx6.free 0
        have O6 := Lib.hid hown6
        have E6 := Lib.hid hbel6
        have X6 := Lib.hid hx6
        refine wpList_nil (hK _ _ trivial ?_)
        clear hK K hown6 hbel6 hg6 hat6 hx6
        go_simp
        refine wpS_step1 HR (i := 4) (by decide +kernel) ?_
        refine stepS_list HR rfl rfl ?_
        intro K hK
        go_wp2
        refine hK _ _ trivial ?_
        clear hK K
        refine wpS_done HR (by decide +kernel) ?_
        have X7 : Hid (Blk (w6.setCell ⟨(W.heap.size + 1), 0, none⟩ (.slice A6 n6 c6)) (W.heap.size + 1) 24 [.slice A6 n6 c6]) := X6.out.store 0 _
        have O7 : Hid (Own (w6.setCell ⟨(W.heap.size + 1), 0, none⟩ (.slice A6 n6 c6)) W.heap.size (.slice A6 n6 c6) (bb ++ sg)) := own_store O6.out X6.out (by decide) _
        have E7 : Hid (Below W.heap.size W (w6.setCell ⟨(W.heap.size + 1), 0, none⟩ (.slice A6 n6 c6))) := E6.out.setCell (by exact HNW.out) _
        clear hc6 hf6 O6 E6 X6
        clear hc5
        go_wp2
        go_roundw
        case rel => exact ⟨k + 1, HK.out, by go_num, _, X7.out, by rw [HST.out]; exact O7.out, E7.out⟩
        case measure => simp [intOf]; have := HK.out; omega
    · obtain rfl : k = n := by omega
      have hcb : wr.cell? ⟨W.heap.size + 1, 0, none⟩ = some (.slice Ab nb cb) := (hbox.at_ 0).trans rfl
      have hfin : Own wr W.heap.size (.slice Ab nb cb) (DD k) := by rw [hbb]; exact hown
      have HFIN := Lib.hid hfin
      clear hfin hbox hown hbel hbb hnb hNW
      go_wp2
      go_ret2
      exact ⟨_, rfl, HFIN.out, HBEL.out⟩
end Go.Proofs.YtdchaojgldfagaaDoor
