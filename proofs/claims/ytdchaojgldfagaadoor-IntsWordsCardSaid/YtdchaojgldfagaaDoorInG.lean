/- The walk of ints.Encode: the form of runs. -/
import Derived.Test.YtdchaojgldfagaaDoorInD
import Derived.Test.YtdchaojgldfagaaDoorInF
import Derived.Test.YtdchaojgldfagaaDoorRgA
import Derived.Test.YtdchaojgldfagaaDoorRegR
import Derived.Outline
namespace Go.Proofs.YtdchaojgldfagaaDoor
open Go.RowKit Go.Shelf
set_option linter.unusedVariables false
attribute [local go_sem] Oper.semAt_some

theorem runsL_ne : ∀ l : List Int, l ≠ [] → runsL l ≠ []
  | [], h => absurd rfl h
  | x :: t, _ => by rw [runsL_step]; simp
theorem runsL_mem : ∀ (n : Nat) (l : List Int), l.length ≤ n → ∀ r ∈ runsL l, 1 ≤ r.1 ∧ r.1 ≤ l.length ∧ r.2 ∈ l := by
  intro n
  induction n with
  | zero => intro l h r hr; have : l = [] := List.length_eq_zero_iff.1 (by omega); subst this; simp [runsL] at hr
  | succ n ih =>
    intro l h r hr
    cases l with
    | nil => simp [runsL] at hr
    | cons x t =>
      rw [runsL_step] at hr
      have h1 := runLen_pos x t
      have h2 := runLen_le x (x :: t)
      rcases List.mem_cons.1 hr with rfl | hr
      · exact ⟨h1, h2, by simp⟩
      · obtain ⟨h3, h4, h5⟩ := ih _ (by rw [List.length_drop]; omega) r hr
        rw [List.length_drop] at h4
        exact ⟨h3, by omega, List.mem_of_mem_drop h5⟩
theorem runsL_len : ∀ (n : Nat) (l : List Int), l.length ≤ n → (runsL l).length ≤ l.length := by
  intro n
  induction n with
  | zero => intro l h; have : l = [] := List.length_eq_zero_iff.1 (by omega); subst this; simp [runsL]
  | succ n ih =>
    intro l h
    cases l with
    | nil => simp [runsL]
    | cons x t =>
      rw [runsL_step]
      have h1 := runLen_pos x t
      have h2 := runLen_le x (x :: t)
      have := ih ((x :: t).drop (runLen x (x :: t))) (by rw [List.length_drop]; omega)
      rw [List.length_drop] at this
      rw [List.length_cons]
      omega

set_option maxRecDepth 100000 in
theorem runs_of (n : Nat) (A : Option Addr) (len cap : Nat) (W : World) : CallsIn Fence.wide n Tryd.prog 18 #[.slice A len cap] W fun e W' =>
    e = .returned (.func (.func 34) #[] #[.pointer (some ⟨W.heap.size, 0, none⟩)]) ∧ W' = W.alloc (.cells #[.slice A len cap] 22) := by
  refine callsIn_of_wp Tryd.func18 rfl trivial ?_ rfl
  simp only [Tryd.ntmps18, List.size_toArray, List.length_cons, List.length_nil, Nat.reduceAdd, Nat.reduceSub, Array.replicate_succ, Array.replicate_zero, List.push_toArray, List.append_toArray, List.nil_append, List.cons_append]
  gi_wp2
  go_ret
  exact ⟨rfl, rfl⟩

/-- What a body of bytes keeps, for the iterator and for the range. -/
def KK (n₀ : Nat) (W W' : World) : Prop := KpI n₀ W W' ∧ KeepsOthers W W'
theorem KK.refl (n₀ : Nat) (W : World) : KK n₀ W W := ⟨KpI.refl _ _, KeepsOthers.refl _⟩
theorem KK.trans {n₀ : Nat} {a b c : World} (h : KK n₀ a b) (k : KK n₀ b c) : KK n₀ a c := ⟨h.1.trans k.1, h.2.trans k.2⟩
theorem KK.drew {n₀ : Nat} {a b : World} (h : KK n₀ a b) : KK n₀ a b.drew := ⟨⟨h.1.size, h.1.low, h.1.typ⟩, ⟨h.2.size, h.2.same⟩⟩
theorem kk_below {n₀ : Nat} {w w' : World} (h : Below w.heap.size w w') (hn : n₀ ≤ w.heap.size) : KK n₀ w w' :=
  ⟨⟨h.size, fun k hk => h.block k (by omega), fun k o hk _ => (h.block k (Array.getElem?_eq_some_iff.1 hk).1).trans hk⟩, ⟨h.size, fun k o hk _ => (h.block k (Array.getElem?_eq_some_iff.1 hk).1).trans hk⟩⟩
theorem own_at {w : World} {B g : Nat} {v : Value} {l : List UInt8} (h : Own w B v l) (e : v.ownBlock = some g) : B ≤ g ∧ ∃ c, w.heap[g]? = some (.cells c 5) := by
  rcases h.2 with ⟨rfl, _⟩ | ⟨k, cap, cur, rfl, hk, hg, _⟩
  · simp [Value.ownBlock] at e
  · have : k = g := by simpa [Value.ownBlock] using e
    subst this
    exact ⟨hk, _, hg⟩
theorem kk_app {n₀ : Nat} {w w' : World} {v : Value} {l : List UInt8} (hg : w.grownBy w' v.ownBlock) (h : Own w n₀ v l) (hn : n₀ ≤ w.heap.size) : KK n₀ w w' := by
  refine ⟨⟨hg.size, fun k hk => ?_, fun k o hk ho => ?_⟩, KeepsOthers.of_grownBy hg (fun j o e ho => ?_)⟩
  · exact hg.block k (by omega) (fun e => by have := (own_at h e.symm).1; omega)
  · refine (hg.block k (Array.getElem?_eq_some_iff.1 hk).1 (fun e => ?_)).trans hk
    obtain ⟨_, c, hc⟩ := own_at h e.symm
    rw [hk] at hc
    injection hc with hc
    subst hc
    cases ho
  · obtain ⟨_, c, hc⟩ := own_at h e
    rw [ho] at hc
    injection hc with hc
    subst hc
    rfl
theorem kk_box {n₀ X : Nat} {w : World} {cs : List Value} (hb : Blk w X 24 cs) (ht : True) (hX : n₀ ≤ X) (u : Value) : KK n₀ w (w.setCell ⟨X, 0, none⟩ u) := by
  refine ⟨⟨by simp [World.setCell], fun k hk => Below.heap_setCell _ _ _ _ (by show k ≠ X; omega), fun k o hk ho => ?_⟩, KeepsOthers.setCell _ _ _⟩
  refine (Below.heap_setCell _ _ _ _ ?_).trans hk
  intro e
  subst e
  unfold Blk at hb
  rw [hk] at hb
  injection hb with hb
  subst hb
  cases ho
theorem own_put {w : World} {B D : Nat} {v : Value} {l : List UInt8} (h : Own w B v l) {o : Obj} (o' : Obj) (hD : w.heap[D]? = some o) (ho : o.isCells = false) : Own (w.putObj D o') B v l := by
  refine World.ownsRow.kept h (grownBy_putObj' w D o') (.inr fun e => ?_)
  obtain ⟨_, c, hc⟩ := own_at h e
  rw [hD] at hc
  injection hc with hc
  subst hc
  cases ho
theorem runs_flat (f : Nat × Int → List UInt8) (hf : ∀ r, (f r).length ≤ 20) : ∀ l : List (Nat × Int), (l.flatMap f).length ≤ l.length * 20
  | [] => by simp
  | a :: t => by rw [List.flatMap_cons, List.length_append, List.length_cons, Nat.succ_mul]; have := hf a; have := runs_flat f hf t; omega
theorem layRun_len (r : Nat × Int) : (layRun r).length ≤ 20 := by
  unfold layRun
  have := (num_len r.1).2
  have := sgn_len r.2
  rw [List.length_append]
  omega

set_option maxRecDepth 100000 in
set_option maxHeartbeats 8000000 in
theorem enc1_any (A : Option Addr) (cap : Nat) (l : List Int) (W : World) (hl : Ints W A l) (h64 : All64 l) (hn : l.length ≤ 4096) (hcap : l.length ≤ cap) :
    Calls Tryd.prog 10 #[.int .i64 1, .slice A l.length cap] W (LaidI W (encI 1 l)) := by
  obtain ⟨W1, hW1⟩ : ∃ x, x = (W.alloc (.cells #[Value.int .u8 1] 5)).alloc (.cells #[Value.slice (some ⟨W.heap.size, 0, none⟩) 1 1] 24) := ⟨_, rfl⟩
  obtain ⟨rk, hrk⟩ : ∃ rk : Nat → Nat × Int, ∀ k (h : k < (runsL l).length), (runsL l)[k] = rk k := ⟨fun k => (runsL l).getD k (0, 0), fun k h => by simp [List.getD, h]⟩
  obtain ⟨DD, hDD⟩ : ∃ DD : Nat → List UInt8, DD = fun k => [1] ++ ((runsL l).take k).flatMap layRun := ⟨_, rfl⟩
  have hrl := runsL_len l.length l (Nat.le_refl _)
  have hfin : encI 1 l = DD (runsL l).length := by rw [hDD]; simp only [List.take_length]; rfl
  have hd0 : [(1 : UInt8)] = DD 0 := by rw [hDD]; simp
  have hst : ∀ k (h : k < (runsL l).length), DD (k + 1) = (DD k ++ num (rk k).1) ++ sgn (rk k).2 := fun k h => by
    rw [hDD]; simp only [List.take_succ_eq_append_getElem h, List.flatMap_append, List.flatMap_cons, List.flatMap_nil, List.append_nil, List.append_assoc, hrk k h]; rfl
  have hdl : ∀ k, (DD k).length ≤ 100001 := fun k => by
    rw [hDD]
    have := runs_flat layRun layRun_len ((runsL l).take k)
    simp only [List.length_append, List.length_cons, List.length_nil]
    rw [List.length_take] at this
    omega
  have hel : ∀ k, k < (runsL l).length → (rk k).1 ≤ 4096 ∧ I64 (rk k).2 := fun k h => by
    obtain ⟨h1, h2, h3⟩ := runsL_mem l.length l (Nat.le_refl _) _ (List.getElem_mem h)
    rw [hrk k h] at h1 h2 h3
    exact ⟨by omega, h64 _ h3⟩
  have hbx : Blk W1 (W.heap.size + 1) 24 [Value.slice (some ⟨W.heap.size, 0, none⟩) 1 1] := by rw [hW1]; exact blk_two W _ _ _
  have how : Own W1 W.heap.size (.slice (some ⟨W.heap.size, 0, none⟩) 1 1) (DD 0) := by
    rw [hW1, ← hd0]
    exact World.ownsRow.alloc (own_one W 1) _
  have hbe : Below W.heap.size W W1 := by rw [hW1]; exact ((Below.refl _ _).alloc (Nat.le_refl _) _).alloc (by simp) _
  have hsz : W1.heap.size = W.heap.size + 2 := by rw [hW1]; simp
  rw [hfin]
  have hgt : ¬ (4096 : Int) < (l.length : Int) := by omega
  obtain ⟨n, hln⟩ : ∃ n, l.length = n := ⟨_, rfl⟩
  have HLN := Lib.hid hln
  have HW1 := Lib.hid hW1
  have HL := Lib.hid hl
  have HSTEP := Lib.hid hst
  have HDL := Lib.hid hdl
  have HEL := Lib.hid hel
  have HRK := Lib.hid hrk
  have HBX := Lib.hid hbx
  have HOW := Lib.hid how
  have HBE := Lib.hid hbe
  have HSZ := Lib.hid hsz
  have HNC : Hid (n ≤ 4096 ∧ n ≤ cap) := ⟨by omega, by omega⟩
  rw [hln] at hgt ⊢
  clear hln hW1 hl hst hdl hel hrk hbx how hbe hDD hfin hd0 h64 hcap hn hrl hsz
  refine (callsIn_wide (n := 12)).1 ?_
  refine callsIn_of_wp_marks Tryd.func10 rfl trivial ?_ rfl
  simp only [Tryd.ntmps10, List.size_toArray, List.length_cons, List.length_nil, Nat.reduceAdd, Nat.reduceSub, Array.replicate_succ, Array.replicate_zero, List.push_toArray, List.append_toArray, List.nil_append, List.cons_append]
  gi_wp2_with (refine ⟨trivial, ?_⟩; gi_at_call 18; refine (runs_of 11 A n cap _).mono ?_; rintro e w1 ⟨rfl, rfl⟩)
  rw [← HW1.out]
  obtain ⟨W2, hW2⟩ : ∃ x, x = W1.alloc (.cells #[Value.slice A n cap] 22) := ⟨_, rfl⟩
  have hs2 : W2.heap.size = W.heap.size + 3 := by rw [hW2]; simp [HSZ.out]
  have hb2 : Blk W2 (W.heap.size + 1) 24 [Value.slice (some ⟨W.heap.size, 0, none⟩) 1 1] := by rw [hW2]; exact HBX.out.later _
  have ho2 : Own W2 W.heap.size (.slice (some ⟨W.heap.size, 0, none⟩) 1 1) (DD 0) := by rw [hW2]; exact World.ownsRow.alloc HOW.out _
  have he2 : Below W.heap.size W W2 := by rw [hW2]; exact HBE.out.alloc (by rw [HSZ.out]; omega) _
  have hl2 : W2.cell? ⟨W.heap.size + 1 + 1, 0, none⟩ = some (.slice A n cap) := by
    have := Blk.born W1 22 [Value.slice A n cap]
    rw [HSZ.out] at this
    rw [hW2]
    exact (this.at_ 0).trans rfl
  rw [← hW2]
  refine range_all rfl (by omega) (gf := 34) (lb := #[.pointer (some ⟨W.heap.size + 1 + 1, 0, none⟩)]) rfl trivial (enters_of Tryd.func34 (by kernel_rfl) rfl)
    (runsL l).length (fun k => #[.int .i64 ((rk k).1 : Int), .int .i64 (rk k).2]) (fun o => ∃ c, o = .cells c 22) (KpI W.heap.size) (fun _ => rfl)
    ?seq KpI.trans ?kb
    (fun k Wd => ∃ v, Blk Wd (W.heap.size + 1) 24 [v] ∧ Own Wd W.heap.size v (DD k) ∧ Below W.heap.size W Wd) ?ab ⟨_, hb2, ho2, he2⟩
    (fun k => { tmps := #[Value.int IntKind.i64 1, Value.slice A n cap, undef, undef, Value.slice none 0 0, Value.int IntKind.i64 0, Value.pointer (some ⟨W.heap.size + 1, 0, none⟩), undef, undef, Value.int IntKind.i64 ((rk k).1 : Int), Value.int IntKind.i64 (rk k).2, Value.int IntKind.i64 1, Value.bool false, Value.bool false, Value.int IntKind.i64 1, Value.bool false, Value.bool false, Value.bool false, Value.slice A n cap, Value.int IntKind.i64 (n : Int), Value.bool false, Value.bool false, Value.int IntKind.i64 1, Value.int IntKind.u8 1, Value.slice (some ⟨W.heap.size, 0, none⟩) 1 1, Value.int IntKind.i64 1, Value.bool false, Value.bool false, undef, undef, undef, undef, undef, undef, undef, undef, undef, undef, undef, Value.bool true, Value.bool true, Value.slice A n cap, Value.func (Fn.func 34) #[] #[Value.pointer (some ⟨W.heap.size + 1 + 1, 0, none⟩)], Value.int IntKind.i64 ((rk k).1 : Int), Value.int IntKind.i64 (rk k).2, undef, undef, undef, undef, undef, undef, undef, undef, undef, undef, undef, undef, undef, undef, undef, undef, undef, undef, undef, undef, undef, undef, undef, undef], defers := [] }) ?assign ?body ?done
  case seq =>
    intro y Wy J hWy hJ hY h0
    refine runs_it 11 (by omega) y (W.heap.size + 1 + 1) W.heap.size A cap l (by rw [HLN.out]; exact HNC.out.1) (by rw [HLN.out]; exact HNC.out.2) Wy J (fun s a b row hs hg hr => hJ s a b row hs hg (fun r e => by obtain ⟨h1, c, h2⟩ := hr r e; exact ⟨h1, _, h2, c, rfl⟩)) (fun k hk w1 hj => by rw [HRK.out k hk]; exact hY k hk w1 hj) ?_ ?_ ?_ ?_ h0
    · rw [HLN.out]; exact (hWy.cell (p := ⟨W.heap.size + 1 + 1, 0, none⟩) (by show W.heap.size + 1 + 1 < W2.heap.size; omega)).trans hl2
    · exact HL.out.keep (he2.trans (hWy.mono (by rw [hs2]; omega)))
    · intro b o e hne
      obtain ⟨b', o', e', hc⟩ := HL.out 0 (List.length_pos_iff.2 hne)
      rw [e] at e'
      injection e' with e'
      injection e' with e1 e2
      subst e1
      exact World.block_lt_of_cell? W _ hc
    · have := hWy.size
      omega
  case kb =>
    intro Wk k o o' hk ho hc
    refine ⟨by simp, fun j hj => World.putObj_heap_other (by omega), fun j oj hj hoj => (World.putObj_heap_other ?_).trans hj⟩
    rintro rfl
    rw [ho] at hj
    injection hj with hj
    subst hj
    cases o <;> first | cases hoj | cases hc
  case ab =>
    rintro s a b row ⟨v, h1, h2, h3⟩ hg hr
    refine ⟨v, grown_blk hg h1 (fun e => ?_), World.ownsRow.kept h2 hg ?_, h3.grown hg h3.size (fun r e => by have := (hr r e).1; omega)⟩
    · have := (hr _ e).1
      omega
    · by_cases hv : v.ownBlock = none
      · exact .inl hv
      refine .inr fun e => ?_
      cases row with
      | none => exact hv e
      | some r =>
        obtain ⟨_, o, ho, hk⟩ := hr r rfl
        obtain ⟨_, c, hc⟩ := own_at h2 e
        rw [ho] at hc
        injection hc with hc
        subst hc
        rcases hk with hk | ⟨c2, hk⟩
        · cases hk
        · injection hk with _ hk; exact absurd hk (by decide)
  case assign =>
    intro l' k Wd K hK
    gi_wp2
    exact hK
  case body =>
    rintro l' k Wd ⟨v, hbox, hown, hbel⟩ hk
    obtain ⟨Ab, cb, rfl, _, _, _, _⟩ := hown.form
    have hs := HSTEP.out k hk
    obtain ⟨hm, hx⟩ := HEL.out k hk
    have hdk := HDL.out k
    generalize (rk k).1 = m at *
    generalize (rk k).2 = x at *
    obtain ⟨bb, hbb⟩ : ∃ bb, DD k = bb := ⟨_, rfl⟩
    rw [hbb] at hown hbox hs hdk
    obtain ⟨nb, hnb⟩ : ∃ nb, bb.length = nb := ⟨_, rfl⟩
    rw [hnb] at hown hbox
    obtain ⟨sg, hsg⟩ : ∃ sg, num m = sg := ⟨_, rfl⟩
    obtain ⟨sx, hsx⟩ : ∃ sx, sgn x = sx := ⟨_, rfl⟩
    have hnum := fun (w1 : World) => number_any none 0 m [] w1 (Byt.empty _ _) (fun _ => rfl) (by simp) (by omega)
    have hsig := fun (w1 : World) => signed_any none 0 x [] w1 (Byt.empty _ _) (fun _ => rfl) (by simp) hx.1 hx.2
    simp only [List.length_nil, List.nil_append] at hnum
    simp only [sgn_nil, List.length_nil] at hsig
    have hgl := (num_len m).2
    have hxl := sgn_len x
    rw [hsg] at hnum hgl hs
    rw [hsx] at hsig hxl hs
    have HLEN1 : Hid (bb.length + sg.length ≤ 140737488355328) := by show _ ≤ _; omega
    have HLEN2 : Hid ((bb ++ sg).length + sx.length ≤ 140737488355328) := by show _ ≤ _; rw [List.length_append]; omega
    obtain ⟨m5, hm5⟩ : ∃ m5, sg.length = m5 := ⟨_, rfl⟩
    have HM5 := Lib.hid hm5
    have HNUM := Lib.hid hnum
    obtain ⟨m8, hm8⟩ : ∃ m8, sx.length = m8 := ⟨_, rfl⟩
    have HM8 := Lib.hid hm8
    have HSIG := Lib.hid hsig
    have HS := Lib.hid hs
    have HNW : Hid (W.heap.size ≤ W.heap.size + 1) := by show _ ≤ _; omega
    have HBOX := Lib.hid hbox
    have HOWN := Lib.hid hown
    have HBEL := Lib.hid hbel
    have HKK : Hid (KK W.heap.size Wd Wd) := KK.refl _ _
    have hwm : IntKind.u64.wrap (m : Int) = (m : Int) := by rw [IntKind.wrap_u64]; omega
    have hcb : Wd.cell? ⟨W.heap.size + 1, 0, none⟩ = some (.slice Ab nb cb) := (hbox.at_ 0).trans rfl
    have hcb2 : Wd.drew.cell? ⟨W.heap.size + 1, 0, none⟩ = some (.slice Ab nb cb) := hcb
    clear hs hnum hsig hgl hxl hsg hsx hm5 hm8 hbox hown hbel hnb hdk hW2 hb2 ho2 he2 hl2 hs2
    gi_wp2
    refine region_in (S := fun _ => True) (k := 6) (by kernel_rfl) (by rintro ⟨a, w, h, _⟩; cases h) (by kernel_rfl) rfl (fun RG HR => ?_)
    refine wpS_take HR (i := 1) (v := .int .i64 (m : Int)) rfl (by decide +kernel) (by decide +kernel) (by decide +kernel) (fun _ _ _ h => h) (by rfl) trivial (fun W hW => by go_simp) ?_
    go_simp
    refine wpS_take HR (i := 2) (v := .int .u64 (m : Int)) rfl (by decide +kernel) (by decide +kernel) (by decide +kernel) (fun _ _ _ h => h) (by rfl) trivial (fun W hW => by go_simp) ?_
    go_simp
    refine wpS_step2 HR (i := 0) (k := 3) (by decide +kernel) ?ra ?rb
    case' ra =>
      refine stepS_val HR (v := .slice Ab nb cb) rfl (by rfl) (by go_simp) trivial ?_
      go_simp
      refine wpS_step1 HR (i := 3) (by decide +kernel) ?_
      refine stepS_call HR rfl (by rfl) (by go_simp; exact ⟨rfl, rfl⟩) ?_
      refine (HNUM.out _).mono ?_
      rintro e w5 ⟨v5, rfl, hown5, hb5⟩
      obtain ⟨A5, c5, rfl, y5, n5, _, _⟩ := hown5.form
      have Y5 := Lib.hid y5
      have N5 := Lib.hid n5
      have O5 : Hid (Own w5 W.heap.size (.slice Ab nb cb) bb) := HOWN.out.below (w := Wd.drew) hb5
      have E5 : Hid (Below W.heap.size W w5) := HBEL.out.drew.trans (hb5.mono (by exact HBEL.out.size))
      have X5 : Hid (Blk w5 (W.heap.size + 1) 24 [Value.slice Ab nb cb]) := Blk.below (w := Wd.drew) HBOX.out hb5 (lt_of_block HBOX.out)
      have K5 : Hid (KK W.heap.size Wd w5) := (HKK.out.drew).trans (kk_below hb5 (by exact HBEL.out.size))
      have hc5 : w5.cell? ⟨W.heap.size + 1, 0, none⟩ = some (.slice Ab nb cb) := (X5.out.at_ 0).trans rfl
      rw [HM5.out]
      clear y5 n5 hown5 hb5
      refine ⟨_, rfl, trivial, ?_⟩
      go_simp
      refine wpS_step1 HR (i := 4) (by decide +kernel) ?_
      refine stepS_list HR rfl rfl ?_
      intro K hK
      refine app_at W rfl _ _ rfl (.slice Ab nb cb) bb rfl O5.out E5.out A5 m5 c5 sg rfl HM5.out.symm Y5.out N5.out (by exact HLEN1.out) ?_
      intro v6 w6 hown6 hbel6 hg6 hat6
      have K6 : Hid (KK W.heap.size Wd w6) := K5.out.trans (kk_app hg6 O5.out (by exact E5.out.size))
      obtain ⟨A6, c6, rfl, _, _, _, _⟩ := hown6.form
      obtain ⟨n6, hn6⟩ : ∃ n6, (bb ++ sg).length = n6 := ⟨_, rfl⟩
      have N6 := Lib.hid hn6
      rw [hn6] at hown6 ⊢
      clear hn6
      have hx6 : Blk w6 (W.heap.size + 1) 24 [Value.slice Ab nb cb] := grown_blk hg6 X5.out (own_ne O5.out X5.out (by decide))
      have hc6 : w6.cell? ⟨W.heap.size + 1, 0, none⟩ = some (.slice Ab nb cb) := (hx6.at_ 0).trans rfl
      have hf6 : w6.frozen? ⟨W.heap.size + 1, 0, none⟩ = false := hx6.free 0
      have O6 := Lib.hid hown6
      have E6 := Lib.hid hbel6
      have X6 := Lib.hid hx6
      refine wpList_nil (hK _ _ trivial ?_)
      clear hK K hown6 hbel6 hg6 hat6 hx6
      go_simp
      refine wpS_step1 HR (i := 5) (by decide +kernel) ?_
      refine stepS_list HR rfl rfl ?_
      intro K hK
      go_wp2
      refine hK _ _ trivial ?_
      clear hK K
      refine wpS_done HR (by decide +kernel) ?_
      have X7 : Hid (Blk (w6.setCell ⟨W.heap.size + 1, 0, none⟩ (.slice A6 n6 c6)) (W.heap.size + 1) 24 [.slice A6 n6 c6]) := X6.out.store 0 _
      have O7 : Hid (Own (w6.setCell ⟨W.heap.size + 1, 0, none⟩ (.slice A6 n6 c6)) W.heap.size (.slice A6 n6 c6) (bb ++ sg)) := own_store O6.out X6.out (by decide) _
      have E7 : Hid (Below W.heap.size W (w6.setCell ⟨W.heap.size + 1, 0, none⟩ (.slice A6 n6 c6))) := E6.out.setCell (by exact HNW.out) _
      have K7 : Hid (KK W.heap.size Wd (w6.setCell ⟨W.heap.size + 1, 0, none⟩ (.slice A6 n6 c6))) := K6.out.trans (kk_box X6.out (by decide) (by exact HNW.out) _)
      clear hc6 hf6 hc5 HR O6 E6 X6 K6 O5 E5 X5 K5 Y5 N5
    case' rb =>
      refine stepS_call HR rfl (by rfl) (by go_simp; exact ⟨rfl, rfl⟩) ?_
      refine (HNUM.out _).mono ?_
      rintro e w5 ⟨v5, rfl, hown5, hb5⟩
      obtain ⟨A5, c5, rfl, y5, n5, _, _⟩ := hown5.form
      have Y5 := Lib.hid y5
      have N5 := Lib.hid n5
      have O5 : Hid (Own w5 W.heap.size (.slice Ab nb cb) bb) := HOWN.out.below (w := Wd.drew) hb5
      have E5 : Hid (Below W.heap.size W w5) := HBEL.out.drew.trans (hb5.mono (by exact HBEL.out.size))
      have X5 : Hid (Blk w5 (W.heap.size + 1) 24 [Value.slice Ab nb cb]) := Blk.below (w := Wd.drew) HBOX.out hb5 (lt_of_block HBOX.out)
      have K5 : Hid (KK W.heap.size Wd w5) := (HKK.out.drew).trans (kk_below hb5 (by exact HBEL.out.size))
      have hc5 : w5.cell? ⟨W.heap.size + 1, 0, none⟩ = some (.slice Ab nb cb) := (X5.out.at_ 0).trans rfl
      rw [HM5.out]
      clear y5 n5 hown5 hb5
      refine ⟨_, rfl, trivial, ?_⟩
      go_simp
      refine wpS_step1 HR (i := 0) (by decide +kernel) ?_
      refine stepS_val HR (v := .slice Ab nb cb) rfl (by rfl) (by go_simp) trivial ?_
      go_simp
      refine wpS_step1 HR (i := 4) (by decide +kernel) ?_
      refine stepS_list HR rfl rfl ?_
      intro K hK
      refine app_at W rfl _ _ rfl (.slice Ab nb cb) bb rfl O5.out E5.out A5 m5 c5 sg rfl HM5.out.symm Y5.out N5.out (by exact HLEN1.out) ?_
      intro v6 w6 hown6 hbel6 hg6 hat6
      have K6 : Hid (KK W.heap.size Wd w6) := K5.out.trans (kk_app hg6 O5.out (by exact E5.out.size))
      obtain ⟨A6, c6, rfl, _, _, _, _⟩ := hown6.form
      obtain ⟨n6, hn6⟩ : ∃ n6, (bb ++ sg).length = n6 := ⟨_, rfl⟩
      have N6 := Lib.hid hn6
      rw [hn6] at hown6 ⊢
      clear hn6
      have hx6 : Blk w6 (W.heap.size + 1) 24 [Value.slice Ab nb cb] := grown_blk hg6 X5.out (own_ne O5.out X5.out (by decide))
      have hc6 : w6.cell? ⟨W.heap.size + 1, 0, none⟩ = some (.slice Ab nb cb) := (hx6.at_ 0).trans rfl
      have hf6 : w6.frozen? ⟨W.heap.size + 1, 0, none⟩ = false := hx6.free 0
      have O6 := Lib.hid hown6
      have E6 := Lib.hid hbel6
      have X6 := Lib.hid hx6
      refine wpList_nil (hK _ _ trivial ?_)
      clear hK K hown6 hbel6 hg6 hat6 hx6
      go_simp
      refine wpS_step1 HR (i := 5) (by decide +kernel) ?_
      refine stepS_list HR rfl rfl ?_
      intro K hK
      go_wp2
      refine hK _ _ trivial ?_
      clear hK K
      refine wpS_done HR (by decide +kernel) ?_
      have X7 : Hid (Blk (w6.setCell ⟨W.heap.size + 1, 0, none⟩ (.slice A6 n6 c6)) (W.heap.size + 1) 24 [.slice A6 n6 c6]) := X6.out.store 0 _
      have O7 : Hid (Own (w6.setCell ⟨W.heap.size + 1, 0, none⟩ (.slice A6 n6 c6)) W.heap.size (.slice A6 n6 c6) (bb ++ sg)) := own_store O6.out X6.out (by decide) _
      have E7 : Hid (Below W.heap.size W (w6.setCell ⟨W.heap.size + 1, 0, none⟩ (.slice A6 n6 c6))) := E6.out.setCell (by exact HNW.out) _
      have K7 : Hid (KK W.heap.size Wd (w6.setCell ⟨W.heap.size + 1, 0, none⟩ (.slice A6 n6 c6))) := K6.out.trans (kk_box X6.out (by decide) (by exact HNW.out) _)
      clear hc6 hf6 hc5 HR O6 E6 X6 K6 O5 E5 X5 K5 Y5 N5
    all_goals (
      clear HBOX HOWN HBEL HKK hcb hcb2 HNUM HLEN1 HM5 N6
      generalize w6.setCell ⟨W.heap.size + 1, 0, none⟩ (.slice A6 n6 c6) = w7 at *
      generalize bb ++ sg = bb7 at *
      have hcb7 : w7.cell? ⟨W.heap.size + 1, 0, none⟩ = some (.slice A6 n6 c6) := (X7.out.at_ 0).trans rfl
      have hcb8 : w7.drew.cell? ⟨W.heap.size + 1, 0, none⟩ = some (.slice A6 n6 c6) := hcb7
      gi_wp2
      refine region_in (S := fun _ => True) (k := 5) (by kernel_rfl) (by rintro ⟨a, w, h, _⟩; cases h) (by kernel_rfl) rfl (fun RG HR => ?_)
      refine wpS_take HR (i := 1) (v := .int .i64 x) rfl (by decide +kernel) (by decide +kernel) (by decide +kernel) (fun _ _ _ h => h) (by rfl) trivial (fun W hW => by go_simp) ?_
      go_simp
      refine wpS_step2 HR (i := 0) (k := 2) (by decide +kernel) ?_ ?_
      ·
        refine stepS_val HR (v := .slice A6 n6 c6) rfl (by rfl) (by go_simp) trivial ?_
        go_simp
        refine wpS_step1 HR (i := 2) (by decide +kernel) ?_
        refine stepS_call HR rfl (by rfl) (by go_simp; exact ⟨rfl, rfl⟩) ?_
        refine (HSIG.out _).mono ?_
        rintro e w8 ⟨v8, rfl, hown8, hb8⟩
        obtain ⟨A8, c8, rfl, y8, n8, _, _⟩ := hown8.form
        have Y8 := Lib.hid y8
        have N8 := Lib.hid n8
        have O8 : Hid (Own w8 W.heap.size (.slice A6 n6 c6) bb7) := O7.out.below (w := w7.drew) hb8
        have E8 : Hid (Below W.heap.size W w8) := E7.out.drew.trans (hb8.mono (by exact E7.out.size))
        have X8 : Hid (Blk w8 (W.heap.size + 1) 24 [Value.slice A6 n6 c6]) := Blk.below (w := w7.drew) X7.out hb8 (lt_of_block X7.out)
        have K8 : Hid (KK W.heap.size Wd w8) := (K7.out.drew).trans (kk_below hb8 (by exact E7.out.size))
        have hc8 : w8.cell? ⟨W.heap.size + 1, 0, none⟩ = some (.slice A6 n6 c6) := (X8.out.at_ 0).trans rfl
        rw [HM8.out]
        clear y8 n8 hown8 hb8
        refine ⟨_, rfl, trivial, ?_⟩
        go_simp
        refine wpS_step1 HR (i := 3) (by decide +kernel) ?_
        refine stepS_list HR rfl rfl ?_
        intro K hK
        refine app_at W rfl _ _ rfl (.slice A6 n6 c6) bb7 rfl O8.out E8.out A8 m8 c8 sx rfl HM8.out.symm Y8.out N8.out (by exact HLEN2.out) ?_
        intro v9 w9 hown9 hbel9 hg9 hat9
        have K9 : Hid (KK W.heap.size Wd w9) := K8.out.trans (kk_app hg9 O8.out (by exact E8.out.size))
        obtain ⟨A9, c9, rfl, _, _, _, _⟩ := hown9.form
        obtain ⟨n9, hn9⟩ : ∃ n9, (bb7 ++ sx).length = n9 := ⟨_, rfl⟩
        have N9 := Lib.hid hn9
        rw [hn9] at hown9 ⊢
        clear hn9
        have hx9 : Blk w9 (W.heap.size + 1) 24 [Value.slice A6 n6 c6] := grown_blk hg9 X8.out (own_ne O8.out X8.out (by decide))
        have hc9 : w9.cell? ⟨W.heap.size + 1, 0, none⟩ = some (.slice A6 n6 c6) := (hx9.at_ 0).trans rfl
        have hf9 : w9.frozen? ⟨W.heap.size + 1, 0, none⟩ = false := hx9.free 0
        have O9 := Lib.hid hown9
        have E9 := Lib.hid hbel9
        have X9 := Lib.hid hx9
        refine wpList_nil (hK _ _ trivial ?_)
        clear hK K hown9 hbel9 hg9 hat9 hx9
        go_simp
        refine wpS_step1 HR (i := 4) (by decide +kernel) ?_
        refine stepS_list HR rfl rfl ?_
        intro K hK
        go_wp2
        refine hK _ _ trivial ?_
        clear hK K
        refine wpS_done HR (by decide +kernel) ?_
        have X10 : Hid (Blk (w9.setCell ⟨W.heap.size + 1, 0, none⟩ (.slice A9 n9 c9)) (W.heap.size + 1) 24 [.slice A9 n9 c9]) := X9.out.store 0 _
        have O10 : Hid (Own (w9.setCell ⟨W.heap.size + 1, 0, none⟩ (.slice A9 n9 c9)) W.heap.size (.slice A9 n9 c9) (bb7 ++ sx)) := own_store O9.out X9.out (by decide) _
        have E10 : Hid (Below W.heap.size W (w9.setCell ⟨W.heap.size + 1, 0, none⟩ (.slice A9 n9 c9))) := E9.out.setCell (by exact HNW.out) _
        have K10 : Hid (KK W.heap.size Wd (w9.setCell ⟨W.heap.size + 1, 0, none⟩ (.slice A9 n9 c9))) := K9.out.trans (kk_box X9.out (by decide) (by exact HNW.out) _)
        clear hc9 hf9 hc8 HR O9 E9 X9 K9 O8 E8 X8 K8 Y8 N8
        gi_wp2
        exact ⟨K10.out.2, K10.out.1, _, X10.out, by rw [HS.out]; exact O10.out, E10.out⟩
      ·
        refine stepS_call HR rfl (by rfl) (by go_simp; exact ⟨rfl, rfl⟩) ?_
        refine (HSIG.out _).mono ?_
        rintro e w8 ⟨v8, rfl, hown8, hb8⟩
        obtain ⟨A8, c8, rfl, y8, n8, _, _⟩ := hown8.form
        have Y8 := Lib.hid y8
        have N8 := Lib.hid n8
        have O8 : Hid (Own w8 W.heap.size (.slice A6 n6 c6) bb7) := O7.out.below (w := w7.drew) hb8
        have E8 : Hid (Below W.heap.size W w8) := E7.out.drew.trans (hb8.mono (by exact E7.out.size))
        have X8 : Hid (Blk w8 (W.heap.size + 1) 24 [Value.slice A6 n6 c6]) := Blk.below (w := w7.drew) X7.out hb8 (lt_of_block X7.out)
        have K8 : Hid (KK W.heap.size Wd w8) := (K7.out.drew).trans (kk_below hb8 (by exact E7.out.size))
        have hc8 : w8.cell? ⟨W.heap.size + 1, 0, none⟩ = some (.slice A6 n6 c6) := (X8.out.at_ 0).trans rfl
        rw [HM8.out]
        clear y8 n8 hown8 hb8
        refine ⟨_, rfl, trivial, ?_⟩
        go_simp
        refine wpS_step1 HR (i := 0) (by decide +kernel) ?_
        refine stepS_val HR (v := .slice A6 n6 c6) rfl (by rfl) (by go_simp) trivial ?_
        go_simp
        refine wpS_step1 HR (i := 3) (by decide +kernel) ?_
        refine stepS_list HR rfl rfl ?_
        intro K hK
        refine app_at W rfl _ _ rfl (.slice A6 n6 c6) bb7 rfl O8.out E8.out A8 m8 c8 sx rfl HM8.out.symm Y8.out N8.out (by exact HLEN2.out) ?_
        intro v9 w9 hown9 hbel9 hg9 hat9
        have K9 : Hid (KK W.heap.size Wd w9) := K8.out.trans (kk_app hg9 O8.out (by exact E8.out.size))
        obtain ⟨A9, c9, rfl, _, _, _, _⟩ := hown9.form
        obtain ⟨n9, hn9⟩ : ∃ n9, (bb7 ++ sx).length = n9 := ⟨_, rfl⟩
        have N9 := Lib.hid hn9
        rw [hn9] at hown9 ⊢
        clear hn9
        have hx9 : Blk w9 (W.heap.size + 1) 24 [Value.slice A6 n6 c6] := grown_blk hg9 X8.out (own_ne O8.out X8.out (by decide))
        have hc9 : w9.cell? ⟨W.heap.size + 1, 0, none⟩ = some (.slice A6 n6 c6) := (hx9.at_ 0).trans rfl
        have hf9 : w9.frozen? ⟨W.heap.size + 1, 0, none⟩ = false := hx9.free 0
        have O9 := Lib.hid hown9
        have E9 := Lib.hid hbel9
        have X9 := Lib.hid hx9
        refine wpList_nil (hK _ _ trivial ?_)
        clear hK K hown9 hbel9 hg9 hat9 hx9
        go_simp
        refine wpS_step1 HR (i := 4) (by decide +kernel) ?_
        refine stepS_list HR rfl rfl ?_
        intro K hK
        go_wp2
        refine hK _ _ trivial ?_
        clear hK K
        refine wpS_done HR (by decide +kernel) ?_
        have X10 : Hid (Blk (w9.setCell ⟨W.heap.size + 1, 0, none⟩ (.slice A9 n9 c9)) (W.heap.size + 1) 24 [.slice A9 n9 c9]) := X9.out.store 0 _
        have O10 : Hid (Own (w9.setCell ⟨W.heap.size + 1, 0, none⟩ (.slice A9 n9 c9)) W.heap.size (.slice A9 n9 c9) (bb7 ++ sx)) := own_store O9.out X9.out (by decide) _
        have E10 : Hid (Below W.heap.size W (w9.setCell ⟨W.heap.size + 1, 0, none⟩ (.slice A9 n9 c9))) := E9.out.setCell (by exact HNW.out) _
        have K10 : Hid (KK W.heap.size Wd (w9.setCell ⟨W.heap.size + 1, 0, none⟩ (.slice A9 n9 c9))) := K9.out.trans (kk_box X9.out (by decide) (by exact HNW.out) _)
        clear hc9 hf9 hc8 HR O9 E9 X9 K9 O8 E8 X8 K8 Y8 N8
        gi_wp2
        exact ⟨K10.out.2, K10.out.1, _, X10.out, by rw [HS.out]; exact O10.out, E10.out⟩
      )

  case done =>
    rintro D Wd hD ⟨v, hbox, hown, hbel⟩ hK
    obtain ⟨Ab, cb, rfl, _, _, _, _⟩ := hown.form
    obtain ⟨nb, hnb⟩ : ∃ nb, (DD (runsL l).length).length = nb := ⟨_, rfl⟩
    rw [hnb] at hown hbox
    have hcb : Wd.cell? ⟨W.heap.size + 1, 0, none⟩ = some (.slice Ab nb cb) := (hbox.at_ 0).trans rfl
    have hOW := own_put hown (.deferred none) hK rfl
    have hBE : Below W.heap.size W (Wd.putObj D (.deferred none)) := hbel.grown (grownBy_putObj' Wd D (.deferred none)) hbel.size (fun r e => by cases e; omega)
    have HFIN := Lib.hid hOW
    have HB := Lib.hid hBE
    clear hOW hBE hown hbel
    gi_wp2
    refine ⟨by simp, .inl ⟨_, _, rfl, run_takeDeferred hK, ?_⟩⟩
    exact ⟨_, results_tmp2 rfl _ _ _, ⟨_, rfl, HFIN.out, HB.out⟩⟩
end Go.Proofs.YtdchaojgldfagaaDoor
