/- Laying a schema: the program's Lay where the schema may be. -/
import Derived.Test.YtabnjiepmhblaaaDoorJ25
namespace Go.Proofs.YtabnjiepmhblaaaDoor
open Go.RowKit Go.Shelf Go.Maps
set_option linter.unusedVariables false
attribute [local go_sem] Oper.semAt_some

/-- Append of bytes onto bytes of the call's own, inside a fence. -/
theorem app_bytI {F : Fence} {n : Nat} {ops : Array Oper} {rest : List Oper} {o : Oper} {a : Act} {Q : Exit → Act → World → Prop} {w : World} (w0 : World) (hgd : o.guard = none) (s x : Operand)
    (ho : o.op = .call { callee := .builtin .append, args := #[s, x], argTypes := #[32, 32] }) (v : Value) (d : List UInt8) (hs : a.eval s = v) (hown : Own w w0.heap.size v d) (hbel : Below w0.heap.size w0 w)
    (ad : Addr) (m c : Nat) (q : List UInt8) (hx : a.eval x = .slice (some ad) m c) (hm : m = q.length) (hq : Byt w (some ad) q) (hsz : d.length + q.length ≤ 140737488355328)
    (h : ∀ v' w', Own w' w0.heap.size v' (d ++ q) → Below w0.heap.size w0 w' → w.grownBy w' v.ownBlock → wpListIn F n Tryd.prog ops Q rest (a.put o.dst v') w') : wpListIn F n Tryd.prog ops Q (o :: rest) a w := by
  obtain ⟨i0, hti, hz0, hz1, hz2⟩ := info_parts Tryd.info5
  subst hm
  refine wpListIn_append_own w hgd s x 32 ho w0.heap.size 5 i0 (.int .u8 0) 1 1 Tryd.underlying32 hti hz0 hz1 hz2 rfl (by decide) v d.length (u8s d) hs hown ad q.length c (u8s q) hx (by rw [u8s_len]; omega) hq.news (u8s_one q) (by unfold maxLen; omega) (by omega) hbel.size ?_
  intro v' w' h1 h2 h5
  obtain ⟨h3, h4⟩ := own_step hbel hown h1 h2
  exact h v' w' h3 h4 h2
theorem encC_len {c : Col} (h : colOk c = true) : (encC c).length ≤ 36 ∧ c.name.size ≤ 24 ∧ 1 ≤ c.kind ∧ c.kind ≤ 3 := by
  unfold colOk at h
  rw [Bool.and_eq_true] at h
  obtain ⟨h1, h2⟩ := h
  unfold nameL at h1
  rw [Bool.and_eq_true, decide_eq_true_iff, sz_list] at h1
  have hk := of_decide_eq_true h2
  have := num_len c.name.size
  refine ⟨?_, h1.1.2, hk.1, hk.2⟩
  unfold encC
  rw [List.length_append, List.length_append, sz_list]
  simp
  omega
theorem flat_len : ∀ l : List { c : Col // colOk c = true }, ((l.map Subtype.val).flatMap encC).length ≤ l.length * 36
  | [] => by simp
  | x :: t => by
    have h1 := (encC_len x.2).1
    have h2 := flat_len t
    simp only [List.map_cons, List.flatMap_cons, List.length_append, List.length_cons]
    omega
theorem cols_ok {l : List Col} (h : rightC l = true) : ∀ c ∈ l, colOk c = true := by
  intro c hc
  apply Classical.byContradiction
  intro hn
  rw [rightC_col hc (by simpa using hn)] at h
  cases h

set_option maxRecDepth 100000 in
set_option maxHeartbeats 4000000 in
theorem lay_ok (B : Option Addr) (A : Option Addr) (bcap cap : Nat) (b : List UInt8) (l : List Col) (W : World) (hy : Byt W B b) (hB : B = none → bcap = 0) (hbl : b.length + 2000 ≤ 140737488355328) (hl : Cols W A l) (hr : rightC l = true) :
    Calls Tryd.prog 11 #[.slice B b.length bcap, .slice A l.length cap] W (MadeT W (b ++ layC l)) := by
  unfold MadeT
  obtain ⟨N, hN⟩ : ∃ N, W.heap.size = N := ⟨_, rfl⟩
  rw [hN]
  obtain ⟨W2, hW2⟩ : ∃ x, x = (W.alloc (Obj.cells #[Value.slice none 0 0] 32)).alloc (Obj.cells #[Value.int .i64 0] 24) := ⟨_, rfl⟩
  have hb : Below W.heap.size W W2 := by rw [hW2]; exact ((Below.refl _ _).alloc (Nat.le_refl _) _).alloc (by simp) _
  have hlen : 1 ≤ l.length ∧ l.length ≤ 16 := by
    apply Classical.byContradiction
    intro h
    rw [rightC_len h] at hr
    cases hr
  have hri := right_any A cap l W2 (hl.keep hb) (by omega)
  rw [hr] at hri
  have b0 : Blk W2 W.heap.size 32 [Value.slice none 0 0] := by rw [hW2]; exact (Blk.born W _ [Value.slice none 0 0]).later _
  have b1 : Blk W2 (W.heap.size + 1) 24 [Value.int .i64 0] := by
    rw [hW2]
    have := Blk.born (W.alloc (Obj.cells #[Value.slice none 0 0] 32)) 24 [Value.int .i64 0]
    rw [World.size_alloc] at this
    exact this
  have s2 : W2.heap.size = N + 2 := by rw [hW2]; simp [hN]
  obtain ⟨n, hn⟩ : ∃ n, l.length = n := ⟨_, rfl⟩
  have hnum := fun (w1 : World) (h : Below W.heap.size W w1) => number_any B bcap n b w1 (hy.keep h) hB (by omega) (by omega)
  rw [hN] at b0 b1
  rw [hn] at hri ⊢
  have HR : Hid (CallsIn Fence.wide 9 _ _ _ _ _) := callsIn_wide.2 hri
  have HNUM : Hid (∀ w1, Below W.heap.size W w1 → CallsIn Fence.wide 9 _ _ _ w1 _) := fun w1 h => callsIn_wide.2 (hnum w1 h)
  have HB := Lib.hid hb
  have HW2 := Lib.hid hW2
  have HNN := Lib.hid hN
  have HLN := Lib.hid hn
  have HL := Lib.hid hl
  have HR1 := Lib.hid hr
  rw [hn] at hlen
  have hcv : IntKind.u64.wrap (n : Int) = (n : Int) := by rw [IntKind.wrap_u64]; omega
  clear hri hb hW2 hl hnum hn hy hr
  refine (callsIn_wide (n := 10)).1 ?_
  refine callsIn_of_wp_marks Tryd.func11 rfl trivial ?_ rfl
  simp only [Tryd.ntmps11, List.size_toArray, List.length_cons, List.length_nil, Nat.reduceAdd, Nat.reduceSub, Array.replicate_succ, Array.replicate_zero, List.push_toArray, List.append_toArray, List.nil_append, List.cons_append]
  gi_wp2_with (first | (rw [← HW2.out]; refine ⟨trivial, ?_⟩; gi_at_call 12; refine HR.out.mono ?_; rintro e w1 ⟨rfl, hb1⟩; have k0 := b0.below hb1 (by omega); have k1 := b1.below hb1 (by omega); have HB1 := Lib.hid (HB.out.trans (hb1.mono HB.out.size)); have hsz1 := hb1.size; clear hb1 b0 b1 HR) | (refine ⟨trivial, ?_⟩; gi_at_call 25; refine (HNUM.out w1 HB1.out).mono ?_; rintro e w2 ⟨v, rfl, hown, hb2⟩; have HOWN := Lib.hid hown; have HB2 := Lib.hid hb2; obtain ⟨A1, c1, rfl, _, _, _, _⟩ := hown.form; clear hown hb2) | (refine ⟨trivial, ?_⟩; gi_at_call 17; refine (columns_fn 9 A n cap _).mono ?_; rintro e w3 ⟨rfl, rfl⟩))
  obtain ⟨X, hX⟩ : ∃ X, w2.heap.size = X := ⟨_, rfl⟩
  rw [hX]
  obtain ⟨W4, hW4⟩ : ∃ x, x = (w2.alloc (Obj.cells #[Value.slice A1 (b.length + (num n).length) c1] 32)).alloc (Obj.cells #[Value.slice A n cap] 22) := ⟨_, rfl⟩
  have hW5 : W4 = allocs w2 [Obj.cells [Value.slice A1 (b.length + (num n).length) c1].toArray 32, Obj.cells [Value.slice A n cap].toArray 22] := hW4
  rw [← hW4]
  have hbX : Blk W4 X 32 [Value.slice A1 (b.length + (num n).length) c1] := by rw [hW5, ← hX]; exact allocs_blk _ w2 0 _ _ rfl
  have hbX1 : Blk W4 (X + 1) 22 [Value.slice A n cap] := by rw [hW5, ← hX]; exact allocs_blk _ w2 1 _ _ rfl
  have hb24 : Below X w2 W4 := by rw [hW5]; exact allocs_below _ w2 w2 X (by omega) (Below.refl _ _)
  have hXw : w1.heap.size ≤ X := by rw [← hX]; exact HB2.out.size
  have hNw : N + 2 ≤ w1.heap.size := by rw [← s2]; exact hsz1
  have hb14 : Below w1.heap.size w1 W4 := HB2.out.trans (hb24.mono hXw)
  have hownA : Own W4 w1.heap.size (Value.slice A1 (b.length + (num n).length) c1) (b ++ num n) := by
    have h := HOWN.out
    rw [List.length_append] at h
    exact h.below (by rw [hX]; exact hb24)
  have s4 : W4.heap.size = X + 2 := by rw [hW5, allocs_size, hX]; rfl
  have k04 := k0.below hb14 (by omega)
  have k14 := k1.below hb14 (by omega)
  have hok := cols_ok HR1.out
  obtain ⟨xs, hxs⟩ := lift_sub (fun c => colOk c = true) l hok
  have hxl : xs.length = n := by rw [← HLN.out, ← hxs, List.length_map]
  have HXS := Lib.hid hxs
  clear hW4 hW5 k0 k1 hok
  refine wpIn_rangeFunc_ownH rfl (by omega) (gf := 36) (lb := #[.pointer (some ⟨X + 1, 0, none⟩)]) rfl trivial (enters_of Tryd.func36 (by kernel_rfl) rfl)
    (cols_stops (Subtype.val : { c : Col // colOk c = true } → Col) 9 (by omega) (X + 1) N N A cap xs (by omega) W4 (by omega) (by omega) (by rw [hxl]; exact (hbX1.at_ 0).trans rfl)
      (fun k hk => by
        obtain ⟨bb, o, e, g3⟩ := HL.out k (by rw [HLN.out, ← hxl]; exact hk)
        have hlt := g3.lt
        rw [HNN.out] at hlt
        have e2 : l[k]'(by rw [HLN.out, ← hxl]; exact hk) = (xs[k]).val := by simp only [← hxs, List.getElem_map]
        rw [e2] at g3
        exact ⟨bb, o, e, hlt, by omega, g3.keep (HB1.out.trans (hb14.mono HB1.out.size)) (by rw [HNN.out]; exact hlt)⟩))
    Kept.trans (Kept.putObj (by omega)) (Below.refl _ _) (fun _ => rfl)
    (fun pre Wd => (Blk Wd N 32 [Value.slice none 0 0] ∧ Blk Wd (N + 1) 24 [Value.int .i64 0] ∧ Blk Wd (X + 1) 22 [Value.slice A n cap]) ∧ (∃ v, Blk Wd X 32 [v] ∧ Own Wd w1.heap.size v (b ++ (num n ++ (pre.map Subtype.val).flatMap encC))) ∧ Below w1.heap.size w1 Wd)
    (fun c pre Wd => False)
    (OwnFrom.and (Own.from (fun s A B row hs hg hr => ⟨(grownBy_keeps_cells hg hr hs.1 rfl).trans hs.1, (grownBy_keeps_cells hg hr hs.2.1 rfl).trans hs.2.1, (grownBy_keeps_cells hg hr hs.2.2 rfl).trans hs.2.2⟩) _) (OwnFrom.and (Own.from (fun s A B row hs hg hr => by obtain ⟨v, h1, h2⟩ := hs; exact ⟨v, (grownBy_keeps_cells hg hr h1 rfl).trans h1, h2.walked hg hr⟩) _) (ownFrom_below (Nat.le_refl _) (by omega))))
    (fun c => fun s A B row hs hg hr => hs)
    ⟨⟨k04, k14, hbX1⟩, ⟨_, hbX, by simpa using hownA⟩, hb14⟩
    (fun x a' Wd => ∃ g, X + 2 ≤ g ∧ a' = { tmps := #[Value.slice B b.length bcap, Value.slice A n cap, undef, undef, Value.pointer (some ⟨N, 0, none⟩), Value.pointer (some ⟨N + 1, 0, none⟩), Value.pointer (some ⟨X, 0, none⟩), .pointer (some ⟨g, 0, none⟩), undef, undef, Value.slice A n cap, Value.bool true, Value.bool false, Value.slice B b.length bcap, Value.slice A n cap, Value.int IntKind.i64 (n : Int), Value.int IntKind.u64 (n : Int), Value.slice A1 (b.length + (num n).length) c1, Value.slice A n cap, Value.func (Fn.func 36) #[] #[Value.pointer (some ⟨X + 1, 0, none⟩)], colV x.val, undef, undef, undef, undef, undef, undef, undef, undef, undef, undef, undef, undef, undef, undef, undef, undef, undef, undef, undef, undef, undef], defers := [] } ∧ Blk Wd g 44 (colC x.val))
    (fun x a' => fun s A B row hs hg hr => by obtain ⟨g, hg0, ha, hb⟩ := hs; exact ⟨g, hg0, ha, (grownBy_keeps_cells hg (fun r e => (hr r e).2) hb rfl).trans hb⟩) ?assign ?body ?done ?stop
  case assign =>
    rintro l0 pre x Wd K ⟨⟨hb0, hb2, hb3⟩, ⟨v, hbv, hov⟩, hbel⟩ hK
    have hsz : X + 2 ≤ Wd.heap.size := by have := lt_of_block hb3; omega
    have hka := Kept.alloc (B := N) (n₀ := N) (w := Wd) (by omega) (Obj.cells (colC x.val).toArray 44)
    have hkf : KeepsFrom W4.heap.size Wd (Wd.alloc (Obj.cells (colC x.val).toArray 44)) := KeepsFrom.of_grownBy (World.grownBy_alloc Wd _ none) (fun k e => by cases e)
    have hK2 := hK _ _ hkf hka ⟨⟨hb0.later _, hb2.later _, hb3.later _⟩, ⟨v, hbv.later _, hov.alloc _⟩, hbel.alloc hbel.size _⟩ ⟨Wd.heap.size, hsz, rfl, Blk.born Wd _ _⟩
    clear hK hka hkf hov hbv hb0 hb2 hb3
    unfold colV colC at hK2
    unfold colV
    gi_wp2
    exact hK2
  case body =>
    rintro l0 pre x a' Wd hl0 hrec ⟨⟨hb0, hb2, hb3⟩, ⟨v, hbv, hov⟩, hbel⟩ ⟨g, hg0, rfl, hbx⟩ hlt2
    have hxo := encC_len x.2
    obtain ⟨d, hd⟩ : ∃ d, b ++ (num n ++ (pre.map Subtype.val).flatMap encC) = d := ⟨_, rfl⟩
    have hdl : d.length ≤ b.length + 600 := by
      have h1 := flat_len pre
      have h2 := num_len n
      rw [← hd, List.length_append, List.length_append]
      have : pre.length ≤ 15 := by omega
      omega
    rw [hd] at hov
    obtain ⟨Av, cv, rfl, _, _, _, _⟩ := hov.form
    obtain ⟨c, hc⟩ : ∃ c, x.val = c := ⟨_, rfl⟩
    rw [hc] at hbx hxo
    obtain ⟨q, hq⟩ : ∃ q, ([] : List UInt8) ++ num c.name.size ++ c.name.data.toList = q := ⟨_, rfl⟩
    have hql : q.length = (num c.name.size).length + c.name.size := by rw [← hq, List.nil_append, List.length_append, sz_list]
    have hq0 := num_len c.name.size
    have htx := text_any none 0 c.name [] Wd (by omega) (Byt.empty _ _) (fun _ => rfl) (by simp)
    rw [hq] at htx
    have HT := Lib.hid htx
    have hc0 : Wd.cell? ⟨g, 0, none⟩ = some (.string c.name) := (hbx.at_ 0).trans rfl
    have hcX : Wd.cell? ⟨X, 0, none⟩ = some (.slice Av d.length cv) := (hbv.at_ 0).trans rfl
    have HBX := Lib.hid hbx
    have HBV := Lib.hid hbv
    have HOV := Lib.hid hov
    have HBEL := Lib.hid hbel
    have HB3 := Lib.hid (And.intro hb0 (And.intro hb2 hb3))
    have HQ := Lib.hid hq
    have HQL := Lib.hid hql
    have HD := Lib.hid hd
    have HC := Lib.hid hc
    have hszd : X + 2 ≤ Wd.heap.size := by have := lt_of_block hb3; omega
    have hgl : g < Wd.heap.size := lt_of_block hbx
    unfold colV
    rw [hc]
    clear hbx hbv hov hbel hb0 hb2 hb3 hq hql hd htx hc hrec
    gi_wp2_with (first | (refine ⟨trivial, ?_⟩; gi_at_call 26; refine ((CallsIn.inRound l0 (callsIn_wide.2 HT.out)).mono ?_); rintro e w5 ⟨v5, rfl, hown5, hb5⟩; obtain ⟨A5, c5, rfl, hy5, hn5, _, _⟩ := hown5.form; obtain ⟨ad5, rfl⟩ : ∃ ad, A5 = some ad := ⟨_, (hy5 0 (by have := HQL.out; omega)).choose_spec.choose_spec.1⟩; have HBX5 := Lib.hid (HBX.out.below hb5 hgl); have HBV5 := Lib.hid (HBV.out.below hb5 (by omega)); have HOV5 := Lib.hid (HOV.out.below hb5); have HBE5 := Lib.hid (HBEL.out.trans (hb5.mono HBEL.out.size)); have HB35 := Lib.hid (And.intro (HB3.out.1.below hb5 (by omega)) (And.intro (HB3.out.2.1.below hb5 (by omega)) (HB3.out.2.2.below hb5 (by omega)))); have HKO5 := Lib.hid (below_others hb5); have cX5 : w5.cell? ⟨X, 0, none⟩ = some (.slice Av d.length cv) := (HBV5.out.at_ 0).trans rfl; have HY5 := Lib.hid hy5; clear hown5 hb5 hy5) | (gi_at_builtin; refine app_bytI w1 rfl _ _ rfl _ d rfl HOV5.out HBE5.out ad5 _ c5 q rfl rfl HY5.out (by have := HQL.out; omega) ?_; intro v6 w6 hown6 hbel6 hgr6; obtain ⟨A6, c6, rfl, _, _, _, _⟩ := hown6.form; have fX6 : w6.frozen? ⟨X, 0, none⟩ = false := Blk.free ((hgr6.block X (lt_of_block HBV5.out) (fun e => (HOV5.out.ne HBV5.out (by decide)) e.symm)).trans HBV5.out) 0; have cX6 : w6.cell? ⟨X, 0, none⟩ = some (.slice Av d.length cv) := (Blk.at_ ((hgr6.block X (lt_of_block HBV5.out) (fun e => (HOV5.out.ne HBV5.out (by decide)) e.symm)).trans HBV5.out) 0).trans rfl; have HO6 := Lib.hid hown6; have HBE6 := Lib.hid hbel6; have HG6 := Lib.hid hgr6; clear hown6 hbel6 hgr6))
    have hgX : g ≠ X := by omega
    obtain ⟨W7, hW7⟩ : ∃ x, x = w6.setCell ⟨X, 0, none⟩ (.slice A6 (d.length + q.length) c6) := ⟨_, rfl⟩
    rw [← hW7]
    have hgw5 := HG6.out
    have hXlt := lt_of_block HBV5.out
    have e6 : ∀ k t cs, Blk w5 k t cs → t ≠ 5 → Blk w6 k t cs := fun k t cs h ht => (hgw5.block k (lt_of_block h) (fun e => (HOV5.out.ne h ht) e.symm)).trans h
    have hs7 : Sole X w6 W7 := by rw [hW7]; exact (Sole.refl X w6).setCell 0 _
    have hX7 : Blk W7 X 32 [.slice A6 (d.length + q.length) c6] := by rw [hW7]; exact (e6 X _ _ HBV5.out (by decide)).store 0 _
    have hg7 : Blk W7 g 44 (colC c) := (e6 g _ _ HBX5.out (by decide)).sole hs7 hgX
    have hN7 : Blk W7 N 32 [Value.slice none 0 0] := (e6 N _ _ HB35.out.1 (by decide)).sole hs7 (by omega)
    have hN17 : Blk W7 (N + 1) 24 [Value.int .i64 0] := (e6 (N + 1) _ _ HB35.out.2.1 (by decide)).sole hs7 (by omega)
    have hX17 : Blk W7 (X + 1) 22 [Value.slice A n cap] := (e6 (X + 1) _ _ HB35.out.2.2 (by decide)).sole hs7 (by omega)
    have hO7 : Own W7 w1.heap.size (.slice A6 (d.length + q.length) c6) (d ++ q) := by
      have h := HO6.out
      rw [List.length_append] at h
      exact h.kept fun k hk => hs7.block k fun e => h.ne (e6 X _ _ HBV5.out (by decide)) (by decide) (e ▸ hk)
    have hBE7 : Below w1.heap.size w1 W7 := hs7.below HBE6.out (by omega)
    have hKO7 : KeepsOthers Wd W7 := (HKO5.out.trans (HOV5.out.others hgw5)).trans (by rw [hW7]; exact KeepsOthers.setCell _ _ _)
    clear hW7 e6 hs7 hgw5 HBX HBV HOV HB3 HBX5 HBV5 HOV5 HBE5 HB35 HKO5 HG6 HO6 HBE6 HT cX5 fX6 cX6
    obtain ⟨kb, hkb⟩ : ∃ kb, UInt8.ofNat c.kind.toNat = kb := ⟨_, rfl⟩
    obtain ⟨nb, hnb⟩ : ∃ nb, nullB c.null = nb := ⟨_, rfl⟩
    have hkw : IntKind.u8.wrap c.kind = (kb.toNat : Int) := by
      rw [← hkb, UInt8.toNat_ofNat']
      have h1 := hxo.2.2.1
      have h2 := hxo.2.2.2
      simp [IntKind.wrap, IntKind.signed, IntKind.bits]
      omega
    have hfl := flag_any c.null W7.drew
    rw [hnb] at hfl
    have hfl2 := flag_any c.null (W7.alloc (Obj.cells #[Value.int IntKind.u8 (kb.toNat : Int), Value.int IntKind.u8 (nb.toNat : Int)] 5)).drew
    have r0 : W7.cell? ⟨X, 0, none⟩ = some (.slice A6 (d.length + q.length) c6) := (hX7.at_ 0).trans rfl
    have hXl7 := lt_of_block hX7
    have hE : encC c = q ++ [kb, nb] := by unfold encC; rw [← HQ.out, hkb, hnb]; rfl
    have HE := Lib.hid hE
    have HS8 : Hid (Blk (W7.alloc (Obj.cells #[Value.int IntKind.u8 (kb.toNat : Int), Value.int IntKind.u8 (nb.toNat : Int)] 5)).drew g 44 (colC c)) := hg7.later _
    have HO8 : Hid (Own (W7.alloc (Obj.cells #[Value.int IntKind.u8 (kb.toNat : Int), Value.int IntKind.u8 (nb.toNat : Int)] 5)).drew w1.heap.size (.slice A6 (d.length + q.length) c6) (d ++ q)) := hO7.alloc _
    have HB8 : Hid (Below w1.heap.size w1 (W7.alloc (Obj.cells #[Value.int IntKind.u8 (kb.toNat : Int), Value.int IntKind.u8 (nb.toNat : Int)] 5)).drew) := (hBE7.alloc hBE7.size _).drew
    have HY8 : Hid (Byt (W7.alloc (Obj.cells #[Value.int IntKind.u8 (kb.toNat : Int), Value.int IntKind.u8 (nb.toNat : Int)] 5)).drew (some ⟨W7.heap.size, 0, none⟩) [kb, nb]) := blk_byt (l := [kb, nb]) (Blk.born W7 5 (u8s [kb, nb]))
    have HX8 : Hid (Blk (W7.alloc (Obj.cells #[Value.int IntKind.u8 (kb.toNat : Int), Value.int IntKind.u8 (nb.toNat : Int)] 5)).drew X 32 [.slice A6 (d.length + q.length) c6]) := hX7.later _
    have HN8 : Hid (Blk (W7.alloc (Obj.cells #[Value.int IntKind.u8 (kb.toNat : Int), Value.int IntKind.u8 (nb.toNat : Int)] 5)).drew N 32 [Value.slice none 0 0] ∧ Blk (W7.alloc (Obj.cells #[Value.int IntKind.u8 (kb.toNat : Int), Value.int IntKind.u8 (nb.toNat : Int)] 5)).drew (N + 1) 24 [Value.int .i64 0] ∧ Blk (W7.alloc (Obj.cells #[Value.int IntKind.u8 (kb.toNat : Int), Value.int IntKind.u8 (nb.toNat : Int)] 5)).drew (X + 1) 22 [Value.slice A n cap]) := ⟨hN7.later _, hN17.later _, hX17.later _⟩
    have HKO8 : Hid (KeepsOthers Wd (W7.alloc (Obj.cells #[Value.int IntKind.u8 (kb.toNat : Int), Value.int IntKind.u8 (nb.toNat : Int)] 5)).drew) := (hKO7.trans (KeepsOthers.alloc W7 _)).trans (KeepsOthers.drew _)
    have hS : Blk W7.drew g 44 (colC c) := hg7
    clear hO7 hBE7 hX7 hg7 hN7 hN17 hX17 hKO7 hkb hnb hE hfl2
    refine region_in (S := fun W => Blk W g 44 (colC c)) (k := 10) (by kernel_rfl) (by rintro ⟨a, w, h⟩; exact h) (by kernel_rfl) rfl (fun RG HR => ?_)
    refine wpS_take HR (i := 1) (v := .pointer (some ⟨g, 1, none⟩)) rfl (by decide +kernel) (by decide +kernel) (by decide +kernel) (fun _ _ _ h => h) (by rfl) hS (fun W hW => by go_simp) ?_
    go_simp
    refine wpS_take HR (i := 2) (v := .int .i64 c.kind) rfl (by decide +kernel) (by decide +kernel) (by decide +kernel) (fun _ _ _ h => h) (by rfl) hS (fun W hW => by have q1 : W.cell? ⟨g, 1, none⟩ = some (.int .i64 c.kind) := (hW.at_ 1).trans rfl; go_simp) ?_
    go_simp
    refine wpS_take HR (i := 3) (v := .int .u8 (kb.toNat : Int)) rfl (by decide +kernel) (by decide +kernel) (by decide +kernel) (fun _ _ _ h => h) (by rfl) hS (fun W hW => by go_simp) ?_
    go_simp
    refine wpS_take HR (i := 4) (v := .pointer (some ⟨g, 2, none⟩)) rfl (by decide +kernel) (by decide +kernel) (by decide +kernel) (fun _ _ _ h => h) (by rfl) hS (fun W hW => by go_simp) ?_
    go_simp
    refine wpS_take HR (i := 5) (v := .bool c.null) rfl (by decide +kernel) (by decide +kernel) (by decide +kernel) (fun _ _ _ h => h) (by rfl) hS (fun W hW => by have q2 : W.cell? ⟨g, 2, none⟩ = some (.bool c.null) := (hW.at_ 2).trans rfl; go_simp) ?_
    go_simp
    refine wpS_step2 HR (i := 0) (k := 6) (by decide +kernel) ?_ ?_
    · refine stepS_val HR (v := .slice A6 (d.length + q.length) c6) rfl (by rfl) (by go_simp) hS ?_
      go_simp
      refine wpS_step1 HR (i := 6) (by decide +kernel) ?_
      refine stepS_call HR rfl (by rfl) (by go_simp; exact ⟨rfl, rfl⟩) ?_
      refine hfl.mono ?_
      rintro e w9 ⟨rfl, rfl⟩
      refine ⟨_, rfl, hS, ?_⟩
      go_simp
      refine wpS_step1 HR (i := 7) (by decide +kernel) ?_
      refine stepS_list HR rfl rfl ?_
      intro K hK
      go_wp2
      refine hK _ _ HS8.out ?_
      clear hK K
      have hS := HS8.out
      refine wpS_step1 HR (i := 8) (by decide +kernel) ?_
      refine stepS_list HR rfl rfl ?_
      intro K hK
      refine app_byt w1 rfl _ _ rfl _ (d ++ q) rfl HO8.out HB8.out (some ⟨W7.heap.size, 0, none⟩) 2 2 [kb, nb] rfl rfl HY8.out (fun h => by cases h) (by have := HQL.out; simp; omega) ?_
      intro v9 w9 hown9 hbel9 hgr9
      obtain ⟨A9, c9, rfl, _, _, _, _⟩ := hown9.form
      have f9 : ∀ k t cs, Blk (W7.alloc (Obj.cells #[Value.int IntKind.u8 (kb.toNat : Int), Value.int IntKind.u8 (nb.toNat : Int)] 5)).drew k t cs → t ≠ 5 → Blk w9 k t cs := fun k t cs h ht => (hgr9.1.block k (lt_of_block h) (fun e => (HO8.out.ne h ht) e.symm)).trans h
      refine wpList_nil (hK _ _ (f9 g _ _ HS8.out (by decide)) ?_)
      clear hK K hS
      have hS := f9 g _ _ HS8.out (by decide)
      have fX9 := (f9 X _ _ HX8.out (by decide)).free 0
      have cX9 : w9.cell? ⟨X, 0, none⟩ = some (.slice A6 (d.length + q.length) c6) := ((f9 X _ _ HX8.out (by decide)).at_ 0).trans rfl
      have HO9 := Lib.hid hown9
      have HBE9 := Lib.hid hbel9
      have HG9 := Lib.hid hgr9.1
      have HF9 := Lib.hid f9
      clear hown9 hbel9 hgr9 f9
      refine wpS_step1 HR (i := 9) (by decide +kernel) ?_
      refine stepS_list HR rfl rfl ?_
      intro K hK
      go_wp2
      have hs9 : Sole X w9 (w9.setCell ⟨X, 0, none⟩ (.slice A9 (d.length + (q.length + 2)) c9)) := (Sole.refl X w9).setCell 0 _
      refine hK _ _ (hS.sole hs9 hgX) ?_
      clear hK K
      refine wpS_done HR (by decide +kernel) ?_
      have e9 : ∀ k t cs, Blk (W7.alloc (Obj.cells #[Value.int IntKind.u8 (kb.toNat : Int), Value.int IntKind.u8 (nb.toNat : Int)] 5)).drew k t cs → t ≠ 5 → k ≠ X → Blk (w9.setCell ⟨X, 0, none⟩ (.slice A9 (d.length + (q.length + 2)) c9)) k t cs := fun k t cs h ht hk => (HF9.out k t cs h ht).sole hs9 hk
      have kX := (HF9.out X _ _ HX8.out (by decide)).store 0 (.slice A9 (d.length + (q.length + 2)) c9)
      have hO := HO9.out
      rw [show (d ++ q ++ [kb, nb]).length = d.length + (q.length + 2) by simp] at hO
      have hO2 := hO.kept (w' := w9.setCell ⟨X, 0, none⟩ (.slice A9 (d.length + (q.length + 2)) c9)) (fun k hk => hs9.block k (fun e => hO.ne (HF9.out X _ _ HX8.out (by decide)) (by decide) (e ▸ hk)))
      have hB10 := hs9.below HBE9.out (by omega)
      have hKO := (HKO8.out.trans (HO8.out.others HG9.out)).trans (KeepsOthers.setCell w9 ⟨X, 0, none⟩ (.slice A9 (d.length + (q.length + 2)) c9))
      have hL : b ++ (num n ++ ((pre ++ [x]).map Subtype.val).flatMap encC) = d ++ q ++ [kb, nb] := by
        rw [List.map_append, List.map_cons, List.map_nil, HC.out, List.flatMap_append, List.flatMap_cons, List.flatMap_nil, List.append_nil, ← List.append_assoc (num n), ← List.append_assoc b, HD.out, HE.out, ← List.append_assoc]
      exact (show KeepsFrom W4.heap.size Wd _ ∧ Kept N N Wd _ ∧ ((Blk _ N 32 [Value.slice none 0 0] ∧ Blk _ (N + 1) 24 [Value.int .i64 0] ∧ Blk _ (X + 1) 22 [Value.slice A n cap]) ∧ (∃ v, Blk _ X 32 [v] ∧ Own _ w1.heap.size v (b ++ (num n ++ ((pre ++ [x]).map Subtype.val).flatMap encC))) ∧ Below w1.heap.size w1 _) from ⟨hKO.from _, ⟨hKO.size, fun k hk _ => (hB10.block k (by omega)).trans (HBEL.out.block k (by omega)).symm⟩, ⟨e9 N _ _ HN8.out.1 (by decide) (by omega), e9 (N + 1) _ _ HN8.out.2.1 (by decide) (by omega), e9 (X + 1) _ _ HN8.out.2.2 (by decide) (by omega)⟩, ⟨_, kX, by rw [hL]; exact hO2⟩, hB10⟩)
    · refine stepS_call HR rfl (by rfl) (by go_simp; exact ⟨rfl, rfl⟩) ?_
      refine hfl.mono ?_
      rintro e w9 ⟨rfl, rfl⟩
      refine ⟨_, rfl, hS, ?_⟩
      go_simp
      refine wpS_step2 HR (i := 0) (k := 7) (by decide +kernel) ?_ ?_
      · refine stepS_val HR (v := .slice A6 (d.length + q.length) c6) rfl (by rfl) (by go_simp) hS ?_
        go_simp
        refine wpS_step1 HR (i := 7) (by decide +kernel) ?_
        refine stepS_list HR rfl rfl ?_
        intro K hK
        go_wp2
        refine hK _ _ HS8.out ?_
        clear hK K
        have hS := HS8.out
        refine wpS_step1 HR (i := 8) (by decide +kernel) ?_
        refine stepS_list HR rfl rfl ?_
        intro K hK
        refine app_byt w1 rfl _ _ rfl _ (d ++ q) rfl HO8.out HB8.out (some ⟨W7.heap.size, 0, none⟩) 2 2 [kb, nb] rfl rfl HY8.out (fun h => by cases h) (by have := HQL.out; simp; omega) ?_
        intro v9 w9 hown9 hbel9 hgr9
        obtain ⟨A9, c9, rfl, _, _, _, _⟩ := hown9.form
        have f9 : ∀ k t cs, Blk (W7.alloc (Obj.cells #[Value.int IntKind.u8 (kb.toNat : Int), Value.int IntKind.u8 (nb.toNat : Int)] 5)).drew k t cs → t ≠ 5 → Blk w9 k t cs := fun k t cs h ht => (hgr9.1.block k (lt_of_block h) (fun e => (HO8.out.ne h ht) e.symm)).trans h
        refine wpList_nil (hK _ _ (f9 g _ _ HS8.out (by decide)) ?_)
        clear hK K hS
        have hS := f9 g _ _ HS8.out (by decide)
        have fX9 := (f9 X _ _ HX8.out (by decide)).free 0
        have cX9 : w9.cell? ⟨X, 0, none⟩ = some (.slice A6 (d.length + q.length) c6) := ((f9 X _ _ HX8.out (by decide)).at_ 0).trans rfl
        have HO9 := Lib.hid hown9
        have HBE9 := Lib.hid hbel9
        have HG9 := Lib.hid hgr9.1
        have HF9 := Lib.hid f9
        clear hown9 hbel9 hgr9 f9
        refine wpS_step1 HR (i := 9) (by decide +kernel) ?_
        refine stepS_list HR rfl rfl ?_
        intro K hK
        go_wp2
        have hs9 : Sole X w9 (w9.setCell ⟨X, 0, none⟩ (.slice A9 (d.length + (q.length + 2)) c9)) := (Sole.refl X w9).setCell 0 _
        refine hK _ _ (hS.sole hs9 hgX) ?_
        clear hK K
        refine wpS_done HR (by decide +kernel) ?_
        have e9 : ∀ k t cs, Blk (W7.alloc (Obj.cells #[Value.int IntKind.u8 (kb.toNat : Int), Value.int IntKind.u8 (nb.toNat : Int)] 5)).drew k t cs → t ≠ 5 → k ≠ X → Blk (w9.setCell ⟨X, 0, none⟩ (.slice A9 (d.length + (q.length + 2)) c9)) k t cs := fun k t cs h ht hk => (HF9.out k t cs h ht).sole hs9 hk
        have kX := (HF9.out X _ _ HX8.out (by decide)).store 0 (.slice A9 (d.length + (q.length + 2)) c9)
        have hO := HO9.out
        rw [show (d ++ q ++ [kb, nb]).length = d.length + (q.length + 2) by simp] at hO
        have hO2 := hO.kept (w' := w9.setCell ⟨X, 0, none⟩ (.slice A9 (d.length + (q.length + 2)) c9)) (fun k hk => hs9.block k (fun e => hO.ne (HF9.out X _ _ HX8.out (by decide)) (by decide) (e ▸ hk)))
        have hB10 := hs9.below HBE9.out (by omega)
        have hKO := (HKO8.out.trans (HO8.out.others HG9.out)).trans (KeepsOthers.setCell w9 ⟨X, 0, none⟩ (.slice A9 (d.length + (q.length + 2)) c9))
        have hL : b ++ (num n ++ ((pre ++ [x]).map Subtype.val).flatMap encC) = d ++ q ++ [kb, nb] := by
          rw [List.map_append, List.map_cons, List.map_nil, HC.out, List.flatMap_append, List.flatMap_cons, List.flatMap_nil, List.append_nil, ← List.append_assoc (num n), ← List.append_assoc b, HD.out, HE.out, ← List.append_assoc]
        exact (show KeepsFrom W4.heap.size Wd _ ∧ Kept N N Wd _ ∧ ((Blk _ N 32 [Value.slice none 0 0] ∧ Blk _ (N + 1) 24 [Value.int .i64 0] ∧ Blk _ (X + 1) 22 [Value.slice A n cap]) ∧ (∃ v, Blk _ X 32 [v] ∧ Own _ w1.heap.size v (b ++ (num n ++ ((pre ++ [x]).map Subtype.val).flatMap encC))) ∧ Below w1.heap.size w1 _) from ⟨hKO.from _, ⟨hKO.size, fun k hk _ => (hB10.block k (by omega)).trans (HBEL.out.block k (by omega)).symm⟩, ⟨e9 N _ _ HN8.out.1 (by decide) (by omega), e9 (N + 1) _ _ HN8.out.2.1 (by decide) (by omega), e9 (X + 1) _ _ HN8.out.2.2 (by decide) (by omega)⟩, ⟨_, kX, by rw [hL]; exact hO2⟩, hB10⟩)
      · refine stepS_list HR rfl rfl ?_
        intro K hK
        go_wp2
        refine hK _ _ HS8.out ?_
        clear hK K
        have hS := HS8.out
        refine wpS_step1 HR (i := 0) (by decide +kernel) ?_
        refine stepS_val HR (v := .slice A6 (d.length + q.length) c6) rfl (by rfl) (by go_simp) hS ?_
        go_simp
        refine wpS_step1 HR (i := 8) (by decide +kernel) ?_
        refine stepS_list HR rfl rfl ?_
        intro K hK
        refine app_byt w1 rfl _ _ rfl _ (d ++ q) rfl HO8.out HB8.out (some ⟨W7.heap.size, 0, none⟩) 2 2 [kb, nb] rfl rfl HY8.out (fun h => by cases h) (by have := HQL.out; simp; omega) ?_
        intro v9 w9 hown9 hbel9 hgr9
        obtain ⟨A9, c9, rfl, _, _, _, _⟩ := hown9.form
        have f9 : ∀ k t cs, Blk (W7.alloc (Obj.cells #[Value.int IntKind.u8 (kb.toNat : Int), Value.int IntKind.u8 (nb.toNat : Int)] 5)).drew k t cs → t ≠ 5 → Blk w9 k t cs := fun k t cs h ht => (hgr9.1.block k (lt_of_block h) (fun e => (HO8.out.ne h ht) e.symm)).trans h
        refine wpList_nil (hK _ _ (f9 g _ _ HS8.out (by decide)) ?_)
        clear hK K hS
        have hS := f9 g _ _ HS8.out (by decide)
        have fX9 := (f9 X _ _ HX8.out (by decide)).free 0
        have cX9 : w9.cell? ⟨X, 0, none⟩ = some (.slice A6 (d.length + q.length) c6) := ((f9 X _ _ HX8.out (by decide)).at_ 0).trans rfl
        have HO9 := Lib.hid hown9
        have HBE9 := Lib.hid hbel9
        have HG9 := Lib.hid hgr9.1
        have HF9 := Lib.hid f9
        clear hown9 hbel9 hgr9 f9
        refine wpS_step1 HR (i := 9) (by decide +kernel) ?_
        refine stepS_list HR rfl rfl ?_
        intro K hK
        go_wp2
        have hs9 : Sole X w9 (w9.setCell ⟨X, 0, none⟩ (.slice A9 (d.length + (q.length + 2)) c9)) := (Sole.refl X w9).setCell 0 _
        refine hK _ _ (hS.sole hs9 hgX) ?_
        clear hK K
        refine wpS_done HR (by decide +kernel) ?_
        have e9 : ∀ k t cs, Blk (W7.alloc (Obj.cells #[Value.int IntKind.u8 (kb.toNat : Int), Value.int IntKind.u8 (nb.toNat : Int)] 5)).drew k t cs → t ≠ 5 → k ≠ X → Blk (w9.setCell ⟨X, 0, none⟩ (.slice A9 (d.length + (q.length + 2)) c9)) k t cs := fun k t cs h ht hk => (HF9.out k t cs h ht).sole hs9 hk
        have kX := (HF9.out X _ _ HX8.out (by decide)).store 0 (.slice A9 (d.length + (q.length + 2)) c9)
        have hO := HO9.out
        rw [show (d ++ q ++ [kb, nb]).length = d.length + (q.length + 2) by simp] at hO
        have hO2 := hO.kept (w' := w9.setCell ⟨X, 0, none⟩ (.slice A9 (d.length + (q.length + 2)) c9)) (fun k hk => hs9.block k (fun e => hO.ne (HF9.out X _ _ HX8.out (by decide)) (by decide) (e ▸ hk)))
        have hB10 := hs9.below HBE9.out (by omega)
        have hKO := (HKO8.out.trans (HO8.out.others HG9.out)).trans (KeepsOthers.setCell w9 ⟨X, 0, none⟩ (.slice A9 (d.length + (q.length + 2)) c9))
        have hL : b ++ (num n ++ ((pre ++ [x]).map Subtype.val).flatMap encC) = d ++ q ++ [kb, nb] := by
          rw [List.map_append, List.map_cons, List.map_nil, HC.out, List.flatMap_append, List.flatMap_cons, List.flatMap_nil, List.append_nil, ← List.append_assoc (num n), ← List.append_assoc b, HD.out, HE.out, ← List.append_assoc]
        exact (show KeepsFrom W4.heap.size Wd _ ∧ Kept N N Wd _ ∧ ((Blk _ N 32 [Value.slice none 0 0] ∧ Blk _ (N + 1) 24 [Value.int .i64 0] ∧ Blk _ (X + 1) 22 [Value.slice A n cap]) ∧ (∃ v, Blk _ X 32 [v] ∧ Own _ w1.heap.size v (b ++ (num n ++ ((pre ++ [x]).map Subtype.val).flatMap encC))) ∧ Below w1.heap.size w1 _) from ⟨hKO.from _, ⟨hKO.size, fun k hk _ => (hB10.block k (by omega)).trans (HBEL.out.block k (by omega)).symm⟩, ⟨e9 N _ _ HN8.out.1 (by decide) (by omega), e9 (N + 1) _ _ HN8.out.2.1 (by decide) (by omega), e9 (X + 1) _ _ HN8.out.2.2 (by decide) (by omega)⟩, ⟨_, kX, by rw [hL]; exact hO2⟩, hB10⟩)
  case done =>
    rintro D ys Wd hD rfl ⟨⟨hb0, hb2, hb3⟩, ⟨v, hbv, hov⟩, hbel⟩ hK
    obtain ⟨Av, cv, rfl, _, _, _, _⟩ := hov.form
    have hfin : b ++ (num n ++ (ys.map Subtype.val).flatMap encC) = b ++ layC l := by unfold layC; rw [HXS.out, HLN.out]
    rw [hfin] at hov hbv
    obtain ⟨fin, hf⟩ : ∃ fin, b ++ layC l = fin := ⟨_, rfl⟩
    rw [hf] at hov hbv
    have HF := Lib.hid hf
    clear hf hfin
    have hcX : Wd.cell? ⟨X, 0, none⟩ = some (.slice Av fin.length cv) := (hbv.at_ 0).trans rfl
    have hcN : Wd.cell? ⟨N, 0, none⟩ = some (.slice none 0 0) := (hb0.at_ 0).trans rfl
    have hcM : Wd.cell? ⟨N + 1, 0, none⟩ = some (.int .i64 0) := (hb2.at_ 0).trans rfl
    have fN := hb0.free 0
    have fM := hb2.free 0
    have HB := Lib.hid (And.intro hb0 hb2)
    have HOV := Lib.hid hov
    have HBEL := Lib.hid hbel
    have HK := Lib.hid hK
    have HB3 := Lib.hid hb3
    clear hb0 hb2 hb3 hbv hov hbel hK
    gi_wp2
    have hs2 : Sole N Wd (Wd.setCell ⟨N, 0, none⟩ (.slice Av fin.length cv)) := (Sole.refl N Wd).setCell 0 _
    have hs3 : Sole (N + 1) (Wd.setCell ⟨N, 0, none⟩ (.slice Av fin.length cv)) ((Wd.setCell ⟨N, 0, none⟩ (.slice Av fin.length cv)).setCell ⟨N + 1, 0, none⟩ (.int .i64 0)) := (Sole.refl (N + 1) _).setCell 0 _
    have k2 := (HB.out.1.store 0 (.slice Av fin.length cv)).sole hs3 (by omega)
    have k3 := (HB.out.2.sole hs2 (by omega)).store 0 (.int .i64 0)
    have kO : Own ((Wd.setCell ⟨N, 0, none⟩ (.slice Av fin.length cv)).setCell ⟨N + 1, 0, none⟩ (.int .i64 0)) w1.heap.size (.slice Av fin.length cv) fin := by
      refine HOV.out.kept fun k hk => ?_
      have hge := HOV.out.lt k hk
      exact (hs3.block k (by omega)).trans (hs2.block k (by omega))
    have hBN : Below N W Wd := by
      have h1 := HB1.out
      rw [HNN.out] at h1
      exact h1.trans (HBEL.out.mono (by omega))
    have kB := hs3.below (hs2.below hBN (by omega)) (by omega)
    have kD := (hs3.block D (by omega)).trans ((hs2.block D (by omega)).trans HK.out)
    generalize (Wd.setCell ⟨N, 0, none⟩ (.slice Av fin.length cv)).setCell ⟨N + 1, 0, none⟩ (.int .i64 0) = W6 at k2 k3 kO kB kD
    refine ⟨by simp, .inl ⟨_, _, rfl, run_takeDeferred kD, ?_⟩⟩
    have c2 : (W6.putObj D (Obj.deferred none)).cell? ⟨N, 0, none⟩ = some (.slice Av fin.length cv) := (Blk.at_ (show Blk (W6.putObj D (Obj.deferred none)) N 32 _ from (World.putObj_heap_other (by omega)).trans k2) 0).trans rfl
    have c3 : (W6.putObj D (Obj.deferred none)).cell? ⟨N + 1, 0, none⟩ = some (.int .i64 0) := (Blk.at_ (show Blk (W6.putObj D (Obj.deferred none)) (N + 1) 24 _ from (World.putObj_heap_other (by omega)).trans k3) 0).trans rfl
    have hB2 : Below N W (W6.putObj D (Obj.deferred none)) := kB.trans (belowK_b (w := W) (by omega) W6 D _ _ (by omega) kD rfl rfl)
    have kO2 : Own (W6.putObj D (Obj.deferred none)) N (.slice Av fin.length cv) fin := (kO.walked (grownBy_putObj' W6 D _) (fun r e => by cases e; exact ⟨_, kD, rfl⟩)).base (by omega)
    refine ⟨.tuple #[.slice Av fin.length cv, .int .i64 0], ?_, _, rfl, by rw [HF.out]; exact kO2, hB2⟩
    clear k2 k3 kO kB kD hs2 hs3 HB kO2
    rw [results_cell2 rfl]
    go_simp
  case stop =>
    rintro D c pre Wd hD hpre h hK
    exact h.elim
end Go.Proofs.YtabnjiepmhblaaaDoor
