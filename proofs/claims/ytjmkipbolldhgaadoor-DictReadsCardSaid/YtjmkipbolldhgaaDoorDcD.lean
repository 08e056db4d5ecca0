/- The head 'shown' of dict's laws; DictOnce's walk. -/
import Derived.Test.YtjmkipbolldhgaaDoorDcC
namespace Go.Proofs.YtjmkipbolldhgaaDoor
open Go.RowKit
set_option linter.unusedVariables false

theorem encT_bab : encT 1 [[98], [97], [98]] = [1, 2, 1, 97, 1, 98, 1, 5] := by decide +kernel
theorem strs_blk {W : World} {g : Nat} {t : TypeId} {l : List Tx} (h : Blk W g t (l.map fun x => .string (str x))) : Strs W (some ⟨g, 0, none⟩) l := by
  intro i hi
  refine ⟨g, 0, rfl, ?_⟩
  rw [Nat.zero_add, h.at_]
  simp [hi]
set_option maxRecDepth 100000 in
set_option maxHeartbeats 2000000 in
theorem shown7_any (w : World) (hT : TabAt w) : Calls Tryd.prog 7 #[] w fun e w' => e = .returned (.bool true) ∧ Below w.heap.size w w' := by
  obtain ⟨W1, hW1⟩ : ∃ x, x = w.alloc (.cells #[Value.string ⟨#[98]⟩, Value.string ⟨#[97]⟩, Value.string ⟨#[98]⟩] 9) := ⟨_, rfl⟩
  have hb1 : Below w.heap.size w W1 := by rw [hW1]; exact (Below.refl _ _).alloc (Nat.le_refl _) _
  have hst : Strs W1 (some ⟨w.heap.size, 0, none⟩) [[98], [97], [98]] := by rw [hW1]; exact strs_blk (t := 9) (Blk.born w 9 _)
  have henc : Calls Tryd.prog 8 #[.int .i64 1, .slice (some ⟨w.heap.size, 0, none⟩) 3 3] W1 (LaidT W1 (encT 1 [[98], [97], [98]])) := tenc1_any (some ⟨w.heap.size, 0, none⟩) 3 [[98], [97], [98]] W1 hst (by decide) (hT.keep hb1)
  rw [encT_bab] at henc
  unfold LaidT at henc
  have HENC := Lib.hid henc
  have HB1 := Lib.hid hb1
  have HW1 := Lib.hid hW1
  clear henc hst hT hb1 hW1
  go_enter Tryd.func7, Tryd.ntmps7
  go_wp2_with (rw [← HW1.out]; go_at_call 8; refine HENC.out.mono ?_; rintro e w2 ⟨v2, rfl, hown, hbel⟩; obtain ⟨A2, c2, rfl, y2, n2, _, _⟩ := hown.form; have HB2 := Lib.hid (HB1.out.trans (hbel.mono HB1.out.size)); have hcv : (convert 24 9 (.slice A2 8 c2)).run Tryd.prog w2 = .ok (.string ⟨#[1, 2, 1, 97, 1, 98, 1, 5]⟩) w2 := conv y2 c2; clear hown hbel y2)
  go_ret
  exact ⟨rfl, HB2.out⟩

theorem info_str : (Tryd.prog.info? 9).map (fun i => (i.zero, i.size, i.bytes)) = some (some (.string ⟨#[]⟩), 1, 16) := by kernel_rfl
theorem encs_one (l : List Tx) : ∀ u ∈ l.map encStr, u.oneCell' = true := by
  intro u hu
  obtain ⟨c, _, rfl⟩ := List.mem_map.1 hu
  rfl
theorem Strs.nil {w : World} {l : List Tx} (h : Strs w none l) : l = [] := by
  cases l with
  | nil => rfl
  | cons a t => obtain ⟨b, o, e, _⟩ := h 0 (by simp); cases e
theorem Strs.news {w : World} {ad : Addr} {l : List Tx} (h : Strs w (some ad) l) : ∀ j u, (l.map encStr)[j]? = some u → w.cell? (ad.add j) = some u := by
  intro j u hu
  have hj : j < l.length := by
    have := (List.getElem?_eq_some_iff.1 hu).1
    rwa [List.length_map] at this
  obtain ⟨b, o, e, hc⟩ := h j hj
  injection e with e
  subst e
  rw [Addr.add_lit, hc, ← hu]
  simp [hj, encStr, str]
theorem mk_strc {ops : Array Oper} {rest : List Oper} {o : Oper} {a : Act} {Q : Exit → Act → World → Prop} {w : World} (w0 : World) (hgd : o.guard = none) (l c : Operand)
    (hop : o.op = Op.makeSlice 22 l c) (C : Int) (n : Nat) (hl : a.eval l = .int .i64 0) (hc : a.eval c = .int .i64 C) (hC : C = (n : Int)) (hsz : n ≤ 281474976710) (hbel : Below w0.heap.size w0 w)
    (h : ∀ v w', OwnS w' w0.heap.size v [] → Below w0.heap.size w0 w' → wpList Tryd.prog ops Q rest (a.put o.dst v) w') : wpList Tryd.prog ops Q (o :: rest) a w := by
  obtain ⟨i0, hti, hz0, hz1, hz2⟩ := info_parts info_str
  refine wpList_make_own w hgd l c 22 hop w0.heap.size 9 i0 (.string ⟨#[]⟩) 1 Tryd.underlying22 hti hz0 hz1 .i64 .i64 C n hl hc hC (by rw [hz2]; omega) (by unfold maxLen; omega) hbel.size ?_
  intro w' h1 h2
  exact h _ w' h1 (hbel.grown h2 hbel.size (by simp))
theorem app_strs {ops : Array Oper} {rest : List Oper} {o : Oper} {a : Act} {Q : Exit → Act → World → Prop} {w : World} (w0 : World) (hgd : o.guard = none) (s x : Operand)
    (ho : o.op = .call { callee := .builtin .append, args := #[s, x], argTypes := #[22, 22] }) (v : Value) (d : List Tx) (hs : a.eval s = v) (hown : OwnS w w0.heap.size v d) (hbel : Below w0.heap.size w0 w)
    (A : Option Addr) (m c : Nat) (q : List Tx) (hx : a.eval x = .slice A m c) (hm : m = q.length) (hq : Strs w A q) (hn : A = none → c = 0) (hsz : d.length + q.length ≤ 1700000000000)
    (h : ∀ v' w', OwnS w' w0.heap.size v' (d ++ q) → Below w0.heap.size w0 w' → wpList Tryd.prog ops Q rest (a.put o.dst v') w') : wpList Tryd.prog ops Q (o :: rest) a w := by
  obtain ⟨i0, hti, hz0, hz1, hz2⟩ := info_parts info_str
  subst hm
  cases A with
  | none =>
    obtain rfl := hq.nil
    obtain rfl := hn rfl
    refine wpList_append_own_none hgd s x 22 ho w0.heap.size 9 i0 1 Tryd.underlying22 hti v d.length (d.map encStr) hs hown hx (h v w ?_ hbel)
    rw [List.append_nil]; exact hown
  | some ad =>
    refine wpList_append_own w hgd s x 22 ho w0.heap.size 9 i0 (.string ⟨#[]⟩) 1 16 Tryd.underlying22 hti hz0 hz1 hz2 rfl (by decide) v d.length (d.map encStr) hs hown ad q.length c (q.map encStr) hx (by rw [List.length_map]; omega) hq.news (encs_one q) (by unfold maxLen; omega) (by omega) hbel.size ?_
    intro v' w' h1 h2 h5
    refine h v' w' ?_ (hbel.grown h2 hbel.size (fun k hk => (World.ownsRow.lt hown k hk).1))
    show w'.ownsRow w0.heap.size 9 1 v' (d ++ q).length ((d ++ q).map encStr)
    rw [List.length_append, List.map_append]; exact h1
theorem strs_one (w : World) (t : TypeId) (x : Tx) (s : ByteArray) (hs : s = str x) : Strs (w.alloc (.cells #[Value.string s] t)) (some ⟨w.heap.size, 0, none⟩) [x] := by
  subst hs
  exact strs_blk (t := t) (Blk.born w t _)

set_option maxRecDepth 100000 in
set_option maxHeartbeats 4000000 in
theorem once_any (A : Option Addr) (cap : Nat) (l : List Tx) (n : Int) (W : World) (hl : Strs W A l) (hcap : l.length ≤ cap) (hA : A = none → cap = 0) (hn : l.length ≤ 9223372036854775807) (hs : ∀ x ∈ l, x.length ≤ 9223372036854775807) (hT : TabAt W) :
    Calls Tryd.prog 6 #[.slice A l.length cap, .int .i64 n] W fun e W' => e = .returned (.bool true) ∧ Below W.heap.size W W' := by
  have HSH := Lib.hid (shown7_any W hT)
  by_cases hbad : l.length < 1 ∨ 1000 < l.length ∨ n < 0 ∨ 3000 < n
  · obtain ⟨m, hm⟩ : ∃ m, l.length = m := ⟨_, rfl⟩
    rw [hm] at hbad hn ⊢
    by_cases h1 : (m : Int) < 1
    · clear hl hA hs hT hbad hcap hm
      go_enter Tryd.func6, Tryd.ntmps6
      go_wp2_with (go_at_call 7; refine HSH.out.mono ?_; rintro e w1 ⟨rfl, hb⟩; have HB := Lib.hid hb; clear hb)
      go_ret
      exact ⟨rfl, HB.out⟩
    · by_cases h2 : (1000 : Int) < (m : Int)
      · clear hl hA hs hT hbad hcap hm
        go_enter Tryd.func6, Tryd.ntmps6
        go_wp2_with (go_at_call 7; refine HSH.out.mono ?_; rintro e w1 ⟨rfl, hb⟩; have HB := Lib.hid hb; clear hb)
        go_ret
        exact ⟨rfl, HB.out⟩
      · by_cases h3 : n < 0
        · clear hl hA hs hT hbad hcap hm
          go_enter Tryd.func6, Tryd.ntmps6
          go_wp2_with (go_at_call 7; refine HSH.out.mono ?_; rintro e w1 ⟨rfl, hb⟩; have HB := Lib.hid hb; clear hb)
          go_ret
          exact ⟨rfl, HB.out⟩
        · have h4 : 3000 < n := by omega
          clear hl hA hs hT hbad hcap hm
          go_enter Tryd.func6, Tryd.ntmps6
          go_wp2_with (go_at_call 7; refine HSH.out.mono ?_; rintro e w1 ⟨rfl, hb⟩; have HB := Lib.hid hb; clear hb)
          go_ret
          exact ⟨rfl, HB.out⟩
  · obtain ⟨k, rfl⟩ : ∃ k : Nat, n = (k : Int) := ⟨n.toNat, by omega⟩
    have hk : k ≤ 3000 := by omega
    obtain ⟨m, hm⟩ : ∃ m, l.length = m := ⟨_, rfl⟩
    rw [hm] at hbad hcap hn ⊢
    have hm1 : ¬ (m : Int) < 1 := by omega
    have hm2 : ¬ (1000 : Int) < (m : Int) := by omega
    have hk1 : ¬ (3000 : Int) < (k : Int) := by omega
    have hk0 : ¬ (k : Int) < 0 := by omega
    have hm0 : 0 < m := by omega
    obtain ⟨EX, hEX⟩ : ∃ EX : Nat → List Tx, EX = fun j => l ++ (List.range j).map (fun i => l.getD (i % m) []) := ⟨_, rfl⟩
    have hE0 : EX 0 = l := by rw [hEX]; simp
    have hEs : ∀ j (h : j % m < l.length), EX (j + 1) = EX j ++ [l[j % m]] := fun j h => by
      rw [hEX]
      simp only [List.range_succ, List.map_append, List.map_cons, List.map_nil, List.append_assoc]
      rw [List.getD_eq_getElem?_getD, List.getElem?_eq_getElem h]
      rfl
    have hEl : ∀ j, (EX j).length = m + j := fun j => by rw [hEX]; simp [hm]
    have hmem : ∀ j, ∀ x ∈ (List.range j).map (fun i => l.getD (i % m) []), x ∈ l := fun j x hx => by
      obtain ⟨i, _, rfl⟩ := List.mem_map.1 hx
      have : i % m < l.length := by rw [hm]; exact Nat.mod_lt _ hm0
      rw [List.getD_eq_getElem?_getD, List.getElem?_eq_getElem this]
      exact List.getElem_mem this
    have hEm : ∀ x, x ∈ EX k → x ∈ l := fun x hx => by
      rw [hEX] at hx
      rcases List.mem_append.1 hx with h | h
      · exact h
      · exact hmem k x h
    have hlm : ∀ x ∈ l, x ∈ EX k := fun x hx => by rw [hEX]; exact List.mem_append_left _ hx
    have honce : (encT 1 (EX k)).length ≤ (encT 1 l).length + (10 * k + 7) / 8 := by
      have := once_len (l := l) (m := (List.range k).map (fun i => l.getD (i % m) [])) (by omega) (by simp; omega) (hmem k)
      rw [List.length_map, List.length_range] at this
      rw [hEX]
      exact this
    have hHL := Lib.hid hl
    have HM := Lib.hid hm
    have HEL := Lib.hid hEl
    have HES := Lib.hid hEs
    have HE0 := Lib.hid hE0
    have hmk : IntKind.i64.wrap ((m : Int) + (k : Int)) = (m : Int) + (k : Int) := by rw [IntKind.wrap_i64]; omega
    have HAN := Lib.hid hA
    by_cases hr : rightT l
    · have hrE : rightT (EX k) := ⟨by rw [hEl]; omega, fun x hx => hr.2 x (hEm x hx)⟩
      have HEN1 := Lib.hid (fun (w1 : World) (h : Below W.heap.size W w1) => tenc1_any A cap l w1 (hl.keep h) hr (hT.keep h))
      have HEN2 := Lib.hid (fun (A2 : Option Addr) (c2 : Nat) (w1 : World) (h : Below W.heap.size W w1) (hi : Strs w1 A2 (EX k)) => tenc1_any A2 c2 (EX k) w1 hi hrE (hT.keep h))
      unfold LaidT at HEN1 HEN2
      rw [hm] at HEN1
      rw [hEl] at HEN2
      obtain ⟨e1, he1⟩ : ∃ x, encT 1 l = x := ⟨_, rfl⟩
      obtain ⟨e2, he2⟩ : ∃ x, encT 1 (EX k) = x := ⟨_, rfl⟩
      have hb1 := encT_len (f := 1) hr
      have hb2 := encT_len (f := 1) hrE
      rw [he1] at HEN1 honce hb1
      rw [he2] at HEN2 honce hb2
      obtain ⟨n1, hn1⟩ : ∃ x, e1.length = x := ⟨_, rfl⟩
      obtain ⟨n2, hn2⟩ : ∃ x, e2.length = x := ⟨_, rfl⟩
      rw [hn1] at honce hb1
      rw [hn2] at honce hb2
      have HNA := Lib.hid hn1
      have HNB := Lib.hid hn2
      clear hl hT hs hEX hE0 hEs hEl hmem hEm hlm hr hrE he1 he2 hn1 hn2 hm hbad hA hn hcap
      go_enter Tryd.func6, Tryd.ntmps6
      go_wp2_with (first | (go_at_call 7; refine HSH.out.mono ?_; rintro e w1 ⟨rfl, hb⟩; have HB := Lib.hid hb; clear hb) | (at_make; refine mk_strc W rfl _ _ rfl _ (m + k) rfl rfl (by omega) (by omega) HB.out ?_; intro v2 w2 hown2 hbel2; obtain ⟨A2, c2, rfl, _, _, _, _⟩ := hown2.form; have O2 := Lib.hid hown2; have E2 := Lib.hid hbel2; clear hown2 hbel2) | (refine app_strs W rfl _ _ rfl _ [] rfl O2.out E2.out A m cap l rfl HM.out.symm (hHL.out.keep E2.out) HAN.out (by have := HM.out; simp; omega) ?_; intro v3 w3 hown3 hbel3; rw [List.nil_append, ← HE0.out] at hown3; have O3 := Lib.hid hown3; have E3 := Lib.hid hbel3; clear hown3 hbel3))
      go_loopw [6, 7] (fun v i wr => ∃ j : Nat, j ≤ k ∧ i = .int .i64 j ∧ OwnS wr W.heap.size v (EX j) ∧ Below W.heap.size W wr) (fun _ i _ => k - (intOf i).toNat)
      case atStart => exact ⟨0, by omega, rfl, O3.out, E3.out⟩
      case round =>
        obtain ⟨j, hj, rfl, hown, hbel⟩ := hrel
        obtain ⟨A5, c5, rfl, hi5, hc5, hl5, _⟩ := hown.form
        have HI5 := Lib.hid hi5
        have HOWN := Lib.hid hown
        have HBEL := Lib.hid hbel
        have hel := HEL.out j
        rw [hel] at hl5 ⊢
        by_cases hlt : j < k
        · have hq1 : j % m < l.length := by rw [HM.out]; exact Nat.mod_lt _ hm0
          obtain ⟨bx, ox, rfl, hca⟩ := (hHL.out.keep hbel) (j % m) hq1
          have hes := HES.out j hq1
          obtain ⟨x, hx⟩ : ∃ x, l[j % m] = x := ⟨_, rfl⟩
          rw [hx] at hca hes
          obtain ⟨sx, hsx⟩ : ∃ sx, str x = sx := ⟨_, rfl⟩
          rw [hsx] at hca
          have HSX := Lib.hid hsx.symm
          have HES1 := Lib.hid hes
          have hrem : (j : Int) % (m : Int) = ((j % m : Nat) : Int) := (Int.natCast_emod j m).symm
          have hrem2 : Int.tmod (j : Int) (m : Int) = ((j % m : Nat) : Int) := by rw [Int.tmod_eq_emod_of_nonneg (by omega)]; exact hrem
          have hql : j % m < m := Nat.mod_lt _ hm0
          have hql2 : ((j % m : Nat) : Int) < (m : Int) := by omega
          generalize j % m = q at *
          have hmz : ¬ (m : Int) = 0 := by omega
          have HK : Hid (j < k) := hlt
          have HO : Hid (OwnS wr W.heap.size (.slice A5 (m + j) c5) (EX j)) := by show OwnS _ _ _ _; rw [← hel]; exact hown
          clear hown hbel hi5 hc5 hes hx hsx hel hq1 hl5
          go_wp2_with (refine app_strs W rfl _ _ rfl _ (EX j) rfl (World.ownsRow.alloc HO.out _) (HBEL.out.alloc HBEL.out.size _) (some ⟨_, 0, none⟩) 1 1 [x] rfl rfl (strs_one _ 9 x sx HSX.out) (by simp) (by rw [HEL.out]; simp; omega) ?_; intro v6 w6 hown6 hbel6; rw [← HES1.out] at hown6; have O6 := Lib.hid hown6; have E6 := Lib.hid hbel6; clear hown6 hbel6)
          go_roundw
          case rel => exact ⟨j + 1, HK.out, by go_num, O6.out, E6.out⟩
          case measure => simp [intOf]; have := HK.out; omega
        · obtain rfl : j = k := by omega
          clear hown hbel hi5 hc5 hl5 hel
          have tok1 : True := trivial
          have hon2 : (n2 : Int) ≤ (n1 : Int) + (10 * (j : Int) + 7) / 8 := by omega
          have hon3 : (n2 : Int) - (n1 : Int) ≤ (10 * (j : Int) + 7) / 8 := by omega
          go_wp2_with (first | (go_at_call 8; have _t := tok1; clear tok1; refine (HEN1.out _ HBEL.out).mono ?_; rintro e w4 ⟨v4, rfl, ho4, hb4⟩; obtain ⟨A4, c4, rfl, _, _, _, _⟩ := ho4.form; have E4 := Lib.hid (HBEL.out.trans (hb4.mono HBEL.out.size)); have HI4 := Lib.hid (HI5.out.keep hb4); rw [HNA.out]; clear ho4 hb4) | (go_at_call 8; refine (HEN2.out _ _ _ E4.out HI4.out).mono ?_; rintro e w5 ⟨v5, rfl, ho5, hb5⟩; obtain ⟨A7, c7, rfl, _, _, _, _⟩ := ho5.form; have E5 := Lib.hid (E4.out.trans (hb5.mono E4.out.size)); rw [HNB.out]; clear ho5 hb5))
          go_ret
          exact ⟨rfl, E5.out⟩
    · have hrE : ¬ rightT (EX k) := fun h => hr ⟨by omega, fun x hx => h.2 x (hlm x hx)⟩
      have HEN1 := Lib.hid (fun (w1 : World) (h : Below W.heap.size W w1) => tenc_bad 1 A cap l w1 (hl.keep h) (by omega) hs (.inr hr))
      have HEN2 := Lib.hid (fun (A2 : Option Addr) (c2 : Nat) (w1 : World) (hi : Strs w1 A2 (EX k)) => tenc_bad 1 A2 c2 (EX k) w1 hi (by rw [hEl]; omega) (fun x hx => hs x (hEm x hx)) (.inr hrE))
      rw [hm] at HEN1
      rw [hEl] at HEN2
      clear hl hT hs hEX hE0 hEs hEl hmem hEm hlm hr hrE honce hm hbad hA hn hcap
      go_enter Tryd.func6, Tryd.ntmps6
      go_wp2_with (first | (go_at_call 7; refine HSH.out.mono ?_; rintro e w1 ⟨rfl, hb⟩; have HB := Lib.hid hb; clear hb) | (at_make; refine mk_strc W rfl _ _ rfl _ (m + k) rfl rfl (by omega) (by omega) HB.out ?_; intro v2 w2 hown2 hbel2; obtain ⟨A2, c2, rfl, _, _, _, _⟩ := hown2.form; have O2 := Lib.hid hown2; have E2 := Lib.hid hbel2; clear hown2 hbel2) | (refine app_strs W rfl _ _ rfl _ [] rfl O2.out E2.out A m cap l rfl HM.out.symm (hHL.out.keep E2.out) HAN.out (by have := HM.out; simp; omega) ?_; intro v3 w3 hown3 hbel3; rw [List.nil_append, ← HE0.out] at hown3; have O3 := Lib.hid hown3; have E3 := Lib.hid hbel3; clear hown3 hbel3))
      go_loopw [6, 7] (fun v i wr => ∃ j : Nat, j ≤ k ∧ i = .int .i64 j ∧ OwnS wr W.heap.size v (EX j) ∧ Below W.heap.size W wr) (fun _ i _ => k - (intOf i).toNat)
      case atStart => exact ⟨0, by omega, rfl, O3.out, E3.out⟩
      case round =>
        obtain ⟨j, hj, rfl, hown, hbel⟩ := hrel
        obtain ⟨A5, c5, rfl, hi5, hc5, hl5, _⟩ := hown.form
        have HI5 := Lib.hid hi5
        have HOWN := Lib.hid hown
        have HBEL := Lib.hid hbel
        have hel := HEL.out j
        rw [hel] at hl5 ⊢
        by_cases hlt : j < k
        · have hq1 : j % m < l.length := by rw [HM.out]; exact Nat.mod_lt _ hm0
          obtain ⟨bx, ox, rfl, hca⟩ := (hHL.out.keep hbel) (j % m) hq1
          have hes := HES.out j hq1
          obtain ⟨x, hx⟩ : ∃ x, l[j % m] = x := ⟨_, rfl⟩
          rw [hx] at hca hes
          obtain ⟨sx, hsx⟩ : ∃ sx, str x = sx := ⟨_, rfl⟩
          rw [hsx] at hca
          have HSX := Lib.hid hsx.symm
          have HES1 := Lib.hid hes
          have hrem : (j : Int) % (m : Int) = ((j % m : Nat) : Int) := (Int.natCast_emod j m).symm
          have hrem2 : Int.tmod (j : Int) (m : Int) = ((j % m : Nat) : Int) := by rw [Int.tmod_eq_emod_of_nonneg (by omega)]; exact hrem
          have hql : j % m < m := Nat.mod_lt _ hm0
          have hql2 : ((j % m : Nat) : Int) < (m : Int) := by omega
          generalize j % m = q at *
          have hmz : ¬ (m : Int) = 0 := by omega
          have HK : Hid (j < k) := hlt
          have HO : Hid (OwnS wr W.heap.size (.slice A5 (m + j) c5) (EX j)) := by show OwnS _ _ _ _; rw [← hel]; exact hown
          clear hown hbel hi5 hc5 hes hx hsx hel hq1 hl5
          go_wp2_with (refine app_strs W rfl _ _ rfl _ (EX j) rfl (World.ownsRow.alloc HO.out _) (HBEL.out.alloc HBEL.out.size _) (some ⟨_, 0, none⟩) 1 1 [x] rfl rfl (strs_one _ 9 x sx HSX.out) (by simp) (by rw [HEL.out]; simp; omega) ?_; intro v6 w6 hown6 hbel6; rw [← HES1.out] at hown6; have O6 := Lib.hid hown6; have E6 := Lib.hid hbel6; clear hown6 hbel6)
          go_roundw
          case rel => exact ⟨j + 1, HK.out, by go_num, O6.out, E6.out⟩
          case measure => simp [intOf]; have := HK.out; omega
        · obtain rfl : j = k := by omega
          clear hown hbel hi5 hc5 hl5 hel
          have tok1 : True := trivial
          go_wp2_with (first | (go_at_call 8; have _t := tok1; clear tok1; refine (HEN1.out _ HBEL.out).mono ?_; rintro e w4 ⟨rfl, hb4⟩; have E4 := Lib.hid (HBEL.out.trans (hb4.mono HBEL.out.size)); have HI4 := Lib.hid (HI5.out.keep hb4); clear hb4) | (go_at_call 8; refine (HEN2.out _ _ _ HI4.out).mono ?_; rintro e w5 ⟨rfl, hb5⟩; have E5 := Lib.hid (E4.out.trans (hb5.mono E4.out.size)); clear hb5))
          go_ret
          exact ⟨rfl, E5.out⟩
end Go.Proofs.YtjmkipbolldhgaaDoor
