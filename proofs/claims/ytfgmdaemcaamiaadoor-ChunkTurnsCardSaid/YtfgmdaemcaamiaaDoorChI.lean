/- A list of values made and filled: laws; the walk of distribute. -/
import Derived.Test.YtfgmdaemcaamiaaDoorChS
import Derived.Test.YtfgmdaemcaamiaaDoorRowN
namespace Go.Proofs.YtfgmdaemcaamiaaDoor
open Go.RowKit
set_option linter.unusedVariables false

theorem flat8_len : ∀ l : List Vl, (l.flatMap vlC).length = l.length * 3
  | [] => rfl
  | c :: t => by rw [List.flatMap_cons, List.length_append, flat8_len t, List.length_cons]; simp [vlC]; omega
theorem flat8_at : ∀ (l : List Vl) (k j : Nat) (h : k < l.length), j < 3 → (l.flatMap vlC)[k * 3 + j]? = (vlC l[k])[j]?
  | c :: t, 0, j, h, hj => by
    rw [List.flatMap_cons, List.getElem?_append_left (by simp [vlC]; omega)]
    simp
  | c :: t, k + 1, j, h, hj => by
    rw [List.flatMap_cons, List.getElem?_append_right (by simp [vlC]; omega)]
    have := flat8_at t k j (by simpa using h) hj
    rw [show (k + 1) * 3 + j - (vlC c).length = k * 3 + j by simp [vlC]; omega, this]
    rfl
theorem setN_mid : ∀ (vs old a b : List Value), vs.length = old.length → setN (a ++ (old ++ b)) a.length vs = a ++ (vs ++ b)
  | [], [], a, b, _ => rfl
  | v :: vs, o :: old, a, b, h => by
    rw [setN]
    have e : (a ++ (o :: old ++ b)).set a.length v = (a ++ [v]) ++ (old ++ b) := by simp
    have := setN_mid vs old (a ++ [v]) b (by simpa using h)
    rw [List.length_append, List.length_singleton] at this
    rw [e, this]
    simp
  | [], _ :: _, _, _, h => by simp at h
  | _ :: _, [], _, _, h => by simp at h
theorem flat8_set {r : List Vl} {c : Vl} {z k : Nat} (hr : r.length = k) : setN ((r ++ List.replicate (z + 1) nulV).flatMap vlC) (k * 3) (vlC c) = ((r ++ [c]) ++ List.replicate z nulV).flatMap vlC := by
  have := setN_mid (vlC c) (vlC nulV) (r.flatMap vlC) ((List.replicate z nulV).flatMap vlC) rfl
  rw [flat8_len, hr] at this
  rw [List.flatMap_append, List.replicate_succ, List.flatMap_cons, this]
  simp
theorem made8_vals (n : Nat) : madeCells (.agg #[.int .i64 0, .int .i64 0, .string ⟨#[]⟩] : Value).cells (n * 3) = ((List.replicate n nulV).flatMap vlC).toArray := by
  apply Array.ext'
  apply List.ext_getElem?
  intro i
  have hz : (.agg #[.int .i64 0, .int .i64 0, .string ⟨#[]⟩] : Value).cells = #[.int .i64 0, .int .i64 0, .string ⟨#[]⟩] := by rfl
  by_cases hi : i < n * 3
  · have hk : i / 3 < (List.replicate n nulV).length := by rw [List.length_replicate]; omega
    have h1 := flat8_at (List.replicate n nulV) (i / 3) (i % 3) hk (Nat.mod_lt _ (by decide))
    rw [show i / 3 * 3 + i % 3 = i by omega] at h1
    rw [List.toList_toArray, h1, List.getElem_replicate]
    simp only [madeCells, hz]
    have h3 : i % 3 < 3 := Nat.mod_lt _ (by decide)
    rw [List.getElem?_eq_getElem (by simp; exact hi)]
    simp only [Array.getElem_toList, Array.getElem_map, Array.getElem_range]
    have hm : i % 3 = 0 ∨ i % 3 = 1 ∨ i % 3 = 2 := by omega
    rcases hm with e | e | e <;> simp [e, vlC, nulV]
  · rw [List.getElem?_eq_none (by simp [madeCells]; omega), List.getElem?_eq_none (by rw [List.toList_toArray, flat8_len, List.length_replicate]; omega)]
theorem info8_val : (Tryd.prog.info? 30).map (fun i => (i.zero, i.size, i.bytes)) = some (some (.agg #[.int .i64 0, .int .i64 0, .string ⟨#[]⟩]), 3, 32) := by kernel_rfl
theorem info8W : (Tryd.prog.info? 30).map (·.size) = some 3 := by kernel_rfl
theorem vlC_one (x : Vl) : ∀ v ∈ vlC x, v.oneCell' = true := by
  intro v hv
  simp [vlC] at hv
  rcases hv with rfl | rfl | rfl <;> rfl
theorem mk8_vals {ops : Array Oper} {rest : List Oper} {o : Oper} {a : Act} {Q : Exit → Act → World → Prop} {w : World} (hgd : o.guard = none) (l c : Operand)
    (hop : o.op = Op.makeSlice 22 l c) (n : Nat) (hl : a.eval l = .int .i64 (n : Int)) (hc : a.eval c = .int .i64 (n : Int)) (hsz : n ≤ 5000)
    (h : wpList Tryd.prog ops Q rest (a.put o.dst (.slice (some ⟨w.heap.size, 0, none⟩) n n)) (w.alloc (.cells ((List.replicate n nulV).flatMap vlC).toArray 30))) : wpList Tryd.prog ops Q (o :: rest) a w := by
  obtain ⟨i0, hti, hz0, hz1, hz2⟩ := info_parts info8_val
  have hr := run_make (P := Tryd.prog) w 22 30 i0 _ Tryd.underlying22 hti hz0 .i64 .i64 n n (by omega) (by omega) (by rw [hz2]; omega) (by omega)
  simp only [Int.toNat_natCast] at hr
  rw [hz1, made8_vals] at hr
  refine wpList_plain hgd fun K hK' => ?_
  unfold Oper.wp
  simp [execOp, hop, hl, hc, hr, Result.andThen]
  exact hK' _ _ h

theorem spread_len : ∀ (g : List Vl) (M : List W64) (L : List Vl), spread g M = some L → L.length = M.length
  | g, [], L, h => by
    simp only [spread] at h
    split at h
    · injection h with h; subst h; rfl
    · cases h
  | g, m :: ms, L, h => by
    simp only [spread] at h
    split at h
    · cases hs : spread g ms with
      | none => rw [hs] at h; cases h
      | some L' => rw [hs] at h; injection h with h; subst h; rw [List.length_cons, List.length_cons, spread_len g ms L' hs]
    · cases g with
      | nil => cases h
      | cons x t =>
        cases hs : spread t ms with
        | none => simp only [hs] at h; cases h
        | some L' => simp only [hs] at h; injection h with h; subst h; rw [List.length_cons, List.length_cons, spread_len t ms L' hs]
/-- What distribute answers: the values, or that there are none. -/
def DisR (W0 : World) (o : Option (List Vl)) (e : Ending) (W' : World) : Prop := Below W0.heap.size W0 W' ∧
  ((∃ A c L, o = some L ∧ e = .returned (.tuple #[.slice A L.length c, .int .i64 0]) ∧ Vls W' A L ∧ L.length ≤ c) ∨ (o = none ∧ e = .returned (.tuple #[.slice none 0 0, .int .i64 80])))
/-- What is still to be spread, behind what was. -/
def Spr (G : List Vl) (M : List W64) (P : List Vl) (g : List Vl) (k : Nat) : Prop := P.length = k ∧ spread G M = (spread g (M.drop k)).map (P ++ ·)
theorem spr_0 (G : List Vl) (M : List W64) : Spr G M [] G 0 := ⟨rfl, by cases h : spread G M <;> simp [h]⟩
theorem spr_null {G : List Vl} {M : List W64} {P g : List Vl} {k : Nat} (h : Spr G M P g k) (hk : k < M.length) (h1 : M[k] = 1) : Spr G M (P ++ [nulV]) g (k + 1) := by
  refine ⟨by rw [List.length_append, h.1]; rfl, ?_⟩
  rw [h.2, List.drop_eq_getElem_cons hk]
  simp only [spread]
  rw [if_pos h1]
  cases spread g (M.drop (k + 1)) <;> simp
theorem spr_some {G : List Vl} {M : List W64} {P g : List Vl} {k : Nat} {x : Vl} (h : Spr G M P (x :: g) k) (hk : k < M.length) (h1 : ¬ M[k] = 1) : Spr G M (P ++ [x]) g (k + 1) := by
  refine ⟨by rw [List.length_append, h.1]; rfl, ?_⟩
  rw [h.2, List.drop_eq_getElem_cons hk]
  simp only [spread]
  rw [if_neg h1]
  cases spread g (M.drop (k + 1)) <;> simp
theorem spr_lack {G : List Vl} {M : List W64} {P : List Vl} {k : Nat} (h : Spr G M P [] k) (hk : k < M.length) (h1 : ¬ M[k] = 1) : spread G M = none := by
  rw [h.2, List.drop_eq_getElem_cons hk]
  simp only [spread]
  rw [if_neg h1]
  rfl
theorem spr_end {G : List Vl} {M : List W64} {P g : List Vl} {k : Nat} (h : Spr G M P g k) (hk : k = M.length) : spread G M = if g = [] then some P else none := by
  subst hk
  rw [h.2, List.drop_of_length_le (Nat.le_refl _)]
  simp only [spread]
  split <;> simp
theorem vls_tail {w : World} {b o c : Nat} {x : Vl} {g : List Vl} (h : Vls w (some ⟨b, o, none⟩) (x :: g)) : Vls w (some ⟨b, o + 3, none⟩) g := by
  intro k hk
  obtain ⟨b', o', e, hv⟩ := h (k + 1) (by simpa using hk)
  injection e with e
  injection e with e1 e2
  subst e1 e2
  refine ⟨b, o + 3, rfl, ?_⟩
  have : o + (k + 1) * 3 = o + 3 + k * 3 := by omega
  rw [← this]
  exact hv

set_option maxRecDepth 100000 in
set_option maxHeartbeats 20000000 in
theorem distribute_any (A B : Option Addr) (cap mcap : Nat) (G : List Vl) (M : List W64) (W : World) (hG : Vls W A G) (hM : Num W B M) (hg : G.length ≤ cap) (hgc : cap ≤ 1000000) (hA : A = none → cap = 0) (hm : M.length ≤ 1024) :
    Calls Tryd.prog 59 #[.slice A G.length cap, .slice B M.length mcap] W (DisR W (spread G M)) := by
  obtain ⟨N, hN⟩ : ∃ N, W.heap.size = N := ⟨_, rfl⟩
  obtain ⟨n, hn⟩ : ∃ n, M.length = n := ⟨_, rfl⟩
  have hb1 := Blk.born W 30 ((List.replicate n nulV).flatMap vlC)
  have hbe : Below W.heap.size W (W.alloc (.cells ((List.replicate n nulV).flatMap vlC).toArray 30)) := (Below.refl _ _).alloc (Nat.le_refl _) _
  rw [hN] at hb1
  have HB1 := Lib.hid hb1
  have HBE := Lib.hid hbe
  have HNN := Lib.hid hN
  have HLN := Lib.hid hn
  have HG := Lib.hid hG
  have HM := Lib.hid hM
  have HA := Lib.hid hA
  obtain ⟨p, hp⟩ : ∃ p, G.length = p := ⟨_, rfl⟩
  have HP := Lib.hid hp
  rw [hp] at hg
  rw [hn] at hm
  rw [hn, hp]
  clear hb1 hbe hG hM hA hn hp
  go_enter Tryd.func59, Tryd.ntmps59
  go_wp2
  go_step3
  go_wp2_with (refine mk8_vals rfl _ _ rfl n rfl rfl (by omega) ?_)
  go_step3
  go_wp2
  generalize hW1 : W.alloc (.cells ((List.replicate n nulV).flatMap vlC).toArray 30) = W1 at HB1 HBE ⊢
  clear hW1
  go_loopw [0, 7, 8, 14, 19, 22] (fun gv _ _ i _ _ wr => ∃ (k : Nat) (P g : List Vl) (A' : Option Addr) (c : Nat), k ≤ n ∧ i = .int .i64 k ∧ gv = .slice A' g.length c ∧ g.length ≤ c ∧ c ≤ 1000000 ∧ Spr G M P g k ∧ Vls W A' g ∧ Blk wr N 30 ((P ++ List.replicate (n - k) nulV).flatMap vlC) ∧ Below W.heap.size W wr) (fun _ _ _ i _ _ _ => n - (intOf i).toNat)
  case atStart => exact ⟨0, [], G, A, cap, by omega, rfl, by rw [HP.out], by rw [HP.out]; exact hg, hgc, spr_0 G M, HG.out, HB1.out, HBE.out⟩
  case round =>
    obtain ⟨k, P, g, A', c, hk, rfl, rfl, hgl, hcl, hsp, hvg, hblk, hbel⟩ := hrel
    have HSP := Lib.hid hsp
    have HVG := Lib.hid hvg
    have HBK := Lib.hid hblk
    have HBL := Lib.hid hbel
    clear hsp hvg hblk hbel
    by_cases hlt : k < n
    · have h1 : k < M.length := by rw [HLN.out]; exact hlt
      obtain ⟨b, o, rfl, hcm⟩ := HM.out k h1
      have hcm2 := cell_below HBL.out hcm
      have hnull := fun h => spr_null HSP.out h1 h
      have hK : Hid (k < n) := hlt
      have hrep : List.replicate (n - k) nulV = nulV :: List.replicate (n - (k + 1)) nulV := by rw [show n - k = (n - (k + 1)) + 1 by omega, List.replicate_succ]
      by_cases hm1 : M[k] = 1
      · have HS2 := Lib.hid (hnull hm1)
        have HB2 : Hid (Blk wr N 30 (((P ++ [nulV]) ++ List.replicate (n - (k + 1)) nulV).flatMap vlC)) := by
          show Blk _ _ _ _
          have h := HBK.out
          rw [hrep] at h
          simpa using h
        rw [hm1] at hcm2
        have hcm3 : wr.cell? ⟨b, o + k, none⟩ = some (.int .u64 1) := hcm2
        clear hcm hcm2 hnull hrep hm1 h1
        obtain ⟨q, hq⟩ : ∃ q, g.length = q := ⟨_, rfl⟩
        have HQ := Lib.hid hq
        rw [hq] at hgl ⊢
        clear hq
        go_wp2
        go_roundw
        case rel => exact ⟨k + 1, P ++ [nulV], g, A', c, hK.out, by go_num, by rw [HQ.out], by rw [HQ.out]; exact hgl, hcl, HS2.out, HVG.out, HB2.out, HBL.out⟩
        case measure => simp [intOf]; have := hK.out; omega
      · have hne : (((M[k]).toNat : Int) == 1) = false := by
          rw [beq_eq_false_iff_ne]
          intro e
          exact hm1 (BitVec.eq_of_toNat_eq (by show (M[k]).toNat = 1; omega))
        cases g with
        | nil =>
          have HLK := Lib.hid (spr_lack HSP.out h1 hm1)
          clear hcm hnull hrep hm1
          generalize (M[k]).toNat = mv at *
          go_wp2
          rw [Exit.noGoto_ret]
          go_ret2
          exact ⟨HBL.out, .inr ⟨HLK.out, rfl⟩⟩
        | cons x t =>
          have HS2 := Lib.hid (spr_some HSP.out h1 hm1)
          have hPl := HSP.out.1
          obtain ⟨bg, og, rfl, hv⟩ := HVG.out 0 (by simp)
          have hv0 : VlAt W bg (og + 0 * 3) x := hv
          rw [Nat.zero_mul, Nat.add_zero] at hv0
          obtain ⟨x0, x1, x2⟩ := hv0.keep HBL.out hv0.lt
          have HVT := Lib.hid (vls_tail (c := 0) HVG.out)
          obtain ⟨q, hq⟩ : ∃ q, t.length = q := ⟨_, rfl⟩
          have HQ := Lib.hid hq
          rw [List.length_cons, hq] at hgl ⊢
          have hbk := HBK.out
          rw [hrep] at hbk
          have HBK2 := Lib.hid hbk
          have hfl : k * 3 + 3 ≤ ((P ++ nulV :: List.replicate (n - (k + 1)) nulV).flatMap vlC).length := by
            rw [flat8_len, List.length_append, List.length_cons, List.length_replicate, hPl]; omega
          have HFL := Lib.hid hfl
          have hset := flat8_set (c := x) (z := n - (k + 1)) hPl
          rw [List.replicate_succ] at hset
          have HSET := Lib.hid hset
          have hNb : N ≠ bg := by have := hv0.lt; omega
          clear hq hbk hfl hset hcm hnull hrep hm1 hv hv0 hPl
          generalize (M[k]).toNat = mv at *
          clear h1
          by_cases hc1 : c = 1
          · obtain rfl : q = 0 := by omega
            subst hc1
            have ht : t = [] := List.length_eq_zero_iff.1 HQ.out
            have HT := Lib.hid ht
            clear ht
            go_wp2_with (with_reducible refine st_midN rfl 30 (.tmp 31) (.tmp 30) rfl 3 ?a1 N (k * 3) 30 ((P ++ nulV :: List.replicate (n - (k + 1)) nulV).flatMap vlC) (vlC x) ?a2 ?a3 ?a4 ?a5 ?a6 ?a7 (Hid.out ?a8))
            case a1 => first | exact info8W | simpa using info8W
            try (case a2 => first | rfl | (simp; done))
            try (case a3 => rfl)
            case a4 => exact HBK2.out
            try (case a5 => rfl)
            case a6 => exact HFL.out
            case a7 => exact vlC_one x
            refine Lib.hid ?_
            have HB9 : Hid (Blk (wr.setCells N (k * 3) (vlC x)) N 30 (((P ++ [x]) ++ List.replicate (n - (k + 1)) nulV).flatMap vlC)) := by show Blk _ _ _ _; rw [← HSET.out]; exact Blk.storesN (vlC x) _ (k * 3) wr HBK2.out
            have HE9 := Lib.hid (Below.storesN (g := N) (by rw [HNN.out]; exact Nat.le_refl _) (vlC x) (k * 3) _ HBL.out)
            clear x0 x1 x2 hcm2
            generalize wr.setCells N (k * 3) (vlC x) = w9 at HB9 HE9 ⊢
            go_wp2
            go_roundw
            case rel => exact ⟨k + 1, P ++ [x], t, some ⟨bg, og, none⟩, 0, hK.out, by go_num, by rw [HQ.out], by rw [HQ.out]; omega, by omega, HS2.out, by rw [HT.out]; exact fun i hi => by simp at hi, HB9.out, HE9.out⟩
            case measure => simp [intOf]; have := hK.out; omega
          · go_wp2_with (with_reducible refine st_midN rfl 30 (.tmp 31) (.tmp 30) rfl 3 ?b1 N (k * 3) 30 ((P ++ nulV :: List.replicate (n - (k + 1)) nulV).flatMap vlC) (vlC x) ?b2 ?b3 ?b4 ?b5 ?b6 ?b7 (Hid.out ?b8))
            case b1 => first | exact info8W | simpa using info8W
            try (case b2 => first | rfl | (simp; done))
            try (case b3 => rfl)
            case b4 => exact HBK2.out
            try (case b5 => rfl)
            case b6 => exact HFL.out
            case b7 => exact vlC_one x
            refine Lib.hid ?_
            have HB9 : Hid (Blk (wr.setCells N (k * 3) (vlC x)) N 30 (((P ++ [x]) ++ List.replicate (n - (k + 1)) nulV).flatMap vlC)) := by show Blk _ _ _ _; rw [← HSET.out]; exact Blk.storesN (vlC x) _ (k * 3) wr HBK2.out
            have HE9 := Lib.hid (Below.storesN (g := N) (by rw [HNN.out]; exact Nat.le_refl _) (vlC x) (k * 3) _ HBL.out)
            clear x0 x1 x2 hcm2
            generalize wr.setCells N (k * 3) (vlC x) = w9 at HB9 HE9 ⊢
            go_wp2
            go_roundw
            case rel => exact ⟨k + 1, P ++ [x], t, some ⟨bg, og + 3, none⟩, c - 1, hK.out, by go_num, by rw [HQ.out], by rw [HQ.out]; omega, by omega, HS2.out, HVT.out, HB9.out, HE9.out⟩
            case measure => simp [intOf]; have := hK.out; omega
    · obtain rfl : k = n := by omega
      have hend := spr_end HSP.out HLN.out.symm
      have hbk := HBK.out
      rw [Nat.sub_self, List.replicate_zero, List.append_nil] at hbk
      have hPl := HSP.out.1
      cases g with
      | nil =>
        rw [if_pos rfl] at hend
        have HEND := Lib.hid hend
        have HV := Lib.hid (vls_blk hbk)
        have HPL := Lib.hid hPl
        clear hend hbk hPl
        go_wp2
        rw [Exit.noGoto_ret]
        go_ret2
        exact ⟨HBL.out, .inl ⟨some ⟨N, 0, none⟩, k, P, HEND.out, by rw [HPL.out]; rfl, HV.out, by rw [HPL.out]; exact Nat.le_refl _⟩⟩
      | cons x t =>
        rw [if_neg (by simp)] at hend
        have HEND := Lib.hid hend
        clear hend hbk hPl
        obtain ⟨q, hq⟩ : ∃ q, t.length = q := ⟨_, rfl⟩
        rw [List.length_cons, hq]
        have hpos : (0 : Int) < ((q + 1 : Nat) : Int) := by omega
        clear hq hgl
        go_wp2
        rw [Exit.noGoto_ret]
        go_ret2
        exact ⟨HBL.out, .inr ⟨HEND.out, rfl⟩⟩
end Go.Proofs.YtfgmdaemcaamiaaDoor
