/- Joined texts: The program's Take of a schema. The walk of the program's Take of a schema. The document's Take of a schema. The document's Lay of a schema. -/
import Derived.Test.YtabnjiepmhblaaaDoorJ29
import Derived.Laws.MakeOwn
import Derived.Test.YtabnjiepmhblaaaDoorJ5
import Derived.Test.YtabnjiepmhblaaaDoorJ6
import Derived.Test.YtabnjiepmhblaaaDoorJ7
import Derived.Test.YtabnjiepmhblaaaDoorJ4
/-! The program's Take of a schema. -/
namespace Go.Proofs.YtabnjiepmhblaaaDoor
open Go.RowKit Go.Shelf Go.Maps
set_option linter.unusedVariables false

theorem setL_mid : ∀ (vs old pre post : List Value), vs.length = old.length → setL (pre ++ (old ++ post)) pre.length vs = pre ++ (vs ++ post)
  | [], [], _, _, _ => rfl
  | v :: vs, o :: old, pre, post, h => by
    have e : (pre ++ (o :: old ++ post)).set pre.length v = (pre ++ [v]) ++ (old ++ post) := by simp
    have := setL_mid vs old (pre ++ [v]) post (by simpa using h)
    rw [setL, e]
    rw [show (pre ++ [v]).length = pre.length + 1 by simp] at this
    rw [this]
    simp
  | [], _ :: _, _, _, h => by simp at h
  | _ :: _, [], _, _, h => by simp at h
def zc : Col := ⟨⟨#[]⟩, 0, false, by decide⟩
theorem flatC_len : ∀ l : List Col, (l.flatMap colC).length = l.length * 3
  | [] => rfl
  | c :: t => by rw [List.flatMap_cons, List.length_append, flatC_len t, List.length_cons]; simp [colC]; omega
theorem flatC_at : ∀ (l : List Col) (k j : Nat) (h : k < l.length), j < 3 → (l.flatMap colC)[k * 3 + j]? = (colC l[k])[j]?
  | c :: t, 0, j, h, hj => by
    rw [List.flatMap_cons, List.getElem?_append_left (by simp [colC]; omega)]
    simp
  | c :: t, k + 1, j, h, hj => by
    rw [List.flatMap_cons, List.getElem?_append_right (by simp [colC]; omega)]
    have := flatC_at t k j (by simpa using h) hj
    rw [show (k + 1) * 3 + j - (colC c).length = k * 3 + j by simp [colC]; omega, this]
    rfl
theorem cols_blk {w : World} {g : Nat} {l : List Col} (h : Blk w g 44 (l.flatMap colC)) : Cols w (some ⟨g, 0, none⟩) l := by
  intro k hk
  refine ⟨g, 0, rfl, ?_, ?_, ?_⟩
  · rw [Nat.zero_add, h.at_]; exact flatC_at l k 0 hk (by omega)
  · rw [Nat.zero_add, h.at_]; exact flatC_at l k 1 hk (by omega)
  · rw [Nat.zero_add, h.at_]; exact flatC_at l k 2 hk (by omega)
theorem flat_set {r : List Col} {c : Col} {z : Nat} {k : Nat} (hr : r.length = k) : setL ((r ++ List.replicate (z + 1) zc).flatMap colC) (k * 3) (colC c) = ((r ++ [c]) ++ List.replicate z zc).flatMap colC := by
  have := setL_mid (colC c) (colC zc) (r.flatMap colC) ((List.replicate z zc).flatMap colC) rfl
  rw [flatC_len, hr] at this
  rw [List.flatMap_append, List.replicate_succ, List.flatMap_cons, this]
  simp
theorem made_cols (n : Nat) : madeCells (.agg #[.string ⟨#[]⟩, .int .i64 0, .bool false] : Value).cells (n * 3) = ((List.replicate n zc).flatMap colC).toArray := by
  apply Array.ext'
  apply List.ext_getElem?
  intro i
  have hz : (.agg #[.string ⟨#[]⟩, .int .i64 0, .bool false] : Value).cells = #[.string ⟨#[]⟩, .int .i64 0, .bool false] := by rfl
  by_cases hi : i < n * 3
  · have hk : i / 3 < (List.replicate n zc).length := by rw [List.length_replicate]; omega
    have h1 := flatC_at (List.replicate n zc) (i / 3) (i % 3) hk (Nat.mod_lt _ (by decide))
    rw [show i / 3 * 3 + i % 3 = i by omega] at h1
    rw [List.toList_toArray, h1, List.getElem_replicate]
    simp only [madeCells, hz]
    have h3 : i % 3 < 3 := Nat.mod_lt _ (by decide)
    have hi2 : i < (Array.range (n * 3)).size := by simp; exact hi
    rw [List.getElem?_eq_getElem (by simp; exact hi)]
    simp only [Array.getElem_toList, Array.getElem_map, Array.getElem_range]
    have hm : i % 3 = 0 ∨ i % 3 = 1 ∨ i % 3 = 2 := by omega
    rcases hm with e | e | e <;> simp [e, colC, zc]
  · rw [List.getElem?_eq_none (by simp [madeCells]; omega), List.getElem?_eq_none (by rw [List.toList_toArray, flatC_len, List.length_replicate]; omega)]
end Go.Proofs.YtabnjiepmhblaaaDoor

/-! The walk of the program's Take of a schema. -/
namespace Go.Proofs.YtabnjiepmhblaaaDoor
open Go.RowKit Go.Shelf Go.Maps
set_option linter.unusedVariables false

theorem info_col : (Tryd.prog.info? 44).map (fun i => (i.zero, i.size, i.bytes)) = some (some (.agg #[.string ⟨#[]⟩, .int .i64 0, .bool false]), 3, 32) := by kernel_rfl
theorem mk_cols {ops : Array Oper} {rest : List Oper} {o : Oper} {a : Act} {Q : Exit → Act → World → Prop} {w : World} (hgd : o.guard = none) (l c : Operand)
    (hop : o.op = Op.makeSlice 22 l c) (n : Nat) (hl : a.eval l = .int .u64 (n : Int)) (hc : a.eval c = .int .u64 (n : Int)) (hsz : n ≤ 100)
    (h : wpList Tryd.prog ops Q rest (a.put o.dst (.slice (some ⟨w.heap.size, 0, none⟩) n n)) (w.alloc (.cells ((List.replicate n zc).flatMap colC).toArray 44))) : wpList Tryd.prog ops Q (o :: rest) a w := by
  obtain ⟨i0, hti, hz0, hz1, hz2⟩ := info_parts info_col
  have hr := run_make (P := Tryd.prog) w 22 44 i0 _ Tryd.underlying22 hti hz0 .u64 .u64 n n (by omega) (by omega) (by rw [hz2]; omega) (by omega)
  simp only [Int.toNat_natCast] at hr
  rw [hz1, made_cols] at hr
  refine wpList_plain hgd fun K hK' => ?_
  unfold Oper.wp
  simp [execOp, hop, hl, hc, hr, Result.andThen]
  exact hK' _ _ h

theorem decF_le : ∀ (f k m : Nat) (t : List UInt8) (n c : Nat), decF f k m t = some (n, c) → c ≤ k + t.length
  | 0, _, _, _, _, _, h => by simp [decF] at h
  | _ + 1, _, _, [], _, _, h => by simp [decF] at h
  | f + 1, k, m, x :: t, n, c, h => by
    rw [decF] at h
    rw [List.length_cons]
    split at h
    · split at h
      · cases h
      · simp only [Option.some.injEq, Prod.mk.injEq] at h
        omega
    · have := decF_le f (k + 1) _ t n c h
      omega
theorem takeO_in {l : List UInt8} {at_ : Int} {n c : Nat} (h : takeO l at_ = some (n, c)) : 0 ≤ at_ ∧ at_ + c ≤ l.length := by
  unfold takeO at h
  by_cases hp : 0 ≤ at_ ∧ at_ ≤ l.length
  · rw [if_pos hp] at h
    have := decF_le _ _ _ _ _ _ h
    rw [List.length_drop] at this
    omega
  · rw [if_neg hp] at h; cases h
theorem tooks_no {W W' : World} {l : List UInt8} {at_ : Int} (h : takeS l at_ = none) (hb : Below W.heap.size W W') : TookSc W l at_ (.returned (.tuple #[.slice none 0 0, .int .i64 0, .int .i64 52])) W' := by
  unfold TookSc; rw [h]; exact ⟨rfl, hb⟩
theorem tooks_yes {W W' : World} {l : List UInt8} {at_ p : Int} {r : List Col} {A : Option Addr} {cap n : Nat} (h : takeS l at_ = some (r, p)) (hn : r.length = n) (hc : Cols W' A r) (hA : A = none → cap = 0) (hcap : n ≤ cap) (hb : Below W.heap.size W W') :
    TookSc W l at_ (.returned (.tuple #[.slice A n cap, .int .i64 p, .int .i64 0])) W' := by
  subst hn
  unfold TookSc; rw [h]; exact ⟨A, cap, rfl, hc, hA, hcap, hb⟩

set_option maxRecDepth 100000 in
set_option maxHeartbeats 8000000 in
theorem takes_any (A : Option Addr) (cap : Nat) (at_ : Int) (l : List UInt8) (W : World) (hb : Byt W A l) (hn : A = none → cap = 0) (hc : l.length ≤ cap) (hm : cap ≤ 9223372036854775807) (hL : l.length ≤ 400000000000000) :
    Calls Tryd.prog 13 #[.slice A l.length cap, .int .i64 at_] W (TookSc W l at_) := by
  have hT := take_anyW A cap at_ l W hb hc hm hL
  unfold Took at hT
  have hts : takeS l at_ = match takeO l at_ with
    | none => none
    | some (n, c) => if 16 < n then none else match takeCs l (at_ + c) n with
      | none => none
      | some (r, p) => if rightC r then some (r, p) else none := rfl
  cases ht : takeO l at_ with
  | none =>
    rw [ht] at hts
    simp only [tV, tP, tE, ht] at hT
    have HT := Lib.hid hT
    have HNO : Hid (∀ W', Below W.heap.size W W' → TookSc W l at_ (.returned (.tuple #[.slice none 0 0, .int .i64 0, .int .i64 52])) W') := fun W' h => tooks_no hts h
    clear hT hts ht hb
    generalize l.length = len at *
    go_enter Tryd.func13, Tryd.ntmps13
    go_wp2_with (first | (go_at_call 30; refine HT.out.mono ?_; rintro e w1 ⟨rfl, rfl⟩; clear HT))
    refine bodyPost_ret (v := .tuple #[.slice none 0 0, .int .i64 0, .int .i64 52]) ?_ rfl (HNO.out _ (Below.refl _ _))
    rw [results_tmp3 rfl]
    rfl
  | some x =>
    obtain ⟨n, c⟩ := x
    rw [ht] at hts
    simp only at hts
    simp only [tV, tP, tE, ht] at hT
    have HT := Lib.hid hT
    have h0 : 0 ≤ at_ ∧ at_ + c ≤ l.length := takeO_in ht
    by_cases hn16 : 16 < n
    · rw [if_pos hn16] at hts
      have HNO : Hid (∀ W', Below W.heap.size W W' → TookSc W l at_ (.returned (.tuple #[.slice none 0 0, .int .i64 0, .int .i64 52])) W') := fun W' h => tooks_no hts h
      have hgt : (16 : Int) < (n : Int) := by omega
      clear hT hts ht hb h0
      generalize l.length = len at *
      go_enter Tryd.func13, Tryd.ntmps13
      go_wp2_with (first | (go_at_call 30; refine HT.out.mono ?_; rintro e w1 ⟨rfl, rfl⟩; clear HT))
      refine bodyPost_ret (v := .tuple #[.slice none 0 0, .int .i64 0, .int .i64 52]) ?_ rfl (HNO.out _ (Below.refl _ _))
      rw [results_tmp3 rfl]
      rfl
    · rw [if_neg hn16] at hts
      obtain ⟨at2, hat2⟩ : ∃ a2, at_ + (c : Int) = a2 := ⟨_, rfl⟩
      rw [hat2] at hts
      have hgt : ¬ (16 : Int) < (n : Int) := by omega
      have HTS := Lib.hid hts
      have HBY := Lib.hid hb
      have hb0 : Below W.heap.size W (W.alloc (Obj.cells ((List.replicate n zc).flatMap colC).toArray 44)) := (Below.refl _ _).alloc (Nat.le_refl _) _
      have hg0 : Blk (W.alloc (Obj.cells ((List.replicate n zc).flatMap colC).toArray 44)) W.heap.size 44 ((List.replicate n zc).flatMap colC) := Blk.born W _ _
      have HB0 := Lib.hid hb0
      have HG0 := Lib.hid hg0
      have HIN : Hid (at2 ≤ l.length ∧ 0 ≤ at2) := ⟨by omega, by omega⟩
      obtain ⟨G, hG⟩ : ∃ G, W.heap.size = G := ⟨_, rfl⟩
      have HGE := Lib.hid hG
      clear hT hts ht hb hb0 hg0 h0
      rw [hat2] at HT
      clear hat2
      go_enter Tryd.func13, Tryd.ntmps13
      go_wp2_with (first | (go_at_call 30; refine HT.out.mono ?_; rintro e w1 ⟨rfl, rfl⟩; clear HT) | (refine mk_cols rfl (.tmp 25) (.tmp 25) rfl n rfl rfl (by omega) ?_))
      go_loopw [8, 9, 11, 29] (fun x8 x9 x11 x29 wr => ∃ k : Nat, k ≤ n ∧ x29 = .int .i64 k ∧ ∃ r p, takeCs l at2 k = some (r, p) ∧ x8 = .int .i64 p ∧ Blk wr G 44 ((r ++ List.replicate (n - k) zc).flatMap colC) ∧ Below G W wr) (fun _ _ _ x _ => n - (intOf x).toNat)
      case atStart => exact ⟨0, by omega, rfl, [], at2, rfl, rfl, by have := HG0.out; rw [hG] at this; exact this, by have := HB0.out; rw [hG] at this; exact this⟩
      case round =>
        obtain ⟨k, hk, rfl, r, p, htk, rfl, hblk, hbel⟩ := hrel
        have hfr := takeCs_form HIN.out.1 htk
        have hW : Below W.heap.size W wr := by rw [hG]; exact hbel
        have HBEL := Lib.hid hbel
        have HBLK := Lib.hid hblk
        have HTK := Lib.hid htk
        have hGl : G < wr.heap.size := lt_of_block hblk
        have HFR := Lib.hid hfr
        clear hbel hblk htk HG0 HB0
        by_cases hlt : k < n
        · have hcol := takecol_any A cap p l wr (HBY.out.keep hW) hn hc hm hL
          have hr1 := hfr.1
          have h3k : k * 3 + 3 ≤ ((r ++ List.replicate (n - k) zc).flatMap colC).length := by rw [flatC_len, List.length_append, List.length_replicate]; omega
          have H3K := Lib.hid h3k
          have HK : Hid (k < n) := hlt
          have HR1 := Lib.hid hr1
          unfold colR at hcol
          cases htc : takeC l p with
          | none =>
            have hno : takeS l at_ = none := by
              rw [HTS.out, takeCs_none (k := k + 1) (by simp only [takeCs]; rw [HTK.out]; simp only [htc]) n hlt]
            have HNO := Lib.hid (fun W' (h : Below W.heap.size W W') => tooks_no hno h)
            rw [htc] at hcol
            simp only at hcol
            have HCOL := Lib.hid hcol
            clear hcol htc hno hfr hr1 h3k hW
            go_wp2_with (first | (go_at_call 31; refine HCOL.out.mono ?_; rintro e w2 ⟨rfl, hb2⟩; have HG2 := Lib.hid (HBLK.out.below hb2 hGl); have HB2 := Lib.hid (HBEL.out.trans (hb2.mono (by omega))); clear hb2 HCOL) | (refine st_mid rfl 44 (.tmp 41) (.tmp 38) rfl 3 szCo G (k * 3) 44 _ [Value.string ⟨#[]⟩, Value.int .i64 0, Value.bool false] rfl rfl HG2.out rfl H3K.out one_z ?_; intro w3 hb3 hs3; have HB3 := Lib.hid hb3; have HS3 := Lib.hid hs3; clear hb3 hs3))
            refine bodyPost_ret (v := .tuple #[.slice none 0 0, .int .i64 0, .int .i64 52]) ?_ rfl (HNO.out _ (by rw [HGE.out]; exact HS3.out.below HB2.out (Nat.le_refl _)))
            rw [results_tmp3 rfl]
            rfl
          | some y =>
            obtain ⟨cc, q⟩ := y
            have hstep : takeCs l at2 (k + 1) = some (r ++ [cc], q) := by simp only [takeCs]; rw [HTK.out]; simp only [htc]
            rw [htc] at hcol
            simp only at hcol
            have HSTEP := Lib.hid hstep
            unfold colV at hcol
            have hset : setL ((r ++ List.replicate (n - k) zc).flatMap colC) (k * 3) [Value.string cc.name, Value.int .i64 cc.kind, Value.bool cc.null] = (((r ++ [cc]) ++ List.replicate (n - (k + 1)) zc).flatMap colC) := by
              have := flat_set (c := cc) (z := n - (k + 1)) hr1
              rw [show n - (k + 1) + 1 = n - k by omega] at this
              exact this
            have HSET := Lib.hid hset
            have HCOL := Lib.hid hcol
            clear hcol htc hstep hfr hr1 h3k hW hset
            go_wp2_with (first | (go_at_call 31; refine HCOL.out.mono ?_; rintro e w2 ⟨rfl, hb2⟩; have HG2 := Lib.hid (HBLK.out.below hb2 hGl); have HB2 := Lib.hid (HBEL.out.trans (hb2.mono (by omega))); clear hb2 HCOL) | (refine st_mid rfl 44 (.tmp 41) (.tmp 38) rfl 3 szCo G (k * 3) 44 _ [Value.string cc.name, Value.int .i64 cc.kind, Value.bool cc.null] rfl rfl HG2.out rfl H3K.out (one_c _ _ _) ?_; intro w3 hb3 hs3; have HB3 := Lib.hid hb3; have HS3 := Lib.hid hs3; clear hb3 hs3))
            go_roundw
            case rel => exact ⟨k + 1, HK.out, by go_num, r ++ [cc], q, HSTEP.out, rfl, by rw [← HSET.out]; exact HB3.out, HS3.out.below HB2.out (Nat.le_refl _)⟩
            case measure => have := HK.out; simp [intOf]; omega
        · obtain rfl : k = n := by omega
          have hr1 := hfr.1
          have hblk2 : Blk wr G 44 (r.flatMap colC) := by have := HBLK.out; rw [Nat.sub_self, List.replicate_zero, List.append_nil] at this; exact this
          have hcols := cols_blk hblk2
          have hri := right_any (some ⟨G, 0, none⟩) k r wr hcols (by omega)
          rw [hr1] at hri
          have hfin : takeS l at_ = if rightC r then some (r, p) else none := by rw [HTS.out, HTK.out]
          have HCOLS := Lib.hid hcols
          have HRN := Lib.hid hr1
          cases hrr : rightC r with
          | false =>
            rw [hrr] at hri hfin
            have HNO := Lib.hid (fun W' (h : Below W.heap.size W W') => tooks_no (by rw [hfin]; rfl) h)
            have HRI := Lib.hid hri
            clear hri hrr hfin hcols hblk2 hfr hr1 hW
            go_wp2_with (first | (go_at_call 12; refine HRI.out.mono ?_; rintro e w2 ⟨rfl, hb2⟩; have HB2 := Lib.hid (HBEL.out.trans (hb2.mono (by omega))); clear hb2 HRI))
            refine bodyPost_ret (v := .tuple #[.slice none 0 0, .int .i64 0, .int .i64 52]) ?_ rfl (HNO.out _ (by rw [HGE.out]; exact HB2.out))
            rw [results_tmp3 rfl]
            rfl
          | true =>
            rw [hrr] at hri hfin
            have HYES : Hid (∀ W', Cols W' (some ⟨G, 0, none⟩) r → Below W.heap.size W W' → TookSc W l at_ (.returned (.tuple #[.slice (some ⟨G, 0, none⟩) k k, .int .i64 p, .int .i64 0])) W') := fun W' h1 h2 => tooks_yes (by rw [hfin]; rfl) hr1 h1 (by simp) (Nat.le_refl _) h2
            have HRI := Lib.hid hri
            clear hri hrr hfin hcols hblk2 hfr hr1 hW
            go_wp2_with (first | (go_at_call 12; refine HRI.out.mono ?_; rintro e w2 ⟨rfl, hb2⟩; have HB2 := Lib.hid (HBEL.out.trans (hb2.mono (by omega))); have HC2 := Lib.hid (HCOLS.out.keep hb2); clear hb2 HRI))
            refine bodyPost_ret (v := .tuple #[.slice (some ⟨G, 0, none⟩) k k, .int .i64 p, .int .i64 0]) ?_ rfl (HYES.out _ HC2.out (by rw [HGE.out]; exact HB2.out))
            rw [results_tmp3 rfl]
            rfl
end Go.Proofs.YtabnjiepmhblaaaDoor

/-! The document's Take of a schema. -/
namespace Go.Proofs.YtabnjiepmhblaaaDoor
open Go.RowKit Go.Shelf Go.Maps
set_option linter.unusedVariables false

/-- Columns in a row of the call's own. -/
def OwnC (w : World) (B : Nat) (v : Value) (l : List Col) : Prop := w.ownsRow B 44 3 v l.length (l.flatMap colC)
theorem OwnC.form {w : World} {B : Nat} {v : Value} {l : List Col} (h : OwnC w B v l) : ∃ A c, v = .slice A l.length c ∧ Cols w A l ∧ (A = none → c = 0) ∧ l.length ≤ c := by
  obtain ⟨A, c, e, hA, hc, _, hcl⟩ := row_form h
  refine ⟨A, c, e, ?_, fun h => (hA h).1, hc⟩
  intro k hk
  have a0 := flatC_at l k 0 hk (by omega)
  have a1 := flatC_at l k 1 hk (by omega)
  have a2 := flatC_at l k 2 hk (by omega)
  obtain ⟨g, e0, b0⟩ := hcl _ _ a0
  obtain ⟨g1, e1, b1⟩ := hcl _ _ a1
  obtain ⟨g2, e2, b2⟩ := hcl _ _ a2
  subst e0
  injection e1 with e1
  injection e1 with e1
  injection e2 with e2
  injection e2 with e2
  subst e1 e2
  exact ⟨g, 0, rfl, by rw [Nat.zero_add]; exact b0, by rw [Nat.zero_add]; exact b1, by rw [Nat.zero_add]; exact b2⟩
theorem colC_one (c : Col) : ∀ u ∈ colC c, u.oneCell' = true := one_c _ _ _
theorem app_col {ops : Array Oper} {rest : List Oper} {o : Oper} {a : Act} {Q : Exit → Act → World → Prop} {w : World} (w0 : World) (hgd : o.guard = none) (s x : Operand)
    (ho : o.op = .call { callee := .builtin .append, args := #[s, x], argTypes := #[22, 22] }) (v : Value) (d : List Col) (hs : a.eval s = v) (hown : OwnC w w0.heap.size v d) (hbel : Below w0.heap.size w0 w)
    (g c : Nat) (q : Col) (hx : a.eval x = .slice (some ⟨g, 0, none⟩) 1 c) (hq : Blk w g 44 (colC q)) (hsz : d.length ≤ 4000)
    (h : ∀ v' w', OwnC w' w0.heap.size v' (d ++ [q]) → Below w0.heap.size w0 w' → wpList Tryd.prog ops Q rest (a.put o.dst v') w') : wpList Tryd.prog ops Q (o :: rest) a w := by
  obtain ⟨i0, hti, hz0, hz1, hz2⟩ := info_parts info_col
  refine wpList_append_own w hgd s x 22 ho w0.heap.size 44 i0 _ 3 32 Tryd.underlying22 hti hz0 hz1 hz2 rfl (by decide) v d.length (d.flatMap colC) hs hown ⟨g, 0, none⟩ 1 c (colC q) hx rfl
    (fun j u hj => by rw [Addr.add_lit, Nat.zero_add, hq.at_]; exact hj) (colC_one q) (by unfold maxLen; omega) (by omega) hbel.size ?_
  intro v' w' h1 h2 h5
  refine h v' w' ?_ (hbel.grown h2 hbel.size (fun k hk => (World.ownsRow.lt hown k hk).1))
  show w'.ownsRow w0.heap.size 44 3 v' (d ++ [q]).length ((d ++ [q]).flatMap colC)
  rw [List.length_append, List.flatMap_append, List.flatMap_cons, List.flatMap_nil, List.append_nil]
  exact h1

end Go.Proofs.YtabnjiepmhblaaaDoor

/-! The document's Lay of a schema. -/
namespace Go.Proofs.YtabnjiepmhblaaaDoor
open Go.RowKit Go.Shelf Go.Maps
set_option linter.unusedVariables false

theorem flat_take (l : List Col) (k : Nat) (h : k < l.length) : (l.take (k + 1)).flatMap encC = (l.take k).flatMap encC ++ encC l[k] := by
  rw [List.take_add_one, List.flatMap_append, List.getElem?_eq_getElem h]
  simp
theorem flat_take_len {l : List Col} (h : rightC l = true) : ∀ k, ((l.take k).flatMap encC).length ≤ k * 36
  | 0 => by simp
  | k + 1 => by
    have h1 := flat_take_len h k
    by_cases hk : k < l.length
    · rw [flat_take l k hk, List.length_append]
      have := (encC_len (cols_ok h l[k] (List.getElem_mem hk))).1
      omega
    · rw [List.take_of_length_le (by omega)] at h1 ⊢
      omega

end Go.Proofs.YtabnjiepmhblaaaDoor
