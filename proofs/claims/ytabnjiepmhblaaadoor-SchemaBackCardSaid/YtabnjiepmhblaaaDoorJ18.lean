/- Joined texts: The walk of the program's Parse of a schema. The walk of the document's Parse of a schema. -/
import Derived.Test.YtabnjiepmhblaaaDoorJ17
import Derived.Test.YtabnjiepmhblaaaDoorJ9
import Derived.Test.YtabnjiepmhblaaaDoorShS
/-! The walk of the program's Parse of a schema. -/
namespace Go.Proofs.YtabnjiepmhblaaaDoor
open Go.RowKit Go.Shelf Go.Maps
set_option linter.unusedVariables false

theorem splitK_more {p : List UInt8} (hp : p ≠ []) : ∀ (k m : Nat) (s : List UInt8), s.length ≤ k → s.length ≤ m → Lib.splitK p 0 k s = Lib.splitK p 0 m s
  | 0, m, s, h, _ => by
    have : s = [] := List.length_eq_zero_iff.1 (by omega)
    subst this
    cases m with
    | zero => rfl
    | succ m =>
      unfold Lib.splitK
      have : Lib.index [] p = -1 := by unfold Lib.index; cases p with | nil => exact absurd rfl hp | cons a t => rfl
      rw [this]
      rfl
  | k + 1, 0, s, _, h => by
    have : s = [] := List.length_eq_zero_iff.1 (by omega)
    subst this
    unfold Lib.splitK
    have : Lib.index [] p = -1 := by unfold Lib.index; cases p with | nil => exact absurd rfl hp | cons a t => rfl
    rw [this]
    rfl
  | k + 1, m + 1, s, h1, h2 => by
    unfold Lib.splitK
    by_cases h : (Lib.index s p == -1) = true
    · rw [if_pos h, if_pos h]
    · rw [if_neg h, if_neg h]
      have hd := Lib.drop_shorter hp h
      rw [splitK_more hp k m _ (by omega) (by omega)]
theorem parseCs_snoc : ∀ (l : List (List UInt8)) (p : List UInt8), parseCs (l ++ [p]) = match parseCs l with | some cs => (match parseC p with | some x => some (cs ++ [colP x]) | none => none) | none => none
  | [], p => by
    show parseCs [p] = _
    rw [parseCs_cons]
    cases parseC p <;> rfl
  | q :: l, p => by
    rw [List.cons_append, parseCs_cons, parseCs_cons, parseCs_snoc l p]
    cases parseC q with
    | none => rfl
    | some x =>
      cases parseCs l with
      | none => rfl
      | some cs => cases parseC p <;> rfl
theorem parseCs_stuck : ∀ (l m : List (List UInt8)), parseCs l = none → parseCs (l ++ m) = none
  | [], m, h => by cases h
  | q :: l, m, h => by
    rw [List.cons_append]
    rw [parseCs_cons] at h ⊢
    cases hq : parseC q with
    | none => rfl
    | some x =>
      rw [hq] at h
      cases hl : parseCs l with
      | none => rw [parseCs_stuck l m hl]
      | some cs => rw [hl] at h; cases h
theorem mk_colsO {ops : Array Oper} {rest : List Oper} {o : Oper} {a : Act} {Q : Exit → Act → World → Prop} {w : World} (w0 : World) (hgd : o.guard = none) (l c : Operand)
    (hop : o.op = Op.makeSlice 22 l c) (n : Nat) (hl : a.eval l = .int .i64 0) (hc : a.eval c = .int .i64 (n : Int)) (hsz : n ≤ 100) (hbel : Below w0.heap.size w0 w)
    (h : ∀ v w', OwnC w' w0.heap.size v [] → Below w0.heap.size w0 w' → wpList Tryd.prog ops Q rest (a.put o.dst v) w') : wpList Tryd.prog ops Q (o :: rest) a w := by
  obtain ⟨i0, hti, hz0, hz1, hz2⟩ := info_parts info_col
  refine wpList_make_own w hgd l c 22 hop w0.heap.size 44 i0 (.agg #[.string ⟨#[]⟩, .int .i64 0, .bool false]) 3 Tryd.underlying22 hti hz0 hz1 .i64 .i64 n n hl hc rfl (by rw [hz2]; omega) (by unfold maxLen; omega) hbel.size ?_
  intro w' h1 h2
  exact h _ w' h1 (hbel.grown h2 hbel.size (by simp))

theorem blk_two (w : World) (o : Obj) (t : TypeId) (cs : List Value) : Blk ((w.alloc o).alloc (.cells cs.toArray t)) (w.heap.size + 1) t cs := by
  have := Blk.born (w.alloc o) t cs
  have e : (w.alloc o).heap.size = w.heap.size + 1 := by simp
  rwa [e] at this
/-- What Parse answers of a text. -/
def ParsedS (W : World) (l : List UInt8) (e : Ending) (W' : World) : Prop :=
  match parseL l with
  | none => e = .returned (.tuple #[.slice none 0 0, .int .i64 50]) ∧ Below W.heap.size W W'
  | some r => ∃ A cap, e = .returned (.tuple #[.slice A r.length cap, .int .i64 0]) ∧ Cols W' A r ∧ (A = none → cap = 0) ∧ Below W.heap.size W W'
theorem parsed_no {W W' : World} {l : List UInt8} (h : parseL l = none) (hb : Below W.heap.size W W') : ParsedS W l (.returned (.tuple #[.slice none 0 0, .int .i64 50])) W' := by
  unfold ParsedS; rw [h]; exact ⟨rfl, hb⟩
theorem parsed_yes {W W' : World} {l : List UInt8} {r : List Col} {A : Option Addr} {cap n : Nat} (h : parseL l = some r) (hn : r.length = n) (hc : Cols W' A r) (hA : A = none → cap = 0) (hb : Below W.heap.size W W') :
    ParsedS W l (.returned (.tuple #[.slice A n cap, .int .i64 0])) W' := by
  subst hn
  unfold ParsedS; rw [h]; exact ⟨A, cap, rfl, hc, hA, hb⟩
theorem cells_of {w : World} {ps : List ByteArray} {N : Nat} (h : ps.length ≤ N) (k : Nat) (hk : k < ps.length) (t : TypeId) : (w.alloc (.cells (Lib.cellsOf ps N) t)).cell? ⟨w.heap.size, k, none⟩ = some (.string ps[k]) := by
  rw [cell_of_row _ w.heap.size k (Lib.cellsOf ps N) t (0, 0) (heap_alloc_new w _)]
  unfold Lib.cellsOf
  rw [List.getElem?_toArray, List.getElem?_append_left (by rw [List.length_map]; exact hk), List.getElem?_map, List.getElem?_eq_getElem hk]
  rfl

set_option maxRecDepth 100000 in
set_option maxHeartbeats 8000000 in
theorem parse_any (s : ByteArray) (m0 : Int) (W : World) (hs : s.size < 4294967281) (hm : W.cell? ⟨0, 0, none⟩ = some (.int .i64 m0)) :
    Calls Tryd.prog 8 #[.string s] W (ParsedS W s.data.toList) := by
  have hsp := Tryd.strings_SplitN s ⟨#[44, 32]⟩ 17 m0 W hs hm (by decide) (by omega) (by omega)
  have hlen := Lib.splitB_length_le ⟨#[44, 32]⟩ 0 (min 17 (s.size + 1) - 1) s
  have hdat := Lib.splitB_data ⟨#[44, 32]⟩ 0 (min 17 (s.size + 1) - 1) s
  have hdat2 : (Lib.splitB ⟨#[44, 32]⟩ 0 (min 17 (s.size + 1) - 1) s).map (·.data.toList) = Lib.splitK [44, 32] 0 16 s.data.toList := by
    rw [hdat]
    show Lib.splitK [44, 32] 0 _ _ = _
    by_cases h16 : 16 ≤ s.size
    · rw [show min 17 (s.size + 1) - 1 = 16 by omega]
    · exact splitK_more (by simp) _ _ _ (by rw [sz_list]; omega) (by rw [sz_list]; omega)
  have hmin : min 17 (s.size + 1) - 1 + 1 ≤ min 17 (s.size + 1) := by omega
  have hmm : min 17 (s.size + 1) ≤ 17 := by omega
  have hsub : ∀ p ∈ Lib.splitB ⟨#[44, 32]⟩ 0 (min 17 (s.size + 1) - 1) s, p.size ≤ 4294967281 := by
    intro p hp
    have h1 : p.data.toList ∈ Lib.splitK [44, 32] 0 16 s.data.toList := by rw [← hdat2]; exact List.mem_map_of_mem hp
    have h2 := split_le _ _ _ _ h1
    rw [sz_list, sz_list] at h2
    omega
  clear hdat
  generalize Lib.splitB ⟨#[44, 32]⟩ 0 (min 17 (s.size + 1) - 1) s = ps at *
  generalize min 17 (s.size + 1) = cp at *
  have hpn : ps.length ≤ cp := by omega
  have hp17 : ps.length ≤ 17 := by omega
  have hpl : parseL s.data.toList = match parseCs (ps.map (·.data.toList)) with | some l => if rightC l then some l else none | none => none := by rw [hdat2]; rfl
  obtain ⟨W1, hW1⟩ : ∃ x, x = W.alloc (.cells (Lib.cellsOf ps cp) 9) := ⟨_, rfl⟩
  have hc1 : ∀ k (h : k < ps.length), W1.cell? ⟨W.heap.size, k, none⟩ = some (.string ps[k]) := fun k h => by rw [hW1]; exact cells_of hpn k h _
  have hb1 : Below W.heap.size W W1 := by rw [hW1]; exact (Below.refl _ _).alloc (Nat.le_refl _) _
  rw [← hW1] at hsp
  obtain ⟨P, hP⟩ : ∃ P, W.heap.size = P := ⟨_, rfl⟩
  have hsz1 : W1.heap.size = P + 1 := by rw [hW1, ← hP]; simp
  have HNO : Hid (∀ W', parseL s.data.toList = none → Below W1.heap.size W1 W' → ParsedS W s.data.toList (.returned (.tuple #[.slice none 0 0, .int .i64 50])) W') := fun W' h hb => parsed_no h (hb1.trans (hb.mono (by omega)))
  have HYES : Hid (∀ W' r A cap n, parseL s.data.toList = some r → r.length = n → Cols W' A r → (A = none → cap = 0) → Below W1.heap.size W1 W' → ParsedS W s.data.toList (.returned (.tuple #[.slice A n cap, .int .i64 0])) W') := fun W' r A cap n h hn hc hA hb => parsed_yes h hn hc hA (hb1.trans (hb.mono (by omega)))
  rw [hP] at hc1 hsp
  have HC1 := Lib.hid hc1
  have HSP := Lib.hid hsp
  have HPL := Lib.hid hpl
  have HSUB := Lib.hid hsub
  have HS1 := Lib.hid hsz1
  obtain ⟨n, hn⟩ : ∃ n, ps.length = n := ⟨_, rfl⟩
  rw [hn] at HSP hpn hp17
  have HN := Lib.hid hn
  obtain ⟨sl, hsl⟩ : ∃ sl, s.data.toList = sl := ⟨_, rfl⟩
  rw [hsl] at HNO HYES HPL ⊢
  clear hsp hlen hdat2 hmin hsub hpl hW1 hc1 hb1 hP hsz1 hn hsl hm hs
  go_enter Tryd.func8, Tryd.ntmps8
  go_wp2_with (first | (go_at_call 22; refine HSP.out.mono ?_; rintro e w1 ⟨rfl, rfl⟩; clear HSP) | (refine mk_colsO w1 rfl (.const (.int .i64 0)) (.tmp 13) rfl n rfl rfl (by omega) (Below.refl _ _) ?_; intro v2 w2 hown2 hbel2))
  have HO2 := Lib.hid hown2
  have HB2 := Lib.hid hbel2
  clear hown2 hbel2
  obtain ⟨Av2, cv2, rfl, _, _, _⟩ := HO2.out.form
  rw [List.length_nil] at HO2 ⊢
  go_loopw [5, 17] (fun x5 x17 wr => ∃ k : Nat, k ≤ n ∧ x17 = .int .i64 k ∧ ∃ cs, parseCs ((ps.take k).map (·.data.toList)) = some cs ∧ cs.length = k ∧ OwnC wr w1.heap.size x5 cs ∧ Below w1.heap.size w1 wr) (fun _ x _ => n - (intOf x).toNat)
  case atStart => exact ⟨0, by omega, rfl, [], rfl, rfl, HO2.out, HB2.out⟩
  case round =>
    obtain ⟨k, hk, rfl, cs, hcs, hck, hown, hbel⟩ := hrel
    obtain ⟨Av, cv, rfl, hcols, hA, hle⟩ := hown.form
    rw [hck] at hown
    have HCS := Lib.hid hcs
    have HOWN := Lib.hid hown
    have HBEL := Lib.hid hbel
    have HCOLS := Lib.hid hcols
    have HCK := Lib.hid hck
    have hP1 : P < w1.heap.size := by have := HS1.out; omega
    rw [hck]
    clear hcs hown hbel HO2 HB2 hcols hck
    by_cases hlt : k < n
    · have hkp : k < ps.length := by rw [HN.out]; exact hlt
      have hcell := (HBEL.out.cell (p := ⟨P, k, none⟩) hP1).trans (HC1.out k hkp)
      have hps := HSUB.out _ (List.getElem_mem hkp)
      have hcol := parsecol_any ps[k] wr (by omega)
      have hsn := parseCs_snoc ((ps.take k).map (·.data.toList)) ps[k].data.toList
      have hts : (ps.take (k + 1)).map (·.data.toList) = (ps.take k).map (·.data.toList) ++ [ps[k].data.toList] := by
        rw [List.take_add_one, List.getElem?_eq_getElem hkp, List.map_append]; rfl
      have htd : ps.map (·.data.toList) = (ps.take (k + 1)).map (·.data.toList) ++ (ps.drop (k + 1)).map (·.data.toList) := by rw [← List.map_append, List.take_append_drop]
      rw [HCS.out] at hsn
      rw [← hts] at hsn
      unfold pcR at hcol
      have HK : Hid (k + 1 ≤ n) := hlt
      cases hpc : parseC ps[k].data.toList with
      | none =>
        rw [hpc] at hsn hcol
        simp only at hsn hcol
        have hpl : parseL sl = none := by rw [HPL.out, htd, parseCs_stuck _ _ hsn]
        have HNO2 := Lib.hid (fun W' => HNO.out W' hpl)
        have HCOL := Lib.hid hcol
        generalize ps[k] = pk at hcell HCOL
        clear hsn hcol hts htd hpl hpc hps hkp HNO
        go_wp2_with (first | (go_at_call 23; refine HCOL.out.mono ?_; rintro e w2 ⟨rfl, hb2⟩; have HB2 := Lib.hid (HBEL.out.trans (hb2.mono HBEL.out.size)); clear hb2 HCOL))
        go_ret2
        exact HNO2.out _ ((HB2.out.alloc HB2.out.size _))
      | some x =>
        rw [hpc] at hsn hcol
        simp only at hsn hcol
        obtain ⟨q, hq⟩ : ∃ q, colP x = q := ⟨_, rfl⟩
        rw [hq] at hsn hcol
        have HSN := Lib.hid hsn
        unfold colV at hcol
        have HCOL := Lib.hid hcol
        generalize ps[k] = pk at hcell HCOL
        clear hsn hcol hts htd hpc hps hkp HNO hq
        go_wp2_with (first | (go_at_call 23; refine HCOL.out.mono ?_; rintro e w2 ⟨rfl, hb2⟩; have HB2 := Lib.hid (HBEL.out.trans (hb2.mono HBEL.out.size)); have HO2 := Lib.hid (row_below HOWN.out hb2); clear hb2 HCOL) | (refine app_col w1 rfl (.tmp 29) (.tmp 31) rfl (.slice Av k cv) cs rfl (World.ownsRow.alloc (World.ownsRow.alloc HO2.out _) _) ((HB2.out.alloc HB2.out.size _).alloc (by have := HB2.out.size; simp; omega) _) (w2.heap.size + 1) 1 q rfl (blk_two w2 _ _ (colC q)) (by have := HCK.out; omega) ?_; intro v3 w3 hown3 hbel3; have HO3 := Lib.hid hown3; have HB3 := Lib.hid hbel3; clear hown3 hbel3))
        go_roundw
        case rel => exact ⟨k + 1, HK.out, by go_num, cs ++ [q], HSN.out, by have := HCK.out; rw [List.length_append, List.length_cons, List.length_nil]; omega, HO3.out, HB3.out⟩
        case measure => simp [intOf]; have := HK.out; omega
    · obtain rfl : k = n := by omega
      have hfull : (ps.take k).map (·.data.toList) = ps.map (·.data.toList) := by rw [List.take_of_length_le (by rw [HN.out]; omega)]
      have hpl := HPL.out
      rw [← hfull, HCS.out] at hpl
      simp only at hpl
      have hri := right_any Av cv cs wr HCOLS.out (by have := HCK.out; omega)
      rw [HCK.out] at hri
      cases hr : rightC cs with
      | false =>
        rw [hr] at hri hpl
        have HNO2 := Lib.hid (fun W' => HNO.out W' (by rw [hpl]; rfl))
        have HRI := Lib.hid hri
        clear hri hpl hr hfull HNO
        go_wp2_with (first | (go_at_call 12; refine HRI.out.mono ?_; rintro e w2 ⟨rfl, hb2⟩; have HB2 := Lib.hid (HBEL.out.trans (hb2.mono HBEL.out.size)); clear hb2 HRI))
        go_ret2
        exact HNO2.out _ HB2.out
      | true =>
        rw [hr] at hri hpl
        have HYES2 : Hid (∀ W', Cols W' Av cs → Below w1.heap.size w1 W' → ParsedS W sl (.returned (.tuple #[.slice Av k cv, .int .i64 0])) W') := fun W' h1 h2 => HYES.out W' cs Av cv k (by rw [hpl]; rfl) HCK.out h1 hA h2
        have HRI := Lib.hid hri
        clear hri hpl hr hfull HYES HNO hA
        go_wp2_with (first | (go_at_call 12; refine HRI.out.mono ?_; rintro e w2 ⟨rfl, hb2⟩; have HB2 := Lib.hid (HBEL.out.trans (hb2.mono HBEL.out.size)); have HC2 := Lib.hid (HCOLS.out.keep hb2); clear hb2 HRI))
        go_ret2
        exact HYES2.out _ HC2.out HB2.out
end Go.Proofs.YtabnjiepmhblaaaDoor

/-! The walk of the document's Parse of a schema. -/
namespace Go.Proofs.YtabnjiepmhblaaaDoor
open Go.RowKit Go.Shelf Go.Maps
set_option linter.unusedVariables false

def dropB (t : List UInt8) : List UInt8 := match t with | [] => [] | x :: r => if x = 32 then r else x :: r
/-- The kind of a word, of those up to j. -/
def kindUp (w : List UInt8) : Nat → Int
  | 0 => 0
  | j + 1 => if w = wordT ((j : Int) + 1) then (j : Int) + 1 else kindUp w j
def looseP : List (List UInt8) → Option (List UInt8 × Int × Bool)
  | nm :: wd :: rest => some (nm, kindUp wd 3, !rest.isEmpty)
  | _ => none
def looseC (t : List UInt8) : Option (List UInt8 × Int × Bool) := looseP (partsL 32 (dropB t))
def looseCs : List (List UInt8) → Option (List Col)
  | [] => some []
  | p :: ps => match looseC p with | some x => (match looseCs ps with | some l => some (colP x :: l) | none => none) | none => none
def looseL (s : List UInt8) : Option (List Col) := if 16 < (partsL 44 s).length then none else looseCs (partsL 44 s)
/-- What the document's Parse answers. -/
def refS (s : List UInt8) : Option (List Col) := match looseL s with
  | some cs => if rightC cs = true ∧ showL cs = s then some cs else none
  | none => none

theorem parts_pre : ∀ (pre x : List UInt8) (ys : List (List UInt8)), (44 : UInt8) ∉ pre ++ x → (∀ y ∈ ys, (44 : UInt8) ∉ y) → partsL 44 (pre ++ Lib.join (x :: ys) [44, 32]) = (pre ++ x) :: ys.map (fun y => 32 :: y)
  | pre, x, [], h, _ => by rw [join_one, parts_end _ _ h]; rfl
  | pre, x, y :: t, h, hy => by
    rw [join_cons, ← List.append_assoc, parts_hit _ _ _ h]
    have h2 : (44 : UInt8) ∉ [32] ++ y := by
      rw [List.mem_append]
      rintro (h3 | h3)
      · simp at h3
      · exact hy y (by simp) h3
    have := parts_pre [32] y t h2 (fun z hz => hy z (List.mem_cons_of_mem _ hz))
    rw [show (32 :: Lib.join (y :: t) [44, 32]) = [32] ++ Lib.join (y :: t) [44, 32] by rfl, this]
    rfl
theorem tail_parts (k : Int) (nl : Bool) (h : k = 1 ∨ k = 2 ∨ k = 3) : ∃ r, tailT k nl = 32 :: r ∧ ∃ rest, partsL 32 r = wordT k :: rest ∧ rest.isEmpty = !nl := by
  rcases h with rfl | rfl | rfl <;> cases nl <;> exact ⟨_, rfl, _, rfl, rfl⟩
theorem kindUp_word (k : Int) (h : k = 1 ∨ k = 2 ∨ k = 3) : kindUp (wordT k) 3 = k := by
  rcases h with rfl | rfl | rfl <;> decide
theorem loose_show {c : Col} (h : colOk c = true) : looseC (showC c) = some (c.name.data.toList, c.kind, c.null) ∧ looseC (32 :: showC c) = some (c.name.data.toList, c.kind, c.null) := by
  obtain ⟨h1, h2⟩ := colOk_parts h
  have hk : c.kind = 1 ∨ c.kind = 2 ∨ c.kind = 3 := by omega
  obtain ⟨hn, _⟩ := name_chars h1
  obtain ⟨r, hr, rest, hp, he⟩ := tail_parts c.kind c.null hk
  have hl : 1 ≤ c.name.data.toList.length := by
    unfold nameL at h1
    rw [Bool.and_eq_true, decide_eq_true_iff] at h1
    exact h1.1.1
  obtain ⟨x, t, hx⟩ : ∃ x t, c.name.data.toList = x :: t := by
    cases hq : c.name.data.toList with
    | nil => rw [hq] at hl; simp at hl
    | cons x t => exact ⟨x, t, rfl⟩
  have hx32 : x ≠ 32 := fun e => hn (by rw [hx, e]; simp)
  have hparts : partsL 32 (showC c) = c.name.data.toList :: wordT c.kind :: rest := by
    rw [showC_eq, hr, parts_hit _ _ _ hn, hp]
  have hd1 : dropB (showC c) = showC c := by
    rw [showC_eq, hx]
    show (if x = 32 then _ else _) = _
    rw [if_neg hx32]
    rfl
  have hd2 : dropB (32 :: showC c) = showC c := rfl
  constructor
  · unfold looseC
    rw [hd1, hparts]
    simp only [looseP, kindUp_word _ hk, he, Bool.not_not]
  · unfold looseC
    rw [hd2, hparts]
    simp only [looseP, kindUp_word _ hk, he, Bool.not_not]
theorem colP_col (c : Col) : colP (c.name.data.toList, c.kind, c.null) = c := by
  have hb := c.bound
  cases c with
  | mk nm k nl b =>
    unfold colP
    simp only [Col.mk.injEq, and_true]
    have : nm.data.toList.length ≤ 140737488351232 := by rw [sz_list]; exact b
    rw [List.take_of_length_le this]
    simp [str]
theorem looseCs_show : ∀ {l : List Col}, (∀ c ∈ l, colOk c = true) → looseCs (l.map (fun c => 32 :: showC c)) = some l
  | [], _ => rfl
  | c :: l, h => by
    rw [List.map_cons, looseCs, (loose_show (h c (by simp))).2, looseCs_show (fun x hx => h x (List.mem_cons_of_mem _ hx))]
    show some (colP _ :: l) = _
    rw [colP_col]
theorem loose_back {l : List Col} (h : rightC l = true) : looseL (showL l) = some l := by
  have hl := rightC_lens h
  have hok := cols_ok h
  cases l with
  | nil => simp at hl
  | cons c t =>
    have hp : partsL 44 (showL (c :: t)) = showC c :: t.map (fun c => 32 :: showC c) := by
      have := parts_pre [] (showC c) (t.map showC) (by simpa using showC_comma (hok c (by simp))) (fun y hy => by
        obtain ⟨d, hd, rfl⟩ := List.mem_map.1 hy
        exact showC_comma (hok d (List.mem_cons_of_mem _ hd)))
      rw [List.nil_append, List.nil_append, List.map_map] at this
      exact this
    unfold looseL
    rw [hp, if_neg (by rw [List.length_cons, List.length_map]; rw [List.length_cons] at hl; omega), looseCs, (loose_show (hok c (by simp))).1, looseCs_show (fun x hx => hok x (List.mem_cons_of_mem _ hx))]
    show some (colP _ :: t) = _
    rw [colP_col]
/-- The document's Parse reads what the program's reads. -/
theorem refS_eq (s : List UInt8) (hs : s.length ≤ 140737488351232) : refS s = parseL s := by
  cases hp : parseL s with
  | some l =>
    obtain ⟨h1, h2⟩ := parseL_show hs hp
    unfold refS
    rw [← h2, loose_back h1]
    simp only [h1, and_self, if_true]
  | none =>
    unfold refS
    cases hl : looseL s with
    | none => rfl
    | some cs =>
      simp only
      by_cases hc : rightC cs = true ∧ showL cs = s
      · have := (parseL_iff hs).2 hc
        rw [this] at hp
        cases hp
      · rw [if_neg hc]
theorem looseCs_snoc : ∀ (l : List (List UInt8)) (p : List UInt8), looseCs (l ++ [p]) = match looseCs l with | some cs => (match looseC p with | some x => some (cs ++ [colP x]) | none => none) | none => none
  | [], p => by
    simp only [List.nil_append, looseCs]
  | q :: l, p => by
    rw [List.cons_append, looseCs, looseCs, looseCs_snoc l p]
    cases looseC q with
    | none => rfl
    | some x =>
      cases looseCs l with
      | none => rfl
      | some cs => cases looseC p <;> rfl
theorem looseCs_stuck : ∀ (l m : List (List UInt8)), looseCs l = none → looseCs (l ++ m) = none
  | [], m, h => by cases h
  | q :: l, m, h => by
    rw [List.cons_append]
    rw [looseCs] at h ⊢
    cases hq : looseC q with
    | none => rfl
    | some x =>
      rw [hq] at h
      cases hl : looseCs l with
      | none => rw [looseCs_stuck l m hl]
      | some cs => rw [hl] at h; cases h
theorem looseCs_len : ∀ {l : List (List UInt8)} {cs : List Col}, looseCs l = some cs → cs.length = l.length
  | [], cs, h => by
    have : cs = [] := by simpa [looseCs] using h.symm
    rw [this]; rfl
  | p :: ps, cs, h => by
    rw [looseCs] at h
    cases hp : looseC p with
    | none => rw [hp] at h; cases h
    | some x =>
      rw [hp] at h
      cases hq : looseCs ps with
      | none => rw [hq] at h; cases h
      | some m =>
        rw [hq] at h
        have e : cs = colP x :: m := (Option.some.inj h).symm
        rw [e, List.length_cons, List.length_cons, looseCs_len hq]
end Go.Proofs.YtabnjiepmhblaaaDoor
