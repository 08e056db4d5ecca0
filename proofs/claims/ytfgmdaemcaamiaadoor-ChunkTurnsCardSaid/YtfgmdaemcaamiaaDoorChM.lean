/- Columns of values, and their chunks: the plain model. -/
import Derived.Test.YtfgmdaemcaamiaaDoorInZA
import Derived.Test.YtfgmdaemcaamiaaDoorDcM
import Derived.Test.YtfgmdaemcaamiaaDoorPkA
import Derived.Test.YtfgmdaemcaamiaaDoorVlM
import Derived.Test.YtfgmdaemcaamiaaDoorCrc
namespace Go.Proofs.YtfgmdaemcaamiaaDoor
open Go.RowKit
set_option linter.unusedVariables false

theorem Vl.same8 {c d : Vl} (h1 : c.kind = d.kind) (h2 : c.num = d.num) (h3 : c.text = d.text) : c = d := by
  cases c; cases d; simp_all
/-- Nothing. -/
def nulV : Vl := ⟨0, 0, ⟨#[]⟩, by decide, by decide, by decide⟩
theorem vlR_nul {v : Vl} (h : vlR v = true) (h0 : v.kind = 0) : v = nulV := by
  unfold vlR rightB at h
  rw [if_pos h0] at h
  simp only [Bool.and_eq_true, decide_eq_true_eq, List.isEmpty_iff] at h
  refine Vl.same8 h0 h.1 ?_
  have h2 := h.2
  rw [ByteArray.toList_eq] at h2
  show v.text = ⟨#[]⟩
  cases hv : v.text
  rw [hv] at h2
  simp only at h2
  congr 1
  exact Array.toList_inj.1 h2
/-- The values that are not null. -/
def othL (l : List Vl) : List Vl := l.filter fun v => !decide (v.kind = 0)
def nulN (l : List Vl) : Nat := l.length - (othL l).length
def maskL (l : List Vl) : List W64 := l.map fun v => if v.kind = 0 then 1#64 else 0#64
def numsL (l : List Vl) : List Int := (othL l).map (·.num)
def txtsL (l : List Vl) : List Tx := (othL l).map (·.text.data.toList)
def colOk8 (kind : Int) (v : Vl) : Bool := vlR v && (decide (v.kind = kind) || decide (v.kind = 0))
/-- Which values a column may have. -/
def colR (kind : Int) (l : List Vl) : Bool := (decide (1 ≤ kind) && decide (kind ≤ 3)) && (decide (l.length ≤ 1024) && l.all (colOk8 kind))
theorem colR_iff {kind : Int} {l : List Vl} : colR kind l = true ↔ (1 ≤ kind ∧ kind ≤ 3) ∧ l.length ≤ 1024 ∧ ∀ v ∈ l, colOk8 kind v = true := by
  unfold colR
  simp only [Bool.and_eq_true, decide_eq_true_eq, List.all_eq_true]
theorem othL_le (l : List Vl) : (othL l).length ≤ l.length := List.length_filter_le _ _
theorem othL_app (l m : List Vl) : othL (l ++ m) = othL l ++ othL m := List.filter_append _ _
theorem nulN_oth (l : List Vl) : nulN l + (othL l).length = l.length := by unfold nulN; have := othL_le l; omega
theorem oth_mem {kind : Int} {l : List Vl} (h : ∀ v ∈ l, colOk8 kind v = true) {v : Vl} (hv : v ∈ othL l) : vlR v = true ∧ v.kind = kind ∧ v.kind ≠ 0 := by
  unfold othL at hv
  rw [List.mem_filter] at hv
  have h1 := h v hv.1
  unfold colOk8 at h1
  simp only [Bool.and_eq_true, Bool.or_eq_true, decide_eq_true_eq] at h1
  have h2 : v.kind ≠ 0 := by simpa using hv.2
  exact ⟨h1.1, by rcases h1.2 with h | h; exact h; exact absurd h h2, h2⟩
theorem nums_64 (l : List Vl) : All64 (numsL l) := fun x hx => by
  unfold numsL at hx
  obtain ⟨v, _, rfl⟩ := List.mem_map.1 hx
  exact ⟨v.lo, v.hi⟩
theorem nums_len (l : List Vl) : (numsL l).length = (othL l).length := List.length_map _
theorem txts_len (l : List Vl) : (txtsL l).length = (othL l).length := List.length_map _
theorem tl_len (s : ByteArray) : s.toList.length = s.size := by rw [ByteArray.toList_eq]; rfl
theorem right_len {v : Vl} (h : vlR v = true) : v.text.data.toList.length ≤ 1024 := by
  have hs : v.text.toList = v.text.data.toList := by rw [ByteArray.toList_eq]
  rw [← hs]
  unfold vlR rightB at h
  by_cases h0 : v.kind = 0
  · rw [if_pos h0] at h; simp at h; rw [h.2]; simp
  · rw [if_neg h0] at h
    by_cases h1 : v.kind = 1
    · rw [if_pos h1] at h; simp at h; rw [h]; simp
    · rw [if_neg h1] at h
      by_cases h2 : v.kind = 2
      · rw [if_pos h2] at h; simp at h; rw [h.2]; simp
      · rw [if_neg h2] at h
        by_cases h3 : v.kind = 3
        · rw [if_pos h3] at h; simp at h; exact h.2
        · rw [if_neg h3] at h; cases h
theorem txts_right {kind : Int} {l : List Vl} (h : colR kind l = true) : rightT (txtsL l) := by
  rw [colR_iff] at h
  refine ⟨by rw [txts_len]; have := othL_le l; omega, fun x hx => ?_⟩
  unfold txtsL at hx
  obtain ⟨v, hv, rfl⟩ := List.mem_map.1 hx
  exact right_len (oth_mem h.2.2 hv).1
def bstT (l : List Tx) : Nat := if (encT 1 l).length < (encT 0 l).length then 1 else 0
theorem bstT_lt (l : List Tx) : bstT l < 2 := by unfold bstT; split <;> omega
/-- The bits that say nulls. -/
def maskB (l : List Vl) : List UInt8 := if 0 < nulN l ∧ nulN l < l.length then packL ((l.length + 7) / 8) (bitsP 1 (maskL l)) else []
/-- The encoding of the values that are not null. -/
def othB (kind : Int) (l : List Vl) : List UInt8 := if nulN l < l.length then (if kind = 3 then encT (bstT (txtsL l)) (txtsL l) else encI (bestL (numsL l)) (numsL l)) else []
def tailC (kind : Int) (l : List Vl) : List UInt8 := num l.length ++ (num (nulN l) ++ (maskB l ++ othB kind l))
def bodyC (kind : Int) (l : List Vl) : List UInt8 := UInt8.ofNat kind.toNat :: tailC kind l
def sumB (b : List UInt8) : List UInt8 := [UInt8.ofNat ((crcN b).toNat % 256), UInt8.ofNat ((crcN b).toNat / 256 % 256), UInt8.ofNat ((crcN b).toNat / 65536 % 256), UInt8.ofNat ((crcN b).toNat / 16777216 % 256)]
/-- A column's chunk. -/
def encC (kind : Int) (l : List Vl) : List UInt8 := bodyC kind l ++ sumB (bodyC kind l)
theorem sumB_len (b : List UInt8) : (sumB b).length = 4 := rfl
theorem encC_len8 (kind : Int) (l : List Vl) : (encC kind l).length = (bodyC kind l).length + 4 := by unfold encC; rw [List.length_append, sumB_len]
theorem maskL_len (l : List Vl) : (maskL l).length = l.length := List.length_map _
theorem maskL_wid (l : List Vl) : widL (maskL l) ≤ 1 := widL_all (by omega) fun x hx => by
  unfold maskL at hx
  obtain ⟨v, _, rfl⟩ := List.mem_map.1 hx
  by_cases h : v.kind = 0
  · rw [if_pos h]; decide
  · rw [if_neg h]; decide
theorem maskB_len (l : List Vl) (h : l.length ≤ 1024) : (maskB l).length ≤ 200 := by
  unfold maskB
  split
  · rw [packL_len]; omega
  · simp
theorem othB_len {kind : Int} {l : List Vl} (h : colR kind l = true) : (othB kind l).length ≤ 5000000 := by
  have hr := txts_right h
  rw [colR_iff] at h
  have ho := othL_le l
  unfold othB
  split
  · split
    · exact encT_len hr
    · have := encB_len (f := bestL (numsL l)) (l := numsL l) (by rw [nums_len]; omega)
      unfold encI
      rw [List.length_cons]
      omega
  · simp
theorem bodyC_len {kind : Int} {l : List Vl} (h : colR kind l = true) : (bodyC kind l).length ≤ 5001000 := by
  have h1 := (num_len l.length).2
  have h2 := (num_len (nulN l)).2
  have h3 := maskB_len l (colR_iff.1 h).2.1
  have h4 := othB_len h
  unfold bodyC tailC
  rw [List.length_cons, List.length_append, List.length_append, List.length_append]
  omega

/-- The sum's bytes part sums. -/
theorem sumB_inj {a b : List UInt8} (h : sumB a = sumB b) : crcN a = crcN b := by
  unfold sumB at h
  simp only [List.cons.injEq, and_true] at h
  obtain ⟨h0, h1, h2, h3⟩ := h
  have e : ∀ x y : Nat, x < 256 → y < 256 → UInt8.ofNat x = UInt8.ofNat y → x = y := fun x y hx hy he => by
    have := congrArg UInt8.toNat he
    rw [UInt8.toNat_ofNat', UInt8.toNat_ofNat'] at this
    omega
  have g0 := e _ _ (by omega) (by omega) h0
  have g1 := e _ _ (by omega) (by omega) h1
  have g2 := e _ _ (by omega) (by omega) h2
  have g3 := e _ _ (by omega) (by omega) h3
  have l1 := (crcN a).isLt
  have l2 := (crcN b).isLt
  apply BitVec.eq_of_toNat_eq
  omega
/-- A chunk of which one byte is another one is no chunk. -/
theorem encC_turn {kind kind' : Int} {l l' : List Vl} {i : Nat} {c : UInt8} (hi : i < (encC kind l).length) (hc : (encC kind l)[i] ≠ c) : (encC kind l).set i c ≠ encC kind' l' := by
  intro h
  have hc : ∀ u, (encC kind l)[i]? = some u → u ≠ c := fun u hu e => by
    rw [List.getElem?_eq_getElem hi] at hu
    injection hu with hu
    exact hc (hu.trans e)
  have hlen := congrArg List.length h
  rw [List.length_set, encC_len8, encC_len8] at hlen
  have hl : (bodyC kind l).length = (bodyC kind' l').length := by omega
  rw [encC_len8] at hi
  by_cases hb : i < (bodyC kind l).length
  · unfold encC at h hc
    rw [List.getElem?_append_left hb, List.getElem?_eq_getElem hb] at hc
    have hc := hc _ rfl
    rw [List.set_append, if_pos hb] at h
    obtain ⟨h1, h2⟩ := List.append_inj h (by rw [List.length_set]; exact hl)
    have h3 := sumB_inj h2
    rw [← h1] at h3
    exact crcN_set _ i c hb hc h3.symm
  · unfold encC at h hc
    rw [List.getElem?_append_right (by omega)] at hc
    rw [List.set_append, if_neg hb] at h
    obtain ⟨h1, h2⟩ := List.append_inj h hl
    rw [← h1] at h2
    have h3 : ((sumB (bodyC kind l)).set (i - (bodyC kind l).length) c)[i - (bodyC kind l).length]? = (sumB (bodyC kind l))[i - (bodyC kind l).length]? := by rw [h2]
    have hlt : i - (bodyC kind l).length < (sumB (bodyC kind l)).length := by rw [sumB_len]; omega
    rw [List.getElem?_set_self hlt] at h3
    exact hc _ h3.symm rfl

/-- The values between which nulls are put. -/
def spread : List Vl → List W64 → Option (List Vl)
  | g, [] => if g = [] then some [] else none
  | g, m :: ms => if m = 1 then (spread g ms).map (nulV :: ·) else match g with | [] => none | x :: t => (spread t ms).map (x :: ·)
theorem spread_back : ∀ l : List Vl, (∀ v ∈ l, v.kind = 0 → v = nulV) → spread (othL l) (maskL l) = some l
  | [], _ => rfl
  | v :: t, h => by
    have ih := spread_back t fun u hu => h u (List.mem_cons_of_mem _ hu)
    by_cases h0 : v.kind = 0
    · have e1 : othL (v :: t) = othL t := by unfold othL; rw [List.filter_cons, if_neg (by simp [h0])]
      have e2 : maskL (v :: t) = 1#64 :: maskL t := by unfold maskL; rw [List.map_cons, if_pos h0]
      rw [e1, e2]
      simp only [spread]
      rw [if_pos (show (1#64 : W64) = 1 from rfl), ih, h v (by simp) h0]
      rfl
    · have e1 : othL (v :: t) = v :: othL t := by unfold othL; rw [List.filter_cons, if_pos (by simp [h0])]
      have e2 : maskL (v :: t) = 0#64 :: maskL t := by unfold maskL; rw [List.map_cons, if_neg h0]
      rw [e1, e2]
      simp only [spread]
      rw [if_neg (by decide), ih]
      rfl
/-- A number, a truth; a text. -/
def mkI (k x : Int) : Vl := if h : -9223372036854775808 ≤ x ∧ x ≤ 9223372036854775807 then ⟨k, x, ⟨#[]⟩, by decide, h.1, h.2⟩ else nulV
def mkT (k : Int) (t : Tx) : Vl := if h : t.length ≤ 1024 then ⟨k, 0, str t, by rw [str_size]; unfold maxLen; omega, by decide, by decide⟩ else nulV
theorem mkI_of {k x : Int} (h : I64 x) : (mkI k x).kind = k ∧ (mkI k x).num = x ∧ (mkI k x).text = ⟨#[]⟩ := by
  have h' : -9223372036854775808 ≤ x ∧ x ≤ 9223372036854775807 := h
  unfold mkI; rw [dif_pos h']; exact ⟨rfl, rfl, rfl⟩
theorem mkT_of {k : Int} {t : Tx} (h : t.length ≤ 1024) : (mkT k t).kind = k ∧ (mkT k t).num = 0 ∧ (mkT k t).text = str t := by
  unfold mkT; rw [dif_pos h]; exact ⟨rfl, rfl, rfl⟩
theorem nums_back {kind : Int} {l : List Vl} (h : colR kind l = true) (hk : kind ≠ 3) : (numsL l).map (mkI kind) = othL l := by
  rw [colR_iff] at h
  unfold numsL
  rw [List.map_map]
  conv => rhs; rw [← List.map_id (othL l)]
  refine List.map_congr_left fun v hv => ?_
  obtain ⟨h1, h2, h3⟩ := oth_mem h.2.2 hv
  obtain ⟨a, b, c⟩ := mkI_of (k := kind) (x := v.num) ⟨v.lo, v.hi⟩
  refine Vl.same8 (by rw [Function.comp, a]; exact h2.symm) b ?_
  rw [Function.comp, c]
  unfold vlR rightB at h1
  have he : v.text.toList = [] := by
    rw [if_neg h3] at h1
    by_cases q1 : v.kind = 1
    · rw [if_pos q1] at h1; simpa using h1
    · rw [if_neg q1, if_pos (by omega)] at h1; simp at h1; exact h1.2
  rw [ByteArray.toList_eq] at he
  show _ = v.text
  cases hv : v.text
  rw [hv] at he
  simp only at he
  congr 1
  exact (Array.toList_inj.1 he).symm
theorem txts_back {l : List Vl} (h : colR 3 l = true) : (txtsL l).map (mkT 3) = othL l := by
  rw [colR_iff] at h
  unfold txtsL
  rw [List.map_map]
  conv => rhs; rw [← List.map_id (othL l)]
  refine List.map_congr_left fun v hv => ?_
  obtain ⟨h1, h2, h3⟩ := oth_mem h.2.2 hv
  obtain ⟨a, b, c⟩ := mkT_of (k := 3) (right_len h1)
  refine Vl.same8 (by rw [Function.comp, a]; exact h2.symm) ?_ (by rw [Function.comp, c]; rfl)
  rw [Function.comp, b]
  unfold vlR rightB at h1
  rw [if_neg h3, if_neg (by omega), if_neg (by omega), if_pos h2] at h1
  simp at h1
  exact h1.1.symm
theorem nul_col {kind : Int} {l : List Vl} (h : colR kind l = true) : ∀ v ∈ l, v.kind = 0 → v = nulV := fun v hv h0 => by
  have h1 := (colR_iff.1 h).2.2 v hv
  unfold colOk8 at h1
  simp only [Bool.and_eq_true] at h1
  exact vlR_nul h1.1 h0
theorem all_nul {kind : Int} {l : List Vl} (h : colR kind l = true) (hn : nulN l = l.length) : l = List.replicate l.length nulV := by
  have h0 : othL l = [] := by have := nulN_oth l; exact List.length_eq_zero_iff.1 (by omega)
  refine List.eq_replicate_iff.2 ⟨rfl, fun v hv => nul_col h v hv ?_⟩
  unfold othL at h0
  rw [List.filter_eq_nil_iff] at h0
  simpa using h0 v hv
theorem no_nul {l : List Vl} (hn : nulN l = 0) : maskL l = List.replicate l.length 0#64 := by
  have h0 := nulN_oth l
  rw [hn, Nat.zero_add] at h0
  refine List.eq_replicate_iff.2 ⟨maskL_len l, fun x hx => ?_⟩
  unfold maskL at hx
  obtain ⟨v, hv, rfl⟩ := List.mem_map.1 hx
  have h1 : othL l = l := List.filter_eq_self.2 (by
    have := (List.filter_sublist (p := fun v : Vl => !decide (v.kind = 0)) (l := l)).eq_of_length h0
    exact List.filter_eq_self.1 this)
  have h2 := List.filter_eq_self.1 h1 v hv
  rw [if_neg (by simpa using h2)]
end Go.Proofs.YtfgmdaemcaamiaaDoor
