/- Lists of texts and their encodings: the plain model. -/
import Derived.Test.YtfgmdaemcaamiaaDoorOrd
import Derived.Test.YtfgmdaemcaamiaaDoorPkA
import Derived.Test.YtfgmdaemcaamiaaDoorNum
namespace Go.Proofs.YtfgmdaemcaamiaaDoor
open Go.RowKit
set_option linter.unusedVariables false

abbrev Tx := List UInt8
def ltT (a b : Tx) : Bool := Op.bytesLess a b
theorem ltT_irrefl (a : Tx) : ltT a a = false := bl_irrefl a
theorem ltT_asym {a b : Tx} (h : ltT a b = true) : ltT b a = false := bl_asym a b h
theorem ltT_trans {a b c : Tx} (h : ltT a b = true) (k : ltT b c = true) : ltT a c = true := bl_trans a b c h k
theorem ltT_tri {a b : Tx} (h : ltT a b = false) (k : ltT b a = false) : a = b := bl_tri a b h k
/-- Texts that rise. -/
def Rise (R : List Tx) : Prop := R.Pairwise (fun a b => ltT a b = true)
/-- A text among rising ones. -/
def insT (R : List Tx) (x : Tx) : List Tx := R.filter (fun y => ltT y x) ++ x :: R.filter (fun y => ltT x y)
def riseL (l : List Tx) : List Tx := l.foldl insT []
/-- How many stand ahead of a text. -/
def plc (R : List Tx) (x : Tx) : Nat := (R.filter (fun y => ltT y x)).length
theorem insT_mem {R : List Tx} {x y : Tx} : y ∈ insT R x ↔ y = x ∨ y ∈ R := by
  unfold insT
  simp only [List.mem_append, List.mem_cons, List.mem_filter]
  constructor
  · rintro (⟨h, _⟩ | h | ⟨h, _⟩)
    · exact .inr h
    · exact .inl h
    · exact .inr h
  · rintro (h | h)
    · exact .inr (.inl h)
    · cases h1 : ltT y x with
      | true => exact .inl ⟨h, rfl⟩
      | false =>
        cases h2 : ltT x y with
        | true => exact .inr (.inr ⟨h, rfl⟩)
        | false => exact .inr (.inl (ltT_tri h1 h2))
theorem insT_rise {R : List Tx} (h : Rise R) (x : Tx) : Rise (insT R x) := by
  unfold Rise insT at *
  rw [List.pairwise_append]
  refine ⟨h.filter _, ?_, ?_⟩
  · rw [List.pairwise_cons]
    exact ⟨fun y hy => (List.mem_filter.1 hy).2, h.filter _⟩
  · intro a ha b hb
    have h1 := (List.mem_filter.1 ha).2
    rcases List.mem_cons.1 hb with rfl | hb
    · exact h1
    · exact ltT_trans h1 (List.mem_filter.1 hb).2
theorem foldl_ins (l : List Tx) : ∀ R, Rise R → Rise (l.foldl insT R) ∧ ∀ y, y ∈ l.foldl insT R ↔ y ∈ l ∨ y ∈ R := by
  induction l with
  | nil => intro R h; exact ⟨h, fun y => by simp⟩
  | cons a t ih =>
    intro R h
    obtain ⟨h1, h2⟩ := ih (insT R a) (insT_rise h a)
    refine ⟨h1, fun y => ?_⟩
    rw [List.foldl_cons, h2, insT_mem, List.mem_cons]
    constructor
    · rintro (h | h | h)
      · exact .inl (.inr h)
      · exact .inl (.inl h)
      · exact .inr h
    · rintro ((h | h) | h)
      · exact .inr (.inl h)
      · exact .inl h
      · exact .inr (.inr h)
theorem rise_rise (l : List Tx) : Rise (riseL l) := (foldl_ins l [] List.Pairwise.nil).1
theorem rise_mem (l : List Tx) (y : Tx) : y ∈ riseL l ↔ y ∈ l := by
  have := (foldl_ins l [] List.Pairwise.nil).2 y
  unfold riseL
  simpa using this
theorem riseL_snoc (l : List Tx) (x : Tx) : riseL (l ++ [x]) = insT (riseL l) x := by unfold riseL; rw [List.foldl_append]; rfl
/-- Rising texts are told by which they are. -/
theorem rise_uniq : ∀ {R S : List Tx}, Rise R → Rise S → (∀ y, y ∈ R ↔ y ∈ S) → R = S
  | [], [], _, _, _ => rfl
  | [], b :: S, _, _, h => absurd ((h b).2 (by simp)) (by simp)
  | a :: R, [], _, _, h => absurd ((h a).1 (by simp)) (by simp)
  | a :: R, b :: S, hR, hS, h => by
    unfold Rise at hR hS
    rw [List.pairwise_cons] at hR hS
    have hab : a = b := by
      rcases List.mem_cons.1 ((h a).1 (by simp)) with e | e
      · exact e
      · rcases List.mem_cons.1 ((h b).2 (by simp)) with e2 | e2
        · exact e2.symm
        · have h1 := hS.1 a e
          have h2 := hR.1 b e2
          rw [ltT_asym h1] at h2
          cases h2
    subst hab
    rw [rise_uniq hR.2 hS.2 fun y => ?_]
    constructor
    · intro hy
      rcases List.mem_cons.1 ((h y).1 (List.mem_cons_of_mem _ hy)) with e | e
      · subst e
        have := hR.1 y hy
        rw [ltT_irrefl] at this
        cases this
      · exact e
    · intro hy
      rcases List.mem_cons.1 ((h y).2 (List.mem_cons_of_mem _ hy)) with e | e
      · subst e
        have := hS.1 y hy
        rw [ltT_irrefl] at this
        cases this
      · exact e
/-- Each text's place among rising ones. -/
theorem plc_at : ∀ {R : List Tx}, Rise R → ∀ (i : Nat) (h : i < R.length), plc R R[i] = i
  | [], _, i, h => absurd h (by simp)
  | a :: R, hR, i, h => by
    unfold Rise at hR
    rw [List.pairwise_cons] at hR
    cases i with
    | zero =>
      show ((a :: R).filter (fun y => ltT y a)).length = 0
      rw [List.filter_cons, if_neg (by rw [ltT_irrefl]; decide)]
      rw [List.length_eq_zero_iff, List.filter_eq_nil_iff]
      intro y hy
      rw [ltT_asym (hR.1 y hy)]
      decide
    | succ i =>
      have hi : i < R.length := by simpa using h
      show ((a :: R).filter (fun y => ltT y R[i])).length = i + 1
      rw [List.filter_cons, if_pos (hR.1 _ (List.getElem_mem hi)), List.length_cons]
      have := plc_at hR.2 i hi
      unfold plc at this
      rw [this]
theorem plc_of {R : List Tx} (hR : Rise R) {x : Tx} (hx : x ∈ R) : ∃ h : plc R x < R.length, R[plc R x] = x := by
  obtain ⟨i, hi, rfl⟩ := List.mem_iff_getElem.1 hx
  rw [plc_at hR i hi]
  exact ⟨hi, rfl⟩
theorem plc_le (R : List Tx) (x : Tx) : plc R x ≤ R.length := List.length_filter_le _ _
theorem insT_len (R : List Tx) (x : Tx) : (insT R x).length ≤ R.length + 1 ∨ True := .inr trivial
theorem rise_nodup {R : List Tx} (h : Rise R) : R.Nodup := by
  unfold Rise at h
  exact h.imp fun hab e => by subst e; rw [ltT_irrefl] at hab; cases hab
theorem sub_len : ∀ {R l : List Tx}, R.Nodup → (∀ y ∈ R, y ∈ l) → R.length ≤ l.length
  | [], _, _, _ => Nat.zero_le _
  | a :: R, l, hn, h => by
    rw [List.nodup_cons] at hn
    have ha : a ∈ l := h a (by simp)
    have := sub_len (R := R) (l := l.erase a) hn.2 fun y hy => (List.mem_erase_of_ne (fun e : y = a => hn.1 (by rw [← e]; exact hy))).2 (h y (List.mem_cons_of_mem _ hy))
    rw [List.length_erase_of_mem ha] at this
    have := List.length_pos_of_mem ha
    rw [List.length_cons]
    omega
theorem rise_len (l : List Tx) : (riseL l).length ≤ l.length := sub_len (rise_nodup (rise_rise l)) fun y hy => (rise_mem l y).1 hy

/-- A text, laid. -/
def txt (x : Tx) : List UInt8 := num x.length ++ x
/-- A list that may be. -/
def rightT (l : List Tx) : Prop := l.length ≤ 4096 ∧ ∀ x ∈ l, x.length ≤ 1024
instance (l : List Tx) : Decidable (rightT l) := by unfold rightT; infer_instance
def plW (R : List Tx) (x : Tx) : W64 := BitVec.ofNat 64 (plc R x)
/-- What stands behind the form's byte. -/
def encTB : Nat → List Tx → List UInt8
  | 0, l => l.flatMap txt
  | _, l => num (riseL l).length ++ (riseL l).flatMap txt ++ packD (l.map (plW (riseL l)))
def encT (f : Nat) (l : List Tx) : List UInt8 := UInt8.ofNat f :: encTB f l
theorem txt_len {x : Tx} (h : x.length ≤ 1024) : (txt x).length ≤ 1034 := by
  unfold txt
  have := (num_len x.length).2
  rw [List.length_append]
  omega
theorem flat_txt : ∀ {l : List Tx}, (∀ x ∈ l, x.length ≤ 1024) → (l.flatMap txt).length ≤ l.length * 1034
  | [], _ => by simp
  | a :: t, h => by
    have h1 := txt_len (h a (by simp))
    have h2 := flat_txt (l := t) fun x hx => h x (List.mem_cons_of_mem _ hx)
    rw [List.flatMap_cons, List.length_append, List.length_cons, Nat.succ_mul]
    omega
theorem rise_right {l : List Tx} (h : rightT l) : rightT (riseL l) := ⟨Nat.le_trans (rise_len l) h.1, fun x hx => h.2 x ((rise_mem l x).1 hx)⟩
theorem packD_len {d : List W64} (hd : d.length ≤ 4096) : (packD d).length = 1 + (d.length * widL d + 7) / 8 := by
  unfold packD
  rw [List.length_cons]
  have e : pkB (widL d : Int) d = packL ((d.length * widL d + 7) / 8) (bitsP (widL d) d) := by
    have hw := widL_le d
    exact if_pos ⟨by omega, by omega, hd, Int.le_refl _⟩
  rw [e, packL_len]
  omega
theorem encT_len {f : Nat} {l : List Tx} (h : rightT l) : (encT f l).length ≤ 5000000 := by
  unfold encT
  rw [List.length_cons]
  have h1 := h.1
  have hf := flat_txt h.2
  match f with
  | 0 =>
    show (l.flatMap txt).length + 1 ≤ _
    omega
  | f + 1 =>
    show (num (riseL l).length ++ (riseL l).flatMap txt ++ packD (l.map (plW (riseL l)))).length + 1 ≤ _
    have h2 := (rise_right h).1
    have h3 := flat_txt (rise_right h).2
    have h4 := (num_len (riseL l).length).2
    have h5 := packD_len (d := l.map (plW (riseL l))) (by rw [List.length_map]; exact h1)
    have h6 := widL_le (l.map (plW (riseL l)))
    rw [List.length_map] at h5
    have h7 : l.length * widL (l.map (plW (riseL l))) ≤ 4096 * 64 := Nat.mul_le_mul h1 h6
    rw [List.length_append, List.length_append]
    omega
/-- A list that goes on with texts of its own. -/
theorem rise_more {l m : List Tx} (h : ∀ x ∈ m, x ∈ l) : riseL (l ++ m) = riseL l :=
  rise_uniq (rise_rise _) (rise_rise _) fun y => by
    rw [rise_mem, rise_mem, List.mem_append]
    exact ⟨fun h' => h'.elim id (h y), .inl⟩
theorem widL_all : ∀ {d : List W64} {w : Nat}, w ≤ 64 → (∀ x ∈ d, x.toNat < 2 ^ w) → widL d ≤ w
  | [], w, _, _ => by
    have : widL [] = 0 := by decide
    omega
  | a :: t, w, hw, h => by
    have e : widL ([a] ++ t) = max (widL [a]) (widL t) := widL_app [a] t
    have h2 := widL_all (d := t) hw fun x hx => h x (List.mem_cons_of_mem _ hx)
    have h1 : widL [a] ≤ w := by
      unfold widL orL
      rw [show ([a] : List W64).foldl (· ||| ·) 0 = a by simp]
      exact (bitLen_le_iff a.isLt hw).2 (h a (by simp))
    show widL ([a] ++ t) ≤ w
    rw [e]
    omega
theorem widL_sub {d m : List W64} (h : ∀ x ∈ m, x ∈ d) : widL m ≤ widL d := by
  refine widL_all (widL_le d) fun x hx => ?_
  have hd := h x hx
  obtain ⟨i, hi, rfl⟩ := List.mem_iff_getElem.1 hd
  have hs := widL_snoc d i hi
  have h2 : widL (d.take (i + 1)) ≤ widL d := by
    have e := widL_app (d.take (i + 1)) (d.drop (i + 1))
    rw [List.take_append_drop] at e
    omega
  have h3 : Lib.bitLen (d[i]).toNat ≤ widL d := by omega
  exact (bitLen_le_iff (d[i]).isLt (widL_le d)).1 h3
/-- A list that goes on with its own texts grows by its places alone. -/
theorem once_len {l m : List Tx} (hl : l.length ≤ 1000) (hm : m.length ≤ 3000) (hs : ∀ x ∈ m, x ∈ l) : (encT 1 (l ++ m)).length ≤ (encT 1 l).length + (10 * m.length + 7) / 8 := by
  have he : ∀ l, encT 1 l = UInt8.ofNat 1 :: (num (riseL l).length ++ (riseL l).flatMap txt ++ packD (l.map (plW (riseL l)))) := fun l => rfl
  rw [he, he, rise_more hs, List.map_append]
  obtain ⟨R, hR⟩ : ∃ R, riseL l = R := ⟨_, rfl⟩
  rw [hR]
  have hd : ∀ x ∈ m.map (plW R), x ∈ l.map (plW R) := fun x hx => by
    obtain ⟨y, hy, rfl⟩ := List.mem_map.1 hx
    exact List.mem_map.2 ⟨y, hs y hy, rfl⟩
  have hw : widL (l.map (plW R) ++ m.map (plW R)) = widL (l.map (plW R)) := by
    rw [widL_app]
    have := widL_sub hd
    omega
  have hRl : R.length ≤ 1000 := by rw [← hR]; exact Nat.le_trans (rise_len l) hl
  have hw10 : widL (l.map (plW R)) ≤ 10 := by
    refine widL_all (by omega) fun x hx => ?_
    obtain ⟨y, hy, rfl⟩ := List.mem_map.1 hx
    obtain ⟨h, _⟩ := plc_of (R := R) (by rw [← hR]; exact rise_rise l) (x := y) (by rw [← hR]; exact (rise_mem l y).2 hy)
    unfold plW
    rw [BitVec.toNat_ofNat]
    omega
  have h1 := packD_len (d := l.map (plW R) ++ m.map (plW R)) (by simp; omega)
  have h2 := packD_len (d := l.map (plW R)) (by simp; omega)
  simp only [List.length_cons, List.length_append, h1, h2, hw, List.length_map]
  generalize widL (l.map (plW R)) = w at hw10
  have h3 : (l.length + m.length) * w = l.length * w + m.length * w := Nat.add_mul _ _ _
  have h4 : m.length * w ≤ m.length * 10 := Nat.mul_le_mul_left _ hw10
  rw [h3]
  omega
end Go.Proofs.YtfgmdaemcaamiaaDoor
