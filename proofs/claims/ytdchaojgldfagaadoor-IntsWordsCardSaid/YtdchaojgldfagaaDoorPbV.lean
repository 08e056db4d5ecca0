/- The walks of stackyardlaw01.PackReads (5) and PackBack (6). -/
import Derived.Test.YtdchaojgldfagaaDoorPbU
import Derived.Test.YtdchaojgldfagaaDoorPbS
import Derived.Test.YtdchaojgldfagaaDoorPaX
namespace Go.Proofs.YtdchaojgldfagaaDoor
open Go.RowKit
set_option linter.unusedVariables false

def pkOk (w : Int) (l : List W64) : Prop := 0 ≤ w ∧ w ≤ 64 ∧ l.length ≤ 4096 ∧ (widL l : Int) ≤ w
instance (w : Int) (l : List W64) : Decidable (pkOk w l) := by unfold pkOk; infer_instance
def pkB (w : Int) (l : List W64) : List UInt8 := if pkOk w l then packL ((l.length * w.toNat + 7) / 8) (bitsP w.toNat l) else []
def pkE (w : Int) (l : List W64) : Int := if pkOk w l then 0 else 2
def unOk (n w : Int) : Prop := 0 ≤ n ∧ n ≤ 4096 ∧ 0 ≤ w ∧ w ≤ 64
instance (n w : Int) : Decidable (unOk n w) := by unfold unOk; infer_instance
def unFit (n w : Int) (b : List UInt8) : Prop := unOk n w ∧ b.length = (n.toNat * w.toNat + 7) / 8 ∧ fitB (n.toNat * w.toNat) b = true
instance (n w : Int) (b : List UInt8) : Decidable (unFit n w b) := by unfold unFit; infer_instance
def unV (n w : Int) (b : List UInt8) : List W64 := if unFit n w b then unL w.toNat n.toNat (bitsB b) else []
def unE (n w : Int) (b : List UInt8) : Int := if unOk n w then if unFit n w b then 0 else 10 else 2

theorem unE_zero {n w : Int} {b : List UInt8} : unE n w b = 0 ↔ unFit n w b := by
  unfold unE
  by_cases h : unOk n w
  · rw [if_pos h]
    by_cases h2 : unFit n w b
    · simp [h2]
    · simp [h2]
  · rw [if_neg h]
    constructor
    · intro h2; omega
    · intro h2; exact absurd h2.1 h
theorem pkE_zero {w : Int} {l : List W64} : pkE w l = 0 ↔ pkOk w l := by
  unfold pkE
  by_cases h : pkOk w l
  · simp [h]
  · simp [h]
theorem back1 {w : Int} {l : List W64} (h : pkE w l = 0) : unE (l.length : Int) w (pkB w l) = 0 ∧ unV (l.length : Int) w (pkB w l) = l := by
  rw [pkE_zero] at h
  obtain ⟨h1, h2, h3, h4⟩ := h
  obtain ⟨v, rfl⟩ : ∃ v : Nat, w = (v : Int) := ⟨w.toNat, by omega⟩
  have e : pkB (v : Int) l = packL ((l.length * v + 7) / 8) (bitsP v l) := if_pos ⟨h1, h2, h3, h4⟩
  have hwd : widL l ≤ v := by omega
  have hf : unFit (l.length : Int) (v : Int) (pkB (v : Int) l) := by
    refine ⟨⟨by omega, by omega, h1, h2⟩, ?_, ?_⟩
    · rw [e, packL_len]; rfl
    · rw [e]; exact fit_packL (by omega) hwd
  refine ⟨unE_zero.2 hf, ?_⟩
  unfold unV
  rw [if_pos hf, e]
  exact un_packL (by omega) hwd
theorem back2 {n w : Int} {b : List UInt8} (h : unE n w b = 0) : ((unV n w b).length : Int) = n ∧ pkE w (unV n w b) = 0 ∧ pkB w (unV n w b) = b := by
  rw [unE_zero] at h
  have h' := h
  obtain ⟨⟨h1, h2, h3, h4⟩, h5, h6⟩ := h
  obtain ⟨v, rfl⟩ : ∃ v : Nat, w = (v : Int) := ⟨w.toNat, by omega⟩
  obtain ⟨m, rfl⟩ : ∃ m : Nat, n = (m : Int) := ⟨n.toNat, by omega⟩
  simp only [Int.toNat_natCast] at h5 h6
  have e : unV (m : Int) (v : Int) b = unL v m (bitsB b) := if_pos h'
  have hok : pkOk (v : Int) (unL v m (bitsB b)) := ⟨h3, h4, by rw [unL_len]; omega, by have := width_unL (show v ≤ 64 by omega) m (bitsB b); omega⟩
  rw [e]
  refine ⟨by rw [unL_len], pkE_zero.2 hok, ?_⟩
  unfold pkB
  rw [if_pos hok, unL_len]
  simp only [Int.toNat_natCast]
  rw [← h5]
  exact (again_iff (by omega) h5).2 h6
theorem unV_bad {n w : Int} {b : List UInt8} (h : ¬ unE n w b = 0) : unV n w b = [] := by
  rw [unE_zero] at h
  exact if_neg h
theorem unV_len {n w : Int} {b : List UInt8} : (unV n w b).length ≤ 4096 := by
  by_cases h : unE n w b = 0
  · have h1 := (back2 h).1
    have h2 := (unE_zero.1 h).1.2.1
    omega
  · rw [unV_bad h]; simp

/-- What Unpack hands back: numbers, and whether. -/
def UnpR (W : World) (l : List W64) (er : Int) (e : Ending) (W' : World) : Prop :=
  ∃ A' c', e = .returned (.tuple #[.slice A' l.length c', .int .i64 er]) ∧ Num W' A' l ∧ Below W.heap.size W W'
theorem UnR.unp {W : World} {n w : Nat} {b : List UInt8} (hn : n ≤ 4096) (hw : w ≤ 64) (hl : b.length = (n * w + 7) / 8) {e : Ending} {W' : World} (h : UnR W n w b e W') : UnpR W (unV (n : Int) (w : Int) b) (unE (n : Int) (w : Int) b) e W' := by
  have hok : unOk (n : Int) (w : Int) := ⟨by omega, by omega, by omega, by omega⟩
  rcases h with ⟨hf, g, rfl, hg, hblk, hb⟩ | ⟨hf, rfl, hb⟩
  · have hfit : unFit (n : Int) (w : Int) b := ⟨hok, hl, hf⟩
    rw [unE_zero.2 hfit, show unV (n : Int) (w : Int) b = unL w n (bitsB b) from if_pos hfit]
    refine ⟨_, _, by rw [unL_len], ?_, hb⟩
    intro i hi
    refine ⟨g, 0, rfl, ?_⟩
    rw [Nat.zero_add, hblk.at_ i, n64s_at hi]
    simp [List.getD, hi]
  · have hfit : ¬ unFit (n : Int) (w : Int) b := fun h => by have := h.2.2; simp only [Int.toNat_natCast] at this; rw [hf] at this; cases this
    rw [show unE (n : Int) (w : Int) b = 10 by unfold unE; rw [if_pos hok, if_neg hfit], show unV (n : Int) (w : Int) b = [] from if_neg hfit]
    exact ⟨_, _, rfl, fun k hk => by simp at hk, hb⟩
theorem un_all (n w : Int) (A : Option Addr) (cap : Nat) (b : List UInt8) (W : World) (hb : Byt W A b) (hT : TabAt W) :
    Calls Tryd.prog 61 #[.slice A b.length cap, .int .i64 n, .int .i64 w] W (UnpR W (unV n w b) (unE n w b)) ∧ Calls Tryd.prog 52 #[.slice A b.length cap, .int .i64 n, .int .i64 w] W (UnpR W (unV n w b) (unE n w b)) := by
  by_cases hok : unOk n w
  · obtain ⟨h1, h2, h3, h4⟩ := hok
    obtain ⟨v, rfl⟩ : ∃ v : Nat, w = (v : Int) := ⟨w.toNat, by omega⟩
    obtain ⟨m, rfl⟩ : ∃ m : Nat, n = (m : Int) := ⟨n.toNat, by omega⟩
    by_cases hl : b.length = (m * v + 7) / 8
    · exact ⟨(unpack_good m v A cap b W hb (by omega) (by omega) hl hT).mono fun e W' h => h.unp (by omega) (by omega) hl, (refunpack_good m v A cap b W hb (by omega) (by omega) hl).mono fun e W' h => h.unp (by omega) (by omega) hl⟩
    · have hfit : ¬ unFit (m : Int) (v : Int) b := fun h => hl h.2.1
      rw [show unE (m : Int) (v : Int) b = 10 by unfold unE; rw [if_pos ⟨h1, h2, h3, h4⟩, if_neg hfit], show unV (m : Int) (v : Int) b = [] from if_neg hfit]
      refine ⟨(unpack_len m v A cap b W (by omega) (by omega) hl).mono ?_, (refunpack_len m v A cap b W (by omega) (by omega) hl).mono ?_⟩
      all_goals
        rintro e W' ⟨rfl, h2⟩
        exact ⟨_, _, rfl, fun k hk => by simp at hk, h2⟩
  · have hfit : ¬ unFit n w b := fun h => hok h.1
    rw [show unE n w b = 2 from if_neg hok, show unV n w b = [] from if_neg hfit]
    refine ⟨(unpack_bad n w A cap b W hok).mono ?_, (refunpack_bad n w A cap b W hok).mono ?_⟩
    all_goals
      rintro e W' ⟨rfl, h2⟩
      exact ⟨_, _, rfl, fun k hk => by simp at hk, h2⟩
theorem pk_all (w : Int) (A : Option Addr) (cap : Nat) (ls : List W64) (W : World) (hl : Num W A ls) (hn : ls.length ≤ 4611686018427387904) (hT : TabAt W) :
    Calls Tryd.prog 39 #[.int .i64 w, .slice A ls.length cap] W (PackR W (pkB w ls) (pkE w ls)) := by
  by_cases hok : pkOk w ls
  · have hE := pkE_zero.2 hok
    obtain ⟨h1, h2, h3, h4⟩ := hok
    obtain ⟨v, rfl⟩ : ∃ v : Nat, w = (v : Int) := ⟨w.toNat, by omega⟩
    have hM : (ls.length * v + 7) / 8 ≤ 32768 := by
      have := Nat.mul_le_mul h3 (show v ≤ 64 by omega)
      omega
    rw [hE, show pkB (v : Int) ls = packL ((ls.length * v + 7) / 8) (bitsP v ls) from if_pos ⟨h1, h2, h3, h4⟩]
    refine (pack_good v A cap ls W hl (by omega) h3 (by omega) hT).mono ?_
    rintro e W' ⟨rfl, h1, h2⟩
    exact ⟨_, _, by rw [packL_len], h1.byt, by rw [packL_len]; exact Nat.le_refl _, hM, by simp, h2⟩
  · rw [show pkE w ls = 2 from if_neg hok, show pkB w ls = [] from if_neg hok]
    refine (pack_bad w A cap ls W hl hn ?_).mono ?_
    · unfold pkOk at hok
      by_cases h : 0 ≤ w ∧ w ≤ 64 ∧ ls.length ≤ 4096
      · exact .inr (by omega)
      · exact .inl h
    · rintro e W' ⟨rfl, rfl⟩
      exact ⟨_, _, rfl, Byt.empty _ _, Nat.le_refl _, by omega, fun _ => rfl, Below.refl _ _⟩

end Go.Proofs.YtdchaojgldfagaaDoor
