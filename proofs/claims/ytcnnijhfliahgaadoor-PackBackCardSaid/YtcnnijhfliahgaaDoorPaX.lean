/- The walk of stackyardlaw01.PackWords (4). -/
import Derived.Test.YtcnnijhfliahgaaDoorPaW
namespace Go.Proofs.YtcnnijhfliahgaaDoor
open Go.RowKit
set_option linter.unusedVariables false

/-- What packing hands back: bytes, and whether. -/
def PackR (W : World) (bs : List UInt8) (er : Int) (e : Ending) (W' : World) : Prop :=
  ∃ A' c', e = .returned (.tuple #[.slice A' bs.length c', .int .i64 er]) ∧ Byt W' A' bs ∧ bs.length ≤ c' ∧ c' ≤ 32768 ∧ (A' = none → c' = 0) ∧ Below W.heap.size W W'
theorem packs_any (w : Int) (A : Option Addr) (cap : Nat) (ls : List W64) (W0 : World) (hl : Num W0 A ls) (hn : ls.length ≤ 4611686018427387904) (hT : TabAt W0) :
    ∃ bs er, (∀ W : World, Below W0.heap.size W0 W → Calls Tryd.prog 18 #[.int .i64 w, .slice A ls.length cap] W (PackR W bs er)) ∧ (∀ W : World, Below W0.heap.size W0 W → Calls Tryd.prog 19 #[.int .i64 w, .slice A ls.length cap] W (PackR W bs er)) := by
  by_cases hok : 0 ≤ w ∧ w ≤ 64 ∧ ls.length ≤ 4096
  · obtain ⟨v, rfl⟩ : ∃ v : Nat, w = (v : Int) := ⟨w.toNat, by omega⟩
    by_cases hwd : widL ls ≤ v
    · have hM : (ls.length * v + 7) / 8 ≤ 32768 := by
        have := Nat.mul_le_mul hok.2.2 (show v ≤ 64 by omega)
        omega
      refine ⟨packL ((ls.length * v + 7) / 8) (bitsP v ls), 0, fun W hb => ?_, fun W hb => ?_⟩
      · refine (pack_good v A cap ls W (hl.keep hb) (by omega) hok.2.2 hwd (hT.keep hb)).mono ?_
        rintro e W' ⟨rfl, h1, h2⟩
        exact ⟨_, _, by rw [packL_len], h1.byt, by rw [packL_len]; exact Nat.le_refl _, hM, by simp, h2⟩
      · refine (refpack_any v A cap ls W (hl.keep hb) (by omega) hok.2.2).mono ?_
        rintro e W' (⟨_, rfl, h1, h2⟩ | ⟨h, _⟩)
        · exact ⟨_, _, by rw [packL_len], h1.byt, by rw [packL_len]; exact Nat.le_refl _, hM, by simp, h2⟩
        · omega
    · refine ⟨[], 2, fun W hb => ?_, fun W hb => ?_⟩
      · refine (pack_bad v A cap ls W (hl.keep hb) hn (.inr (by omega))).mono ?_
        rintro e W' ⟨rfl, rfl⟩
        exact ⟨_, _, rfl, Byt.empty _ _, Nat.le_refl _, by omega, fun _ => rfl, Below.refl _ _⟩
      · refine (refpack_any v A cap ls W (hl.keep hb) (by omega) hok.2.2).mono ?_
        rintro e W' (⟨h, _⟩ | ⟨_, rfl, h2⟩)
        · omega
        · exact ⟨_, _, rfl, Byt.empty _ _, Nat.le_refl _, by omega, fun _ => rfl, h2⟩
  · refine ⟨[], 2, fun W hb => ?_, fun W hb => ?_⟩
    · refine (pack_bad w A cap ls W (hl.keep hb) hn (.inl hok)).mono ?_
      rintro e W' ⟨rfl, rfl⟩
      exact ⟨_, _, rfl, Byt.empty _ _, Nat.le_refl _, by omega, fun _ => rfl, Below.refl _ _⟩
    · refine (refpack_bad w A cap ls W hok).mono ?_
      rintro e W' ⟨rfl, rfl⟩
      exact ⟨_, _, rfl, Byt.empty _ _, Nat.le_refl _, by omega, fun _ => rfl, Below.refl _ _⟩

set_option maxRecDepth 100000 in
set_option maxHeartbeats 2000000 in
theorem words_walk (w : Int) (A : Option Addr) (cap : Nat) (l : List W64) (W : World) (hl : Num W A l) (hn : l.length ≤ 4611686018427387904) (hT : TabAt W) :
    Calls Tryd.prog 4 #[.int .i64 w, .slice A l.length cap] W fun e W' => e = .returned (.bool true) ∧ Below W.heap.size W W' := by
  have HSH := Lib.hid (shown1_any W hT)
  obtain ⟨bs, er, h1, h2⟩ := packs_any w A cap l W hl hn hT
  have H1 := Lib.hid h1
  have H2 := Lib.hid h2
  clear h1 h2 hl hT
  go_enter Tryd.func4, Tryd.ntmps4
  go_wp2_with (first | (go_at_call 13; refine HSH.out.mono ?_; rintro e w1 ⟨rfl, hb⟩; have HB := Lib.hid hb; clear hb) | (go_at_call 18; refine (H1.out w1 HB.out).mono ?_; rintro e w2 ⟨A1, c1, rfl, hy1, _, _, _, hb2⟩; have HB2 := Lib.hid (HB.out.trans (hb2.mono HB.out.size)); have HY1 := Lib.hid hy1; clear hb2 hy1) | (go_at_call 19; refine (H2.out w2 HB2.out).mono ?_; rintro e w3 ⟨A2, c2, rfl, hy2, _, _, _, hb3⟩; have HB3 := Lib.hid (HB2.out.trans (hb3.mono HB2.out.size)); have hc1 := conv (HY1.out.keep hb3) c1; have hc2 := conv hy2 c2; clear hb3 hy2))
  go_ret
  exact ⟨rfl, HB3.out⟩
end Go.Proofs.YtcnnijhfliahgaaDoor
