/- A slice of values that came in. -/
import Derived.Test.YtfgmdaemcaamiaaDoorVlM
import Derived.Test.YtfgmdaemcaamiaaDoorReach
import Derived.Deep.Strs
import Derived.Deep.Slices
import Derived.SizedLaws
import Derived.ProofKit
import Derived.OpenShut
import Derived.ChangeArms
namespace Go.Proofs.YtfgmdaemcaamiaaDoor
open Go.RowKit Go.ChangeShapes Go.WideShapes Go.Deep
set_option linter.unusedVariables false
set_option maxRecDepth 100000

theorem cells8S : Tryd.prog.cellsOf 9 = 1 := by kernel_rfl
theorem cells8I : Tryd.prog.cellsOf 3 = 1 := by kernel_rfl
theorem cells8J : Tryd.prog.cellsOf 2 = 1 := by kernel_rfl
theorem cells8Va : Tryd.prog.cellsOf 30 = 3 := by kernel_rfl
theorem bytes8Va : 1 ≤ Tryd.prog.bytesOf 30 := of_decide_eq_true (by kernel_rfl)
theorem lit8_i64 {n : Int} (h : (Lit.int .i64 n).wf = true) : -9223372036854775808 ≤ n ∧ n ≤ 9223372036854775807 := by
  simp [Lit.wf, IntKind.min, IntKind.max, IntKind.signed, IntKind.bits] at h
  omega
theorem list8_of {α : Type} (Q : Nat → α → Prop) : ∀ n, (∀ i, i < n → ∃ x, Q i x) → ∃ l : List α, l.length = n ∧ ∀ k (h : k < l.length), Q k l[k]
  | 0, _ => ⟨[], rfl, fun k h => by simp at h⟩
  | n + 1, h => by
    obtain ⟨l, hl, hp⟩ := list8_of Q n (fun i hi => h i (by omega))
    obtain ⟨x, hx⟩ := h n (by omega)
    refine ⟨l ++ [x], by simp [hl], fun k hk => ?_⟩
    by_cases e : k < l.length
    · rw [List.getElem_append_left e]; exact hp k e
    · obtain rfl : k = l.length := by simp at hk; omega
      rw [List.getElem_concat_length rfl]
      rw [hl]; exact hx
theorem sized_hz {H : Type} {ts : List TypeId} {ds : List (DataW H)} (hsz : (DataW.weightsEach Tryd.prog ts ds).all (· ≤ reachBytes) = true) {j : Nat} {t : TypeId} {d : DataW H} (ht : ts[j]? = some t) (hd : ds[j]? = some d) : ∀ n ∈ d.weights Tryd.prog t, n ≤ reachBytes := fun n hn => by
  have := List.all_eq_true.1 hsz _ (DataW.weights_mem_each ht hd n hn)
  simpa using this

section
variable {H : Type} {enc : TypeId × Value → H} {W : World} {v : Value} {d : DataW H} {p : List MemPlace} {base : Nat}
theorem vals8_open (hv : Value.okWide Tryd.prog W .any base 22 v) (h : DataW.Trod enc Tryd.prog W 0 (fun _ => true) true 22 v d p) (hz : ∀ n ∈ d.weights Tryd.prog 22, n ≤ reachBytes) :
    ∃ (A : Option Addr) (cap : Nat) (l : List Vl), v = .slice A l.length cap ∧ Vls W A l ∧ (A = none → cap = 0) ∧ l.length ≤ cap ∧ cap ≤ 140737488351232 := by
  obtain ⟨a0, len0, cap0, rfl⟩ := okWide_slice Tryd.underlying22 hv
  obtain ⟨fuel, hf⟩ := h
  rcases open_slice Tryd.underlying22 hf with ⟨hcs, _⟩ | ⟨a, len, cap, m, n, D, Pl, hcs, hb, hl, hm, hmm, hx, hi⟩
  · simp [Value.cells] at hcs
    obtain ⟨rfl, rfl, rfl⟩ := hcs
    exact ⟨none, 0, [], rfl, fun k hk => by simp at hk, fun _ => rfl, Nat.le_refl _, by omega⟩
  · simp [Value.cells] at hcs
    obtain ⟨rfl, rfl, rfl⟩ := hcs
    simp only [if_true] at hmm
    subst hmm
    obtain ⟨hd, _⟩ := Prod.mk.inj hx
    subst hd
    have hw0 := hz ((((List.range len0).map D).length + ((List.range (m - len0)).map fun j => D (len0 + j)).length) * Tryd.prog.bytesOf 30) (by simp [DataW.weights, Tryd.underlying22])
    have hcap : m ≤ 140737488351232 := by
      simp only [List.length_map, List.length_range] at hw0
      rw [show len0 + (m - len0) = m by omega] at hw0
      have hb1 := bytes8Va
      generalize Tryd.prog.bytesOf 30 = bz at hw0 hb1
      have hr : reachBytes = 140737488351232 := by decide
      rw [hr] at hw0
      exact Nat.le_trans (Nat.le_mul_of_pos_right _ hb1) hw0
    have hsp : 0 < len0 → a.spot = none := fun h0 => by
      obtain ⟨i0, hi0⟩ : ∃ i0 : Nat, i0 = 0 := ⟨0, rfl⟩
      obtain ⟨cs', hc, _⟩ := hi i0 (by omega)
      rw [cells8Va] at hc
      obtain ⟨_, hcl, hat⟩ := World.cells?_some hc
      have c0 := hat 0 (by omega)
      rw [List.getElem?_eq_getElem (by omega)] at c0
      subst hi0
      simpa [Addr.add] using World.cell?_spot c0
    have hel : ∀ i, i < len0 → ∃ c : Vl, ∃ o, a = ⟨a.block, o, none⟩ ∧ VlAt W a.block (o + i * 3) c := by
      intro i hi0
      obtain ⟨cs', hc, ht'⟩ := hi i (by omega)
      rw [cells8Va] at hc
      obtain ⟨_, hcl, hat⟩ := World.cells?_some hc
      obtain ⟨y0, y1, y2, n', hy, _, g0, g1, g2⟩ := trod_struct3 Tryd.underlying30 ht'
      match cs', hcl with
      | [x0, x1, x2], _ =>
        obtain ⟨k, e0, _, _⟩ := DataW.trod_int Tryd.underlying3 g0
        obtain ⟨j, e1, _, wj⟩ := DataW.trod_int Tryd.underlying2 g1
        obtain ⟨s, e2, _, hs⟩ := DataW.trod_string Tryd.underlying9 g2
        simp [cells8S, cells8I, cells8J] at e0 e1 e2
        subst e0 e1 e2
        have c0 := hat 0 (by omega)
        have c1 := hat 1 (by omega)
        have c2 := hat 2 (by omega)
        obtain ⟨ab, ao, sp⟩ := a
        obtain rfl : sp = none := hsp (by omega)
        rw [Addr.add_lit, Addr.add_lit] at c0 c1 c2
        exact ⟨⟨k, j, s, hs, (lit8_i64 wj).1, (lit8_i64 wj).2⟩, ao, rfl, c0, c1, c2⟩
    obtain ⟨l, hl2, hp⟩ := list8_of (fun i c => ∃ o, a = ⟨a.block, o, none⟩ ∧ VlAt W a.block (o + i * 3) c) len0 hel
    refine ⟨some a, m, l, by rw [hl2], fun k hk => ?_, by simp, by omega, hcap⟩
    obtain ⟨o, e, hc⟩ := hp k hk
    exact ⟨a.block, o, by rw [← e], hc⟩
end
end Go.Proofs.YtfgmdaemcaamiaaDoor
