/- Columns and values that came in as slices. -/
import Derived.Test.YtabnjiepmhblaaaScV
import Derived.Test.YtabnjiepmhblaaaReach
import Derived.Deep.Strs
import Derived.Deep.Slices
import Derived.SizedLaws
import Derived.ProofKit
import Derived.OpenShut
import Derived.ChangeArms
namespace Go.Proofs.Ytabnjiepmhblaaa
open Go.RowKit Go.ChangeShapes Go.WideShapes Go.Deep
set_option linter.unusedVariables false

theorem cellsS : Try.prog.cellsOf 9 = 1 := by kernel_rfl
theorem cellsI : Try.prog.cellsOf 3 = 1 := by kernel_rfl
theorem cellsB : Try.prog.cellsOf 4 = 1 := by kernel_rfl
theorem cellsJ : Try.prog.cellsOf 2 = 1 := by kernel_rfl
theorem cellsCo : Try.prog.cellsOf 47 = 3 := by kernel_rfl
theorem cellsVa : Try.prog.cellsOf 58 = 3 := by kernel_rfl
theorem bytesCo : 1 ≤ Try.prog.bytesOf 47 := of_decide_eq_true (by kernel_rfl)
theorem bytesU8 : 1 ≤ Try.prog.bytesOf 5 := of_decide_eq_true (by kernel_rfl)
theorem bytesVa : 1 ≤ Try.prog.bytesOf 58 := of_decide_eq_true (by kernel_rfl)

theorem lit_i64 {n : Int} (h : (Lit.int .i64 n).wf = true) : -9223372036854775808 ≤ n ∧ n ≤ 9223372036854775807 := by
  simp [Lit.wf, IntKind.min, IntKind.max, IntKind.signed, IntKind.bits] at h
  omega
theorem list_of {α : Type} (Q : Nat → α → Prop) : ∀ n, (∀ i, i < n → ∃ x, Q i x) → ∃ l : List α, l.length = n ∧ ∀ k (h : k < l.length), Q k l[k]
  | 0, _ => ⟨[], rfl, fun k h => by simp at h⟩
  | n + 1, h => by
    obtain ⟨l, hl, hp⟩ := list_of Q n (fun i hi => h i (by omega))
    obtain ⟨x, hx⟩ := h n (by omega)
    refine ⟨l ++ [x], by simp [hl], fun k hk => ?_⟩
    by_cases e : k < l.length
    · rw [List.getElem_append_left e]; exact hp k e
    · obtain rfl : k = l.length := by simp at hk; omega
      rw [List.getElem_concat_length rfl]
      rw [hl]; exact hx
theorem weights_of {H : Type} {P : Program} {e : TypeId} {d : DataW H} : ∀ {ds : List (DataW H)}, d ∈ ds → ∀ n ∈ d.weights P e, n ∈ DataW.weightsAll P e ds
  | x :: t, h, n, hn => by
    simp only [DataW.weightsAll, List.mem_append]
    rcases List.mem_cons.1 h with rfl | h
    · exact .inl hn
    · exact .inr (weights_of h n hn)

section
variable {H : Type} {enc : TypeId × Value → H} {W : World} {v : Value} {d : DataW H} {p : List MemPlace} {base : Nat}
theorem cols_open (hv : Value.okWide Try.prog W .any base 22 v) (h : DataW.Trod enc Try.prog W 0 (fun _ => true) true 22 v d p) (hz : ∀ n ∈ d.weights Try.prog 22, n ≤ reachBytes) :
    ∃ (A : Option Addr) (cap : Nat) (l : List Col), v = .slice A l.length cap ∧ Cols W A l ∧ (A = none → cap = 0) ∧ l.length ≤ cap ∧ cap ≤ 140737488351232 := by
  obtain ⟨a0, len0, cap0, rfl⟩ := okWide_slice Try.underlying22 hv
  obtain ⟨fuel, hf⟩ := h
  rcases open_slice Try.underlying22 hf with ⟨hcs, _⟩ | ⟨a, len, cap, m, n, D, Pl, hcs, hb, hl, hm, hmm, hx, hi⟩
  · simp [Value.cells] at hcs
    obtain ⟨rfl, rfl, rfl⟩ := hcs
    exact ⟨none, 0, [], rfl, fun k hk => by simp at hk, fun _ => rfl, Nat.le_refl _, by omega⟩
  · simp [Value.cells] at hcs
    obtain ⟨rfl, rfl, rfl⟩ := hcs
    simp only [if_true] at hmm
    subst hmm
    obtain ⟨hd, _⟩ := Prod.mk.inj hx
    subst hd
    have hw0 := hz ((((List.range len0).map D).length + ((List.range (m - len0)).map fun j => D (len0 + j)).length) * Try.prog.bytesOf 47) (by simp [DataW.weights, Try.underlying22])
    have hcap : m ≤ 140737488351232 := by
      simp only [List.length_map, List.length_range] at hw0
      rw [show len0 + (m - len0) = m by omega] at hw0
      have hb1 := bytesCo
      generalize Try.prog.bytesOf 47 = bz at hw0 hb1
      have hr : reachBytes = 140737488351232 := by decide
      rw [hr] at hw0
      exact Nat.le_trans (Nat.le_mul_of_pos_right _ hb1) hw0
    have hsp : 0 < len0 → a.spot = none := fun h0 => by
      obtain ⟨i0, hi0⟩ : ∃ i0 : Nat, i0 = 0 := ⟨0, rfl⟩
      obtain ⟨cs', hc, _⟩ := hi i0 (by omega)
      rw [cellsCo] at hc
      obtain ⟨_, hcl, hat⟩ := World.cells?_some hc
      have c0 := hat 0 (by omega)
      rw [List.getElem?_eq_getElem (by omega)] at c0
      subst hi0
      simpa [Addr.add] using World.cell?_spot c0
    have hel : ∀ i, i < len0 → ∃ c : Col, ∃ o, a = ⟨a.block, o, none⟩ ∧ ColAt W a.block (o + i * 3) c := by
      intro i hi0
      obtain ⟨cs', hc, ht'⟩ := hi i (by omega)
      rw [cellsCo] at hc
      obtain ⟨_, hcl, hat⟩ := World.cells?_some hc
      obtain ⟨y0, y1, y2, n', hy, _, g0, g1, g2⟩ := trod_struct3 Try.underlying47 ht'
      match cs', hcl with
      | [x0, x1, x2], _ =>
        obtain ⟨s, e0, hy0, _⟩ := DataW.trod_string Try.underlying9 g0
        obtain ⟨k, e1, _, _⟩ := DataW.trod_int Try.underlying3 g1
        obtain ⟨b, e2, _⟩ := DataW.trod_bool Try.underlying4 g2
        simp [cellsS, cellsI, cellsB] at e0 e1 e2
        subst e0 e1 e2 hy0
        have hs : s.data.toList.length ≤ reachBytes := by
          refine hz _ ?_
          simp only [DataW.weights, Try.underlying22, List.mem_cons, List.mem_append]
          refine .inr (.inl (weights_of (d := D i) (List.mem_map.2 ⟨i, List.mem_range.2 hi0, rfl⟩) _ ?_))
          rw [(Prod.mk.inj hy).1]
          simp [DataW.weights, Try.underlying47, DataW.weightsEach]
        have c0 := hat 0 (by omega)
        have c1 := hat 1 (by omega)
        have c2 := hat 2 (by omega)
        obtain ⟨ab, ao, sp⟩ := a
        obtain rfl : sp = none := hsp (by omega)
        rw [Addr.add_lit, Addr.add_lit] at c0 c1 c2
        exact ⟨⟨s, k, b, by rw [← sz_list]; exact hs⟩, ao, rfl, c0, c1, c2⟩
    obtain ⟨l, hl2, hp⟩ := list_of (fun i c => ∃ o, a = ⟨a.block, o, none⟩ ∧ ColAt W a.block (o + i * 3) c) len0 hel
    refine ⟨some a, m, l, by rw [hl2], fun k hk => ?_, by simp, by omega, hcap⟩
    obtain ⟨o, e, hc⟩ := hp k hk
    exact ⟨a.block, o, by rw [← e], hc⟩

theorem bytes_open (hv : Value.okWide Try.prog W .any base 31 v) (h : DataW.Trod enc Try.prog W 0 (fun _ => true) true 31 v d p) (hz : ∀ n ∈ d.weights Try.prog 31, n ≤ reachBytes) :
    ∃ (A : Option Addr) (cap : Nat) (l : List UInt8), v = .slice A l.length cap ∧ Byt W A l ∧ (A = none → cap = 0) ∧ l.length ≤ cap ∧ cap ≤ 140737488351232 := by
  obtain ⟨a0, len0, cap0, rfl⟩ := okWide_slice Try.underlying31 hv
  obtain ⟨fuel, hf⟩ := h
  have hcap : cap0 ≤ 140737488351232 := by
    rcases open_slice Try.underlying31 hf with ⟨hcs, _⟩ | ⟨a, len, cap, m, n, D, Pl, hcs, hb, hl, hm, hmm, hx, hi⟩
    · simp [Value.cells] at hcs
      omega
    · simp [Value.cells] at hcs
      obtain ⟨rfl, rfl, rfl⟩ := hcs
      simp only [if_true] at hmm
      subst hmm
      obtain ⟨hd, _⟩ := Prod.mk.inj hx
      subst hd
      have hw0 := hz ((((List.range len0).map D).length + ((List.range (m - len0)).map fun j => D (len0 + j)).length) * Try.prog.bytesOf 5) (by simp [DataW.weights, Try.underlying31])
      simp only [List.length_map, List.length_range] at hw0
      rw [show len0 + (m - len0) = m by omega] at hw0
      have hb1 := bytesU8
      generalize Try.prog.bytesOf 5 = bz at hw0 hb1
      have hr : reachBytes = 140737488351232 := by decide
      rw [hr] at hw0
      exact Nat.le_trans (Nat.le_mul_of_pos_right _ hb1) hw0
  have o0 : ∃ zs, IsRow .u8 W a0 len0 cap0 zs := by
    rcases open_ints Try.underlying31 Try.underlying5 (by kernel_rfl) hf with ⟨hcs, _⟩ | ⟨x, l, c, zs, hcs, _, hl, hm, hz2, hx, hcell, hwf⟩
    · simp [Value.cells] at hcs
      exact ⟨[], .inl ⟨hcs.1, hcs.2.1, hcs.2.2, rfl⟩⟩
    · simp [Value.cells] at hcs
      obtain ⟨rfl, rfl, rfl⟩ := hcs
      simp only [if_true] at hz2
      exact ⟨zs, .inr ⟨x, rfl, hl, hm, hz2, hcell, hwf⟩⟩
  obtain ⟨zs, hzs⟩ := o0
  obtain ⟨l, rfl, hb, hn, hc, _⟩ := row_byt hzs
  exact ⟨a0, cap0, l, rfl, hb, hn, hc, hcap⟩

theorem vals_open (hv : Value.okWide Try.prog W .any base 24 v) (h : DataW.Trod enc Try.prog W 0 (fun _ => true) true 24 v d p) (hz : ∀ n ∈ d.weights Try.prog 24, n ≤ reachBytes) :
    ∃ (A : Option Addr) (cap : Nat) (l : List Vl), v = .slice A l.length cap ∧ Vls W A l ∧ (A = none → cap = 0) ∧ l.length ≤ cap ∧ cap ≤ 140737488351232 := by
  obtain ⟨a0, len0, cap0, rfl⟩ := okWide_slice Try.underlying24 hv
  obtain ⟨fuel, hf⟩ := h
  rcases open_slice Try.underlying24 hf with ⟨hcs, _⟩ | ⟨a, len, cap, m, n, D, Pl, hcs, hb, hl, hm, hmm, hx, hi⟩
  · simp [Value.cells] at hcs
    obtain ⟨rfl, rfl, rfl⟩ := hcs
    exact ⟨none, 0, [], rfl, fun k hk => by simp at hk, fun _ => rfl, Nat.le_refl _, by omega⟩
  · simp [Value.cells] at hcs
    obtain ⟨rfl, rfl, rfl⟩ := hcs
    simp only [if_true] at hmm
    subst hmm
    obtain ⟨hd, _⟩ := Prod.mk.inj hx
    subst hd
    have hw0 := hz ((((List.range len0).map D).length + ((List.range (m - len0)).map fun j => D (len0 + j)).length) * Try.prog.bytesOf 58) (by simp [DataW.weights, Try.underlying24])
    have hcap : m ≤ 140737488351232 := by
      simp only [List.length_map, List.length_range] at hw0
      rw [show len0 + (m - len0) = m by omega] at hw0
      have hb1 := bytesVa
      generalize Try.prog.bytesOf 58 = bz at hw0 hb1
      have hr : reachBytes = 140737488351232 := by decide
      rw [hr] at hw0
      exact Nat.le_trans (Nat.le_mul_of_pos_right _ hb1) hw0
    have hsp : 0 < len0 → a.spot = none := fun h0 => by
      obtain ⟨i0, hi0⟩ : ∃ i0 : Nat, i0 = 0 := ⟨0, rfl⟩
      obtain ⟨cs', hc, _⟩ := hi i0 (by omega)
      rw [cellsVa] at hc
      obtain ⟨_, hcl, hat⟩ := World.cells?_some hc
      have c0 := hat 0 (by omega)
      rw [List.getElem?_eq_getElem (by omega)] at c0
      subst hi0
      simpa [Addr.add] using World.cell?_spot c0
    have hel : ∀ i, i < len0 → ∃ c : Vl, ∃ o, a = ⟨a.block, o, none⟩ ∧ VlAt W a.block (o + i * 3) c := by
      intro i hi0
      obtain ⟨cs', hc, ht'⟩ := hi i (by omega)
      rw [cellsVa] at hc
      obtain ⟨_, hcl, hat⟩ := World.cells?_some hc
      obtain ⟨y0, y1, y2, n', hy, _, g0, g1, g2⟩ := trod_struct3 Try.underlying58 ht'
      match cs', hcl with
      | [x0, x1, x2], _ =>
        obtain ⟨k, e0, _, _⟩ := DataW.trod_int Try.underlying3 g0
        obtain ⟨j, e1, _, wj⟩ := DataW.trod_int Try.underlying2 g1
        obtain ⟨s, e2, _, hs⟩ := DataW.trod_string Try.underlying9 g2
        simp [cellsS, cellsI, cellsJ] at e0 e1 e2
        subst e0 e1 e2
        have c0 := hat 0 (by omega)
        have c1 := hat 1 (by omega)
        have c2 := hat 2 (by omega)
        obtain ⟨ab, ao, sp⟩ := a
        obtain rfl : sp = none := hsp (by omega)
        rw [Addr.add_lit, Addr.add_lit] at c0 c1 c2
        exact ⟨⟨k, j, s, hs, (lit_i64 wj).1, (lit_i64 wj).2⟩, ao, rfl, c0, c1, c2⟩
    obtain ⟨l, hl2, hp⟩ := list_of (fun i c => ∃ o, a = ⟨a.block, o, none⟩ ∧ VlAt W a.block (o + i * 3) c) len0 hel
    refine ⟨some a, m, l, by rw [hl2], fun k hk => ?_, by simp, by omega, hcap⟩
    obtain ⟨o, e, hc⟩ := hp k hk
    exact ⟨a.block, o, by rw [← e], hc⟩
end
end Go.Proofs.Ytabnjiepmhblaaa
