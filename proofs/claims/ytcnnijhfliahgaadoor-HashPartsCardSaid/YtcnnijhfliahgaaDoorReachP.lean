/- A slice of slices of bytes that came in, as a list of lists of bytes, each within the form's own bound on memory. -/
import Derived.Test.YtcnnijhfliahgaaDoorReach
import Derived.Test.YtcnnijhfliahgaaDoorHaT
import Derived.Deep.Matrix
namespace Go.Proofs.YtcnnijhfliahgaaDoor
open Go.RowKit Go.ChangeShapes Go.WideShapes Go.Deep

theorem weights_in {H : Type} {P : Program} {e : TypeId} : ∀ {l : List (DataW H)} {d : DataW H}, d ∈ l → ∀ n ∈ d.weights P e, n ∈ DataW.weightsAll P e l
  | x :: l, d, hd, n, hn => by
    simp only [DataW.weightsAll, List.mem_append]
    rcases List.mem_cons.1 hd with rfl | h
    · exact Or.inl hn
    · exact Or.inr (weights_in h n hn)
theorem sized_in {H : Type} {ts : List TypeId} {ds : List (DataW H)} (h : (DataW.weightsEach Tryd.prog ts ds).all (· ≤ reachBytes) = true) {j : Nat} {elems spare e' sp' : List (DataW H)}
    (ht : ts[j]? = some 46) (hd : ds[j]? = some (.slice elems spare)) (hx : DataW.slice e' sp' ∈ elems) : e'.length + sp'.length ≤ 140737488351232 := by
  have := of_decide_eq_true (List.all_eq_true.1 h ((e'.length + sp'.length) * Tryd.prog.bytesOf 5) (DataW.weights_mem_each ht hd _ (by
    simp only [DataW.weights, Tryd.underlying46, List.mem_cons, List.mem_append]
    exact Or.inr (Or.inl (weights_in hx _ (by simp [DataW.weights, Tryd.underlying30]))))))
  rw [Tryd.bytes5, Nat.mul_one] at this
  exact this

theorem map_u8 {zs : List Int} (h : ∀ n ∈ zs, (Lit.int .u8 n).wf = true) (k : Nat) (hk : k < zs.length) : (((UInt8.ofNat (zs[k]).toNat).toNat : Nat) : Int) = zs[k] := by
  have hwf := u8_wf (h zs[k] (List.getElem_mem _))
  rw [UInt8.toNat_ofNat']
  omega

theorem parts_open {H : Type} {enc : TypeId × Value → H} {W : World} {ts : List TypeId} {ds : List (DataW H)} {j : Nat} {a : Option Addr} {len cap : Nat} {d : DataW H} {p : List MemPlace}
    (hsz : (DataW.weightsEach Tryd.prog ts ds).all (· ≤ reachBytes) = true) (ht : ts[j]? = some 46) (hd : ds[j]? = some d)
    (h : DataW.Trod enc Tryd.prog W 0 (fun _ => true) true 46 (.slice a len cap) d p) :
    ∃ ps : List (List UInt8), len = ps.length ∧ PartsC W a ps ∧ (∀ q ∈ ps, q.length ≤ 140737488351232) ∧ len ≤ cap ∧ cap ≤ maxLen := by
  obtain ⟨fuel, hf⟩ := h
  rcases open_int_rows Tryd.underlying46 Tryd.underlying30 Tryd.underlying5 (by kernel_rfl) (by kernel_rfl) hf with ⟨hcs, _⟩ | ⟨x, len', cap', A, L, C, Z, hcs, _, hl, hm, hx, hrow⟩
  · simp [Value.cells] at hcs
    obtain ⟨rfl, rfl, rfl⟩ := hcs
    exact ⟨[], rfl, fun k hk => absurd hk (by simp), by simp, Nat.le_refl _, Nat.zero_le _⟩
  · simp [Value.cells] at hcs
    obtain ⟨rfl, rfl, rfl⟩ := hcs
    simp only [Prod.mk.injEq] at hx
    obtain ⟨rfl, _⟩ := hx
    have hlen : ∀ r, r < len → (((Z r).take (L r)).map fun n => UInt8.ofNat n.toNat).length = L r := fun r hr => by
      obtain ⟨_, h1, _, h3, _⟩ := hrow r (by omega)
      simp; omega
    refine ⟨(List.range len).map fun r => ((Z r).take (L r)).map fun n => UInt8.ofNat n.toNat, by simp, ?_, ?_, hl, hm⟩
    · intro k hk
      have hk' : k < len := by simpa using hk
      obtain ⟨h0, h1, h2, h3, h4, h5, h6⟩ := hrow k (by omega)
      obtain ⟨b, o, sp⟩ := x
      have hsp : sp = none := by
        have := (hrow 0 (by omega)).1
        simpa [Addr.add] using World.cell?_spot this
      subst hsp
      rw [Addr.add_lit] at h0
      have hg : ((List.range len).map fun r => ((Z r).take (L r)).map fun n => UInt8.ofNat n.toNat)[k] = ((Z k).take (L k)).map fun n => UInt8.ofNat n.toNat := by simp
      rw [hg]
      refine ⟨b, o, A k, C k, rfl, by rw [hlen k hk']; exact h0, ?_, by rw [hlen k hk']; omega, by omega, h5⟩
      intro i hi
      rw [hlen k hk'] at hi
      cases hA : A k with
      | none => have := h5 hA; omega
      | some a' =>
        obtain ⟨b', o', sp'⟩ := a'
        obtain ⟨_, hc⟩ := h6 _ hA
        have hsp' : sp' = none := by simpa [Addr.add] using World.cell?_spot (hc 0 (by omega))
        subst hsp'
        refine ⟨b', o', rfl, ?_⟩
        have hci := hc i (by omega)
        rw [Addr.add_lit] at hci
        rw [hci]
        have e : (Z k).getD i 0 = (Z k)[i]'(by omega) := by simp [List.getD, show i < (Z k).length by omega]
        rw [e]
        congr 2
        simp only [List.getElem_map, List.getElem_take]
        exact (map_u8 h4 i (by omega)).symm
    · intro q hq
      simp only [List.mem_map, List.mem_range] at hq
      obtain ⟨r, hr, rfl⟩ := hq
      rw [hlen r hr]
      obtain ⟨_, h1, _, h3, _, h5, _⟩ := hrow r (by omega)
      cases hA : A r with
      | none => have := h5 hA; omega
      | some a' =>
        have hin := sized_in hsz ht hd (e' := lits .u8 ((Z r).take (L r))) (sp' := lits .u8 ((Z r).drop (L r))) (List.mem_map.2 ⟨r, List.mem_range.2 hr, by simp [intRow, hA]⟩)
        simp only [lits, List.length_map, List.length_take, List.length_drop] at hin
        omega
theorem Tryd.bytes30 : Tryd.prog.bytesOf 30 = 24 := by kernel_rfl
theorem reach_ps {H : Type} {enc : TypeId × Value → H} {W : World} {ts : List TypeId} {ds : List (DataW H)} {j : Nat} {a : Option Addr} {len cap : Nat} {d : DataW H} {p : List MemPlace}
    (hsz : (DataW.weightsEach Tryd.prog ts ds).all (· ≤ reachBytes) = true) (ht : ts[j]? = some 46) (hd : ds[j]? = some d)
    (h : DataW.Trod enc Tryd.prog W 0 (fun _ => true) true 46 (.slice a len cap) d p) : len ≤ 140737488351232 := by
  obtain ⟨fuel, hf⟩ := h
  rcases open_int_rows Tryd.underlying46 Tryd.underlying30 Tryd.underlying5 (by kernel_rfl) (by kernel_rfl) hf with ⟨hcs, _⟩ | ⟨x, len', cap', A, L, C, Z, hcs, _, hl, hm, hx, hrow⟩
  · simp [Value.cells] at hcs
    omega
  · simp [Value.cells] at hcs
    obtain ⟨rfl, rfl, rfl⟩ := hcs
    simp only [Prod.mk.injEq] at hx
    obtain ⟨rfl, _⟩ := hx
    have := sized_slice hsz (j := j) (t := 46) (e := 30) ht hd Tryd.underlying46
    rw [Tryd.bytes30] at this
    simp only [List.length_map, List.length_range, reachBytes] at this
    omega
end Go.Proofs.YtcnnijhfliahgaaDoor
