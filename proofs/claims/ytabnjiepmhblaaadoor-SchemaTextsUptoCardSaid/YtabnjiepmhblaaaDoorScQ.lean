/- Same: are two lists of columns the same. -/
import Derived.Test.YtabnjiepmhblaaaDoorScV
import Derived.Test.YtabnjiepmhblaaaDoorOne0
import Derived.Laws.StructEq
namespace Go.Proofs.YtabnjiepmhblaaaDoor
open Go.RowKit Go.Shelf Go.Maps
set_option linter.unusedVariables false

theorem Col.same {c d : Col} (h1 : c.name = d.name) (h2 : c.kind = d.kind) (h3 : c.null = d.null) : c = d := by
  cases c; cases d; simp_all
theorem tol_eq {a b : ByteArray} (h : a.toList = b.toList) : a = b := by
  rw [ByteArray.toList_eq, ByteArray.toList_eq] at h
  cases a; cases b
  simp at h
  rw [h]

set_option maxRecDepth 100000 in
set_option maxHeartbeats 4000000 in
theorem same_any (A B : Option Addr) (cap cap2 : Nat) (l m : List Col) (W : World) (hl : Cols W A l) (hm : Cols W B m) (hn : l.length ≤ 4000000000000000000) (hn2 : m.length ≤ 4000000000000000000) :
    Calls Tryd.prog 10 #[.slice A l.length cap, .slice B m.length cap2] W fun e W' => e = .returned (.bool (decide (l = m))) ∧ Below W.heap.size W W' := by
  by_cases hlen : l.length = m.length
  · obtain ⟨z, hz⟩ : ∃ z, decide (l = m) = z := ⟨_, rfl⟩
    rw [hz]
    have HZ := Lib.hid hz
    have HL := Lib.hid hl
    have HM := Lib.hid hm
    have HLEN := Lib.hid hlen
    rw [← hlen]
    clear hl hm hz hn2
    obtain ⟨n, hn3⟩ : ∃ n, l.length = n := ⟨_, rfl⟩
    rw [hn3] at hn ⊢
    have HN := Lib.hid hn3
    clear hn3 hlen
    go_enter Tryd.func10, Tryd.ntmps10
    go_wp2
    go_loopw [5] (fun i wr => ∃ k : Nat, k ≤ n ∧ i = .int .i64 k ∧ (∀ j (a : j < l.length) (b : j < m.length), j < k → l[j] = m[j]) ∧ Below W.heap.size W wr) (fun i _ => n - (intOf i).toNat)
    case atStart => exact ⟨0, by omega, rfl, fun j _ _ h => by omega, Below.refl _ _⟩
    case round =>
      obtain ⟨k, hk, rfl, hall, hbel⟩ := hrel
      have HALL := Lib.hid hall
      have HBEL := Lib.hid hbel
      clear hall hbel
      by_cases hlt : k < n
      · have h1 : k < l.length := by rw [HN.out]; exact hlt
        have h2 : k < m.length := by rw [← HLEN.out, HN.out]; exact hlt
        obtain ⟨b, o, rfl, hcb⟩ := HL.out k h1
        obtain ⟨b2, o2, rfl, hvb⟩ := HM.out k h2
        obtain ⟨c0, c1, c2⟩ := hcb.keep HBEL.out hcb.lt
        obtain ⟨v0, v1, v2⟩ := hvb.keep HBEL.out hvb.lt
        have HK : Hid (k < n) := hlt
        have HBAD : Hid (l[k] ≠ m[k] → z = false) := fun h => by rw [← HZ.out]; exact decide_eq_false (fun e => h (by simp only [e]))
        have HGD : Hid (l[k] = m[k] → ∀ j (a : j < l.length) (b : j < m.length), j < k + 1 → l[j] = m[j]) := fun h j a b hj => by
          by_cases e : j = k
          · subst e; exact h
          · exact HALL.out j a b (by omega)
        clear hcb hvb
        generalize l[k] = c at c0 c1 c2 HBAD HGD
        generalize m[k] = d at v0 v1 v2 HBAD HGD
        clear h1 h2
        have HEQ : Hid (c.name = d.name → c.kind = d.kind → c.null = d.null → c = d) := fun h1 h2 h3 => Col.same h1 h2 h3
        have HNE : Hid ((c.name ≠ d.name ∨ c.kind ≠ d.kind ∨ c.null ≠ d.null) → c ≠ d) := fun h e => by
          subst e
          rcases h with h | h | h <;> exact h rfl
        generalize c.name = n1 at c0 HEQ HNE
        generalize d.name = n2 at v0 HEQ HNE
        generalize c.kind = k1 at c1 HEQ HNE
        generalize d.kind = k2 at v1 HEQ HNE
        generalize c.null = t1 at c2 HEQ HNE
        generalize d.null = t2 at v2 HEQ HNE
        go_upto_region 6 with (fail)
        by_cases e1 : n1.toList = n2.toList
        · have q1 : (n1.toList == n2.toList) = true := by rw [beq_iff_eq]; exact e1
          by_cases e2 : k1 = k2
          · have q2 : (k1 == k2) = true := by rw [beq_iff_eq]; exact e2
            by_cases e3 : t1 = t2
            · have q3 : (t1 == t2) = true := by rw [beq_iff_eq]; exact e3
              have HX := Lib.hid (HGD.out (HEQ.out (tol_eq e1) e2 e3))
              subst e2 e3
              clear HBAD HGD HEQ HNE
              go_quiet (fail)
              go_wp2
              go_roundw
              case rel => exact ⟨k + 1, HK.out, by go_num, HX.out, Below.drewN' HBEL.out _⟩
              case measure => have := HK.out; simp [intOf]; omega
            · have q3 : (t1 == t2) = false := by rw [beq_eq_false_iff_ne]; exact e3
              have HX : Hid (z = false) := HBAD.out (HNE.out (.inr (.inr e3)))
              clear HBAD HGD HEQ HNE
              go_quiet (fail)
              go_wp2
              go_ret
              exact ⟨congrArg (fun r => Ending.returned (Value.bool r)) HX.out.symm, Below.drewN' HBEL.out _⟩
          · have q2 : (k1 == k2) = false := by rw [beq_eq_false_iff_ne]; exact e2
            have HX : Hid (z = false) := HBAD.out (HNE.out (.inr (.inl e2)))
            clear HBAD HGD HEQ HNE
            go_quiet (fail)
            go_wp2
            go_ret
            exact ⟨congrArg (fun r => Ending.returned (Value.bool r)) HX.out.symm, Below.drewN' HBEL.out _⟩
        · have q1 : (n1.toList == n2.toList) = false := by rw [beq_eq_false_iff_ne]; exact e1
          have HX : Hid (z = false) := HBAD.out (HNE.out (.inl (fun e => e1 (by rw [e]))))
          clear HBAD HGD HEQ HNE
          go_quiet (fail)
          go_wp2
          go_ret
          exact ⟨congrArg (fun r => Ending.returned (Value.bool r)) HX.out.symm, Below.drewN' HBEL.out _⟩
      · obtain rfl : k = n := by omega
        have HX : Hid (z = true) := by show z = true; rw [← HZ.out]; exact decide_eq_true (List.ext_getElem HLEN.out fun i h1 h2 => HALL.out i h1 h2 (by rw [← HN.out]; exact h1))
        go_wp2
        go_ret
        exact ⟨congrArg (fun r => Ending.returned (Value.bool r)) HX.out.symm, HBEL.out⟩
  · rw [decide_eq_false (fun e => hlen (by rw [e]))]
    have hne : ((l.length : Int) == (m.length : Int)) = false := by rw [beq_eq_false_iff_ne]; omega
    have hne2 : ¬ (l.length : Int) = m.length := by omega
    clear hl hm
    generalize l.length = n at *
    generalize m.length = m at *
    go_enter Tryd.func10, Tryd.ntmps10
    go_wp2
    go_ret
    exact ⟨rfl, Below.refl _ _⟩
end Go.Proofs.YtabnjiepmhblaaaDoor
