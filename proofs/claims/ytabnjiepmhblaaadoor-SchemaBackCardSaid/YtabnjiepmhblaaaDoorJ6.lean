/- Joined texts: The document's IsName. Where a column stands: the document's Find and Right, and the program's Find. The document's Right over a schema; the head of the statements. -/
import Derived.Test.YtabnjiepmhblaaaDoorJ20
import Derived.Test.YtabnjiepmhblaaaDoorJ2
import Derived.Test.YtabnjiepmhblaaaDoorJ27
/-! The document's IsName. -/
namespace Go.Proofs.YtabnjiepmhblaaaDoor
open Go.RowKit
set_option linter.unusedVariables false

set_option maxHeartbeats 4000000 in
theorem refisname_any (s : ByteArray) (w : World) (hs : s.size ≤ 4611686018427387904) : Calls Tryd.prog 40 #[.string s] w fun e w' => e = .returned (.bool (nameL s.data.toList)) ∧ w = w' := by
  obtain ⟨r, hr⟩ : ∃ r, nameL s.data.toList = r := ⟨_, rfl⟩
  rw [hr]
  have HR := Lib.hid hr
  clear hr
  go_enter Tryd.func40, Tryd.ntmps40
  go_wp2
  go_loopw [3] (fun i wr => ∃ k : Nat, k ≤ s.size ∧ i = .int .i64 k ∧ (∀ j (hj : j < s.size), j < k → nameC j s[j] = true) ∧ wr = w) (fun i _ => s.size - (intOf i).toNat)
  case atStart => exact ⟨0, by omega, rfl, fun j _ h => by omega, rfl⟩
  case round =>
    obtain ⟨k, hk, rfl, hall, rfl⟩ := hrel
    have HALL := Lib.hid hall
    clear hall
    by_cases hlt : k < s.size
    · have HNX : Hid (nameC k (s[k]'hlt) = true → ∀ j (hj : j < s.size), j < k + 1 → nameC j s[j] = true) := fun hx j hj h => by
        by_cases e : j = k
        · subst e; exact hx
        · exact HALL.out j hj (by omega)
      have HBAD : Hid (nameC k (s[k]'hlt) = false → nameL s.data.toList = false) := nameL_false_of k hlt
      have HK : Hid (k < s.size) := hlt
      have hget : s[k]? = some (s[k]'hlt) := getElem?_pos s k hlt
      obtain ⟨c, hc⟩ : ∃ c, s[k]'hlt = c := ⟨_, rfl⟩
      rw [hc] at HNX HBAD hget
      have hidx : ∀ W : World, (Instr.index 9 (.string s) (.int .i64 (k : Int))).run Tryd.prog W = .ok (.int .u8 (c.toNat : Int)) W := fun W => by go_simp
      clear hc
      have hc8 := c.toNat_lt
      by_cases hl : 97 ≤ c.toNat ∧ c.toNat ≤ 122
      · have HN : Hid (nameC k c = true) := by show nameC k c = true; unfold nameC; rw [show letC c = true from decide_eq_true hl]; rfl
        have t0 : (97 : Int) ≤ (c.toNat : Int) := by omega
        have t1 : (c.toNat : Int) ≤ 122 := by omega
        have t2 : (48 : Int) ≤ (c.toNat : Int) := by omega
        have t3 : ¬ (c.toNat : Int) ≤ 57 := by omega
        have t4 : ((c.toNat : Int) == 95) = false := by simp; omega
        clear hl
        go_wp2
        go_roundw
        case rel => exact ⟨k + 1, HK.out, by go_num, HNX.out HN.out, by first | rfl | trivial⟩
        case measure => have := HK.out; simp [intOf]; omega
      have hlet : letC c = false := decide_eq_false hl
      by_cases hd : 48 ≤ c.toNat ∧ c.toNat ≤ 57
      · have n1 : ¬ (97 : Int) ≤ (c.toNat : Int) := by omega
        have m0 : (48 : Int) ≤ (c.toNat : Int) := by omega
        have m1 : (c.toNat : Int) ≤ 57 := by omega
        by_cases hk0 : k = 0
        · have HN : Hid (r = false) := by show r = false; rw [← HR.out]; refine HBAD.out ?_; subst hk0; unfold nameC; rw [hlet]; rfl
          have k1 : ((k : Int) == 0) = true := by simp; omega
          clear hlet hl hd hk0
          go_wp2
          go_ret
          exact ⟨congrArg (fun r => Ending.returned (Value.bool r)) HN.out.symm, rfl⟩
        · have HN : Hid (nameC k c = true) := by show nameC k c = true; unfold nameC; rw [show digC c = true from decide_eq_true hd, decide_eq_true hk0]; simp
          have k1 : ((k : Int) == 0) = false := by simp; omega
          clear hlet hl hd hk0
          go_wp2
          go_roundw
          case rel => exact ⟨k + 1, HK.out, by go_num, HNX.out HN.out, by first | rfl | trivial⟩
          case measure => have := HK.out; simp [intOf]; omega
      by_cases hu : c.toNat = 95
      · have n1 : ¬ (97 : Int) ≤ (c.toNat : Int) := by omega
        have m0 : (48 : Int) ≤ (c.toNat : Int) := by omega
        have m1 : ¬ (c.toNat : Int) ≤ 57 := by omega
        have m2 : ((c.toNat : Int) == 95) = true := by simp; omega
        by_cases hk0 : k = 0
        · have HN : Hid (r = false) := by show r = false; rw [← HR.out]; refine HBAD.out ?_; subst hk0; unfold nameC; rw [hlet]; rfl
          have k1 : ((k : Int) == 0) = true := by simp; omega
          clear hlet hl hu hk0
          go_wp2
          go_ret
          exact ⟨congrArg (fun r => Ending.returned (Value.bool r)) HN.out.symm, rfl⟩
        · have HN : Hid (nameC k c = true) := by show nameC k c = true; unfold nameC; rw [decide_eq_true hu, decide_eq_true hk0]; simp
          have k1 : ((k : Int) == 0) = false := by simp; omega
          clear hlet hl hu hk0
          go_wp2
          go_roundw
          case rel => exact ⟨k + 1, HK.out, by go_num, HNX.out HN.out, by first | rfl | trivial⟩
          case measure => have := HK.out; simp [intOf]; omega
      have HN : Hid (r = false) := by show r = false; rw [← HR.out]; refine HBAD.out ?_; unfold nameC; rw [hlet, show digC c = false from decide_eq_false hd, decide_eq_false hu]; simp
      have u1 : ((c.toNat : Int) == 95) = false := by simp; omega
      by_cases h97 : 97 ≤ c.toNat
      · have m0 : (97 : Int) ≤ (c.toNat : Int) := by omega
        have m1 : ¬ (c.toNat : Int) ≤ 122 := by omega
        have m2 : (48 : Int) ≤ (c.toNat : Int) := by omega
        have m3 : ¬ (c.toNat : Int) ≤ 57 := by omega
        clear hlet hl hd hu h97
        go_wp2
        go_ret
        exact ⟨congrArg (fun r => Ending.returned (Value.bool r)) HN.out.symm, rfl⟩
      · have m0 : ¬ (97 : Int) ≤ (c.toNat : Int) := by omega
        by_cases h48 : 48 ≤ c.toNat
        · have m1 : (48 : Int) ≤ (c.toNat : Int) := by omega
          have m2 : ¬ (c.toNat : Int) ≤ 57 := by omega
          clear hlet hl hd hu h97 h48
          go_wp2
          go_ret
          exact ⟨congrArg (fun r => Ending.returned (Value.bool r)) HN.out.symm, rfl⟩
        · have m1 : ¬ (48 : Int) ≤ (c.toNat : Int) := by omega
          clear hlet hl hd hu h97 h48
          go_wp2
          go_ret
          exact ⟨congrArg (fun r => Ending.returned (Value.bool r)) HN.out.symm, rfl⟩
    · obtain rfl : k = s.size := by omega
      have HN : Hid (r = decide (1 ≤ s.size ∧ s.size ≤ 24)) := by
        show r = _
        rw [← HR.out]
        by_cases h : 1 ≤ s.size ∧ s.size ≤ 24
        · rw [decide_eq_true h]; exact nameL_true_of h.1 h.2 (fun j hj => HALL.out j hj hj)
        · rw [decide_eq_false h]; exact nameL_false_len h
      by_cases h1 : 1 ≤ s.size
      · have i1 : (1 : Int) ≤ (s.size : Int) := by omega
        by_cases h2 : s.size ≤ 24
        · have i2 : (s.size : Int) ≤ 24 := by omega
          rw [decide_eq_true ⟨h1, h2⟩] at HN
          clear h1 h2
          go_wp2
          go_ret
          exact ⟨congrArg (fun r => Ending.returned (Value.bool r)) HN.out.symm, rfl⟩
        · have i2 : ¬ (s.size : Int) ≤ 24 := by omega
          rw [decide_eq_false (fun h => h2 h.2)] at HN
          clear h1 h2
          go_wp2
          go_ret
          exact ⟨congrArg (fun r => Ending.returned (Value.bool r)) HN.out.symm, rfl⟩
      · have i1 : ¬ (1 : Int) ≤ (s.size : Int) := by omega
        rw [decide_eq_false (fun h => h1 h.1)] at HN
        clear h1
        go_wp2
        go_ret
        exact ⟨congrArg (fun r => Ending.returned (Value.bool r)) HN.out.symm, rfl⟩
end Go.Proofs.YtabnjiepmhblaaaDoor

/-! Where a column stands: the document's Find and Right, and the program's Find. -/
namespace Go.Proofs.YtabnjiepmhblaaaDoor
open Go.RowKit
set_option linter.unusedVariables false

theorem findC_spec (l : List Col) (s : List UInt8) : (∃ k, ∃ h : k < l.length, l[k].name.data.toList = s ∧ (∀ j (hj : j < l.length), j < k → l[j].name.data.toList ≠ s) ∧ findC l s = (k : Int)) ∨ ((∀ j (hj : j < l.length), l[j].name.data.toList ≠ s) ∧ findC l s = -1) := by
  unfold findC
  cases h : l.findIdx? (fun c => decide (c.name.data.toList = s)) with
  | some k =>
    left
    rw [List.findIdx?_eq_some_iff_getElem] at h
    obtain ⟨hk, h1, h2⟩ := h
    refine ⟨k, hk, of_decide_eq_true h1, fun j hj hjk => ?_, rfl⟩
    have := h2 j hjk
    simpa using this
  | none =>
    right
    rw [List.findIdx?_eq_none_iff] at h
    refine ⟨fun j hj => ?_, rfl⟩
    have := h l[j] (List.getElem_mem hj)
    simpa using this
theorem findC_at {l : List Col} {s : List UInt8} {k : Nat} (hk : k < l.length) (h1 : l[k].name.data.toList = s) (h2 : ∀ j (hj : j < l.length), j < k → l[j].name.data.toList ≠ s) : findC l s = (k : Int) := by
  rcases findC_spec l s with ⟨m, hm, g1, g2, g3⟩ | ⟨g1, _⟩
  · have : m = k := by
      rcases Nat.lt_trichotomy m k with h | h | h
      · exact absurd g1 (h2 m hm h)
      · exact h
      · exact absurd h1 (g2 k hk h)
    rw [g3, this]
  · exact absurd h1 (g1 k hk)
theorem findC_no {l : List Col} {s : List UInt8} (h : ∀ j (hj : j < l.length), l[j].name.data.toList ≠ s) : findC l s = -1 := by
  rcases findC_spec l s with ⟨m, hm, g1, g2, g3⟩ | ⟨_, g2⟩
  · exact absurd g1 (h m hm)
  · exact g2
theorem nodup_find (l : List Col) : (namesL l).Nodup ↔ ∀ i (h : i < l.length), findC l l[i].name.data.toList = (i : Int) := by
  unfold namesL
  rw [List.nodup_iff_pairwise_ne, List.pairwise_iff_getElem]
  constructor
  · intro h i hi
    refine findC_at hi rfl fun j hj hji => ?_
    have := h j i (by simpa using hj) (by simpa using hi) hji
    simpa using this
  · intro h i j hi hj hij
    simp only [List.length_map] at hi hj
    simp only [List.getElem_map]
    intro e
    have h1 := h j hj
    rcases findC_spec l l[j].name.data.toList with ⟨m, hm, g1, g2, g3⟩ | ⟨g1, _⟩
    · rw [h1] at g3
      have : m = j := by omega
      subst this
      exact g2 i hi hij e
    · exact g1 i hi e
theorem beq_names (a b : ByteArray) : (a.toList == b.toList) = decide (a.data.toList = b.data.toList) := by
  rw [ByteArray.toList_eq, ByteArray.toList_eq]
  by_cases h : a.data.toList = b.data.toList
  · simp [h]
  · rw [decide_eq_false h, beq_eq_false_iff_ne]; exact h

set_option maxHeartbeats 2000000 in
theorem reffind_any (A : Option Addr) (cap : Nat) (l : List Col) (s : ByteArray) (W : World) (hl : Cols W A l) (hn : l.length ≤ 4000000000000000000) :
    Calls Tryd.prog 41 #[.slice A l.length cap, .string s] W fun e W' => e = .returned (.int .i64 (findC l s.data.toList)) ∧ W = W' := by
  have HL := Lib.hid hl
  obtain ⟨r, hr⟩ : ∃ r, findC l s.data.toList = r := ⟨_, rfl⟩
  rw [hr]
  have HR := Lib.hid hr
  clear hl hr
  go_enter Tryd.func41, Tryd.ntmps41
  go_wp2
  go_loopw [5] (fun i wr => ∃ k : Nat, k ≤ l.length ∧ i = .int .i64 k ∧ (∀ j (hj : j < l.length), j < k → l[j].name.data.toList ≠ s.data.toList) ∧ wr = W) (fun i _ => l.length - (intOf i).toNat)
  case atStart => exact ⟨0, by omega, rfl, fun j _ h => by omega, rfl⟩
  case round =>
    obtain ⟨k, hk, rfl, hall, rfl⟩ := hrel
    have HALL := Lib.hid hall
    clear hall
    by_cases hlt : k < l.length
    · obtain ⟨b, o, rfl, c0, _, _⟩ := HL.out k hlt
      have HK : Hid (k < l.length) := hlt
      have hbq := beq_names l[k].name s
      have HHIT : Hid (l[k].name.data.toList = s.data.toList → r = (k : Int)) := fun h => by rw [← HR.out]; exact findC_at hlt h HALL.out
      have HNX : Hid (l[k].name.data.toList ≠ s.data.toList → ∀ j (hj : j < l.length), j < k + 1 → l[j].name.data.toList ≠ s.data.toList) := fun h j hj hjk => by
        by_cases e : j = k
        · subst e; exact h
        · exact HALL.out j hj (by omega)
      generalize l[k].name = nm at c0 hbq HHIT HNX
      by_cases he : nm.data.toList = s.data.toList
      · rw [decide_eq_true he] at hbq
        have HN := Lib.hid (HHIT.out he)
        clear he
        go_wp2
        go_ret
        exact ⟨congrArg (fun r => Ending.returned (Value.int .i64 r)) HN.out.symm, rfl⟩
      · rw [decide_eq_false he] at hbq
        have HN := Lib.hid (HNX.out he)
        clear he
        go_wp2
        go_roundw
        case rel => exact ⟨k + 1, HK.out, by go_num, HN.out, by first | rfl | trivial⟩
        case measure => have := HK.out; simp [intOf]; omega
    · obtain rfl : k = l.length := by omega
      have HN : Hid (r = -1) := by show r = -1; rw [← HR.out]; exact findC_no fun j hj => HALL.out j hj hj
      go_wp2
      go_ret
      exact ⟨congrArg (fun r => Ending.returned (Value.int .i64 r)) HN.out.symm, rfl⟩

end Go.Proofs.YtabnjiepmhblaaaDoor

/-! The document's Right over a schema; the head of the statements. -/
namespace Go.Proofs.YtabnjiepmhblaaaDoor
open Go.RowKit Go.Shelf Go.Maps
set_option linter.unusedVariables false

theorem rightC_bad {l : List Col} {k : Nat} (hk : k < l.length) (h : nameL l[k].name.data.toList = false ∨ findC l l[k].name.data.toList ≠ (k : Int) ∨ l[k].kind < 1 ∨ 3 < l[k].kind) : rightC l = false := by
  rw [Bool.eq_false_iff]
  intro hr
  have hok := cols_ok hr l[k] (List.getElem_mem hk)
  unfold colOk kindOk at hok
  rw [Bool.and_eq_true, decide_eq_true_iff] at hok
  have hnd : (namesL l).Nodup := by
    unfold rightC at hr
    simp only [Bool.and_eq_true, decide_eq_true_iff] at hr
    exact hr.2.2
  rcases h with h | h | h | h
  · rw [h] at hok; cases hok.1
  · exact h ((nodup_find l).1 hnd k hk)
  · omega
  · omega
theorem rightC_good {l : List Col} (h1 : 1 ≤ l.length ∧ l.length ≤ 16) (h : ∀ k (hk : k < l.length), nameL l[k].name.data.toList = true ∧ findC l l[k].name.data.toList = (k : Int) ∧ 1 ≤ l[k].kind ∧ l[k].kind ≤ 3) : rightC l = true := by
  unfold rightC
  rw [Bool.and_eq_true, decide_eq_true_iff, Bool.and_eq_true, decide_eq_true_iff, List.all_eq_true]
  refine ⟨h1, fun c hc => ?_, (nodup_find l).2 fun i hi => (h i hi).2.1⟩
  obtain ⟨i, hi, rfl⟩ := List.getElem_of_mem hc
  unfold colOk kindOk
  rw [Bool.and_eq_true, decide_eq_true_iff]
  exact ⟨(h i hi).1, (h i hi).2.2⟩

set_option maxHeartbeats 2000000 in
/-- The document's Right. -/
theorem refrightC_any (A : Option Addr) (cap : Nat) (l : List Col) (W : World) (hl : Cols W A l) (hn : l.length ≤ 4000000000000000000) :
    Calls Tryd.prog 20 #[.slice A l.length cap] W fun e W' => e = .returned (.bool (rightC l)) ∧ W = W' := by
  by_cases hlen : 1 ≤ l.length ∧ l.length ≤ 16
  · have HL := Lib.hid hl
    obtain ⟨r, hr⟩ : ∃ r, rightC l = r := ⟨_, rfl⟩
    rw [hr]
    have HR := Lib.hid hr
    have HN := Lib.hid hn
    have HLEN := Lib.hid hlen
    have hl1 : ¬ ((l.length : Int) < 1) := by omega
    have hl2 : ¬ ((16 : Int) < l.length) := by omega
    clear hl hr hn
    go_enter Tryd.func20, Tryd.ntmps20
    go_wp2
    go_loopw [3, 4] (fun i v wr => ∃ k : Nat, k ≤ l.length ∧ i = .int .i64 k ∧ (∀ j (hj : j < l.length), j < k → nameL l[j].name.data.toList = true ∧ findC l l[j].name.data.toList = (j : Int) ∧ 1 ≤ l[j].kind ∧ l[j].kind ≤ 3) ∧ wr = W) (fun i _ _ => l.length - (intOf i).toNat)
    case atStart => exact ⟨0, by omega, rfl, fun j _ h => by omega, rfl⟩
    case round =>
      obtain ⟨k, hk, rfl, hall, rfl⟩ := hrel
      have HALL := Lib.hid hall
      clear hall
      by_cases hlt : k < l.length
      · obtain ⟨b, o, rfl, c0, c1, _⟩ := HL.out k hlt
        have HK : Hid (k < l.length) := hlt
        have hI := refisname_any l[k].name wr (by have := l[k].bound; omega)
        have hF := reffind_any (some ⟨b, o, none⟩) cap l l[k].name wr HL.out HN.out
        have HBAD : Hid ((nameL l[k].name.data.toList = false ∨ findC l l[k].name.data.toList ≠ (k : Int) ∨ l[k].kind < 1 ∨ 3 < l[k].kind) → r = false) := fun h => by rw [← HR.out]; exact rightC_bad hlt h
        have HGD : Hid ((nameL l[k].name.data.toList = true ∧ findC l l[k].name.data.toList = (k : Int) ∧ 1 ≤ l[k].kind ∧ l[k].kind ≤ 3) → ∀ j (hj : j < l.length), j < k + 1 → nameL l[j].name.data.toList = true ∧ findC l l[j].name.data.toList = (j : Int) ∧ 1 ≤ l[j].kind ∧ l[j].kind ≤ 3) := fun h j hj hjk => by
          by_cases e : j = k
          · subst e; exact h
          · exact HALL.out j hj (by omega)
        generalize nameL l[k].name.data.toList = bn at hI HBAD HGD
        generalize findC l l[k].name.data.toList = fd at hF HBAD HGD
        generalize l[k].name = nm at c0 hI hF
        generalize l[k].kind = kd at c1 HBAD HGD
        have HI := Lib.hid hI
        have HF := Lib.hid hF
        clear hI hF
        cases bn with
        | false =>
          have HX := Lib.hid (HBAD.out (.inl rfl))
          clear HF
          go_wp2_with (first | (go_at_call 40; refine HI.out.mono ?_; rintro e w1 ⟨rfl, rfl⟩; clear HI))
          go_ret
          exact ⟨congrArg (fun r => Ending.returned (Value.bool r)) HX.out.symm, rfl⟩
        | true =>
          by_cases hf : fd = (k : Int)
          · subst hf
            by_cases h1 : kd < 1
            · have HX := Lib.hid (HBAD.out (.inr (.inr (.inl h1))))
              go_wp2_with (first | (go_at_call 40; refine HI.out.mono ?_; rintro e w1 ⟨rfl, rfl⟩; clear HI) | (go_at_call 41; refine HF.out.mono ?_; rintro e w1 ⟨rfl, rfl⟩; clear HF))
              go_ret
              exact ⟨congrArg (fun r => Ending.returned (Value.bool r)) HX.out.symm, rfl⟩
            · by_cases h3 : 3 < kd
              · have HX := Lib.hid (HBAD.out (.inr (.inr (.inr h3))))
                go_wp2_with (first | (go_at_call 40; refine HI.out.mono ?_; rintro e w1 ⟨rfl, rfl⟩; clear HI) | (go_at_call 41; refine HF.out.mono ?_; rintro e w1 ⟨rfl, rfl⟩; clear HF))
                go_ret
                exact ⟨congrArg (fun r => Ending.returned (Value.bool r)) HX.out.symm, rfl⟩
              · have HX := Lib.hid (HGD.out ⟨rfl, rfl, by omega, by omega⟩)
                go_wp2_with (first | (go_at_call 40; refine HI.out.mono ?_; rintro e w1 ⟨rfl, rfl⟩; clear HI) | (go_at_call 41; refine HF.out.mono ?_; rintro e w1 ⟨rfl, rfl⟩; clear HF))
                go_roundw
                case rel => exact ⟨k + 1, HK.out, by go_num, HX.out, by first | rfl | trivial⟩
                case measure => have := HK.out; simp [intOf]; omega
          · have HX := Lib.hid (HBAD.out (.inr (.inl hf)))
            have hq : (fd == (k : Int)) = false := by rw [beq_eq_false_iff_ne]; exact hf
            go_wp2_with (first | (go_at_call 40; refine HI.out.mono ?_; rintro e w1 ⟨rfl, rfl⟩; clear HI) | (go_at_call 41; refine HF.out.mono ?_; rintro e w1 ⟨rfl, rfl⟩; clear HF))
            go_ret
            exact ⟨congrArg (fun r => Ending.returned (Value.bool r)) HX.out.symm, rfl⟩
      · obtain rfl : k = l.length := by omega
        have HX : Hid (r = true) := by show r = true; rw [← HR.out]; exact rightC_good HLEN.out fun j hj => HALL.out j hj hj
        go_wp2
        go_ret
        exact ⟨congrArg (fun r => Ending.returned (Value.bool r)) HX.out.symm, rfl⟩
  · rw [rightC_len hlen]
    have hcase : (l.length : Int) < 1 ∨ ¬ ((l.length : Int) < 1) ∧ (16 : Int) < l.length := by omega
    clear hl
    generalize l.length = n at hn hcase
    clear hlen
    rcases hcase with h | ⟨h, h2⟩
    · go_enter Tryd.func20, Tryd.ntmps20
      go_wp2
      go_ret
      exact ⟨rfl, rfl⟩
    · go_enter Tryd.func20, Tryd.ntmps20
      go_wp2
      go_ret
      exact ⟨rfl, rfl⟩
end Go.Proofs.YtabnjiepmhblaaaDoor
