/- Find: the program's, over slices.IndexFunc. -/
import Derived.Test.YtabnjiepmhblaaaScF0
namespace Go.Proofs.Ytabnjiepmhblaaa
open Go.RowKit
set_option linter.unusedVariables false

set_option maxHeartbeats 2000000 in
theorem find1_any (g : Nat) (s : ByteArray) (c : Col) (w : World) (hc : w.cell? ⟨g, 0, none⟩ = some (.string s)) :
    Calls Try.prog 33 #[colV c, .pointer (some ⟨g, 0, none⟩)] w fun e w' => e = .returned (.bool (decide (c.name.data.toList = s.data.toList))) ∧ Below w.heap.size w w' := by
  have hbq := beq_names c.name s
  generalize decide (c.name.data.toList = s.data.toList) = r at hbq
  have hlt := World.block_lt_of_cell? w _ hc
  have hc2 := (((Below.refl w.heap.size w).alloc (Nat.le_refl _) (Obj.cells #[Value.string c.name, Value.int .i64 c.kind, Value.bool c.null] 47)).cell (p := ⟨g, 0, none⟩) hlt).trans hc
  unfold colV
  go_enter Try.func33, Try.ntmps33
  go_wp2
  go_ret
  exact ⟨rfl, (Below.refl _ _).alloc (Nat.le_refl _) _⟩

set_option maxHeartbeats 2000000 in
theorem indexfunc_any (A : Option Addr) (cap g : Nat) (l : List Col) (s : ByteArray) (W : World) (hl : Cols W A l) (hn : l.length ≤ 4000000000000000000) (hc : W.cell? ⟨g, 0, none⟩ = some (.string s)) :
    Calls Try.prog 32 #[.slice A l.length cap, .func (.func 33) #[] #[.pointer (some ⟨g, 0, none⟩)]] W fun e W' => e = .returned (.int .i64 (findC l s.data.toList)) ∧ Below W.heap.size W W' := by
  have HL := Lib.hid hl
  have HC := Lib.hid hc
  obtain ⟨r, hr⟩ : ∃ r, findC l s.data.toList = r := ⟨_, rfl⟩
  rw [hr]
  have HR := Lib.hid hr
  clear hl hr hc
  go_enter Try.func32, Try.ntmps32
  go_wp2
  go_loopw [8] (fun i wr => ∃ k : Nat, k ≤ l.length ∧ i = .int .i64 k ∧ (∀ j (hj : j < l.length), j < k → l[j].name.data.toList ≠ s.data.toList) ∧ Below W.heap.size W wr) (fun i _ => l.length - (intOf i).toNat)
  case atStart => exact ⟨0, by omega, rfl, fun j _ h => by omega, Below.refl _ _⟩
  case round =>
    obtain ⟨k, hk, rfl, hall, hb⟩ := hrel
    have HALL := Lib.hid hall
    have HB := Lib.hid hb
    clear hall hb
    by_cases hlt : k < l.length
    · obtain ⟨b, o, rfl, hcc⟩ := HL.out k hlt
      obtain ⟨c0, c1, c2⟩ := hcc.keep HB.out hcc.lt
      have HK : Hid (k < l.length) := hlt
      have HHIT : Hid (l[k].name.data.toList = s.data.toList → r = (k : Int)) := fun h => by rw [← HR.out]; exact findC_at hlt h HALL.out
      have HNX : Hid (l[k].name.data.toList ≠ s.data.toList → ∀ j (hj : j < l.length), j < k + 1 → l[j].name.data.toList ≠ s.data.toList) := fun h j hj hjk => by
        by_cases e : j = k
        · subst e; exact h
        · exact HALL.out j hj (by omega)
      have hf1 := find1_any g s l[k] wr ((HB.out.cell (p := ⟨g, 0, none⟩) (World.block_lt_of_cell? W _ HC.out)).trans HC.out)
      generalize l[k] = c at c0 c1 c2 HHIT HNX hf1
      unfold colV at hf1
      clear hcc
      by_cases he : c.name.data.toList = s.data.toList
      · rw [decide_eq_true he] at hf1
        have HN := Lib.hid (HHIT.out he)
        have HF := Lib.hid hf1
        clear he hf1
        go_wp2_with (go_at_call 33; refine HF.out.mono ?_; rintro e w2 ⟨rfl, hb2⟩; have HB2 := Lib.hid (HB.out.trans (hb2.mono HB.out.size)); clear hb2)
        go_ret
        exact ⟨congrArg (fun r => Ending.returned (Value.int .i64 r)) HN.out.symm, HB2.out⟩
      · rw [decide_eq_false he] at hf1
        have HN := Lib.hid (HNX.out he)
        have HF := Lib.hid hf1
        clear he hf1
        go_wp2_with (go_at_call 33; refine HF.out.mono ?_; rintro e w2 ⟨rfl, hb2⟩; have HB2 := Lib.hid (HB.out.trans (hb2.mono HB.out.size)); clear hb2)
        go_roundw
        case rel => exact ⟨k + 1, HK.out, by go_num, HN.out, HB2.out⟩
        case measure => have := HK.out; simp [intOf]; omega
    · obtain rfl : k = l.length := by omega
      have HN : Hid (r = -1) := by show r = -1; rw [← HR.out]; exact findC_no fun j hj => HALL.out j hj hj
      go_wp2
      go_ret
      exact ⟨congrArg (fun r => Ending.returned (Value.int .i64 r)) HN.out.symm, HB.out⟩
set_option maxHeartbeats 2000000 in
theorem find_any (A : Option Addr) (cap : Nat) (l : List Col) (s : ByteArray) (W : World) (hl : Cols W A l) (hn : l.length ≤ 4000000000000000000) :
    Calls Try.prog 13 #[.slice A l.length cap, .string s] W fun e W' => e = .returned (.int .i64 (findC l s.data.toList)) ∧ Below W.heap.size W W' := by
  have hb : Below W.heap.size W (W.alloc (Obj.cells #[Value.string s] 9)) := (Below.refl _ _).alloc (Nat.le_refl _) _
  have hi := indexfunc_any A cap W.heap.size l s (W.alloc (Obj.cells #[Value.string s] 9)) (hl.keep hb) hn (((Blk.born W 9 [Value.string s]).at_ 0).trans rfl)
  have HI := Lib.hid hi
  have HB := Lib.hid hb
  clear hi hl hb
  generalize findC l s.data.toList = r at HI
  generalize l.length = n at HI hn
  go_enter Try.func13, Try.ntmps13
  go_wp2_with (go_at_call 32; refine HI.out.mono ?_; rintro e w2 ⟨rfl, hb2⟩; have HB2 := Lib.hid (HB.out.trans (hb2.mono HB.out.size)); clear hb2)
  go_ret
  exact ⟨rfl, HB2.out⟩
end Go.Proofs.Ytabnjiepmhblaaa
