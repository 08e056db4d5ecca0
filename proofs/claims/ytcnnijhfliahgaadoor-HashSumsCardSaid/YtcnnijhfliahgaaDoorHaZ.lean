/- The walk of stackyardlaw03.HashSums (9). -/
import Derived.Test.YtcnnijhfliahgaaDoorHaN
import Derived.Test.YtcnnijhfliahgaaDoorHaK
namespace Go.Proofs.YtcnnijhfliahgaaDoor
open Go.RowKit
set_option linter.unusedVariables false

theorem slice_to (A : Option Addr) (n cap m : Nat) (hm : m ≤ n) (hc : n ≤ cap) (w : World) : (Instr.slice 30 (.slice A n cap) none (some (.int .i64 (m : Int))) none).run Tryd.prog w = .ok (.slice A m cap) w := by
  have hi : (Tryd.prog.info? 5).map (·.size) = some 1 := u8_size
  cases hq : Tryd.prog.info? 5 with
  | none => simp [hq] at hi
  | some i =>
    have hs1 : i.size = 1 := by simpa [hq] using hi
    have hb : (0 : Int) ≤ (m : Int) ∧ (m : Int) ≤ (cap : Int) := by omega
    have hmc : m ≤ cap := by omega
    cases A with
    | none => simp [Instr.slice, Instr.sliceBounds, Instr.sliceBound, asIntOf, run_underlying Tryd.underlying30, hb, hmc, sizeOf, typeInfo, hq, Sem.run_bind, Result.andThen]
    | some a =>
      have ha : a.add 0 = a := by cases a with | mk b o s => cases s <;> simp [Addr.add]
      simp [Instr.slice, Instr.sliceBounds, Instr.sliceBound, asIntOf, run_underlying Tryd.underlying30, hb, hmc, sizeOf, typeInfo, hq, Sem.run_bind, Result.andThen, ha]

/-- The two Sums of a run of bytes. -/
theorem both_sums (A : Option Addr) (cap : Nat) (F : List UInt8) (w : World) (hb : Byt w A F) (hc : F.length ≤ cap) (hcm : cap ≤ maxLen) (hA : A = none → cap = 0) (hl : F.length ≤ 4611686018427387904) {t0 t1 : TypeId} (g0 : Blk w 0 t0 (u32s ivs)) (g1 : Blk w 1 t1 (u8s permB)) :
    (∀ w1 : World, Below w.heap.size w w1 → Calls Tryd.prog 24 #[.slice (some ⟨w1.heap.size, 0, none⟩) 1 1] (w1.alloc (Obj.cells #[Value.slice A F.length cap] 30)) fun e w' => e = .returned (.agg (u8s (sumD F)).toArray) ∧ Below (w1.alloc (Obj.cells #[Value.slice A F.length cap] 30)).heap.size (w1.alloc (Obj.cells #[Value.slice A F.length cap] 30)) w') ∧ (∀ w2 : World, Below w.heap.size w w2 → Calls Tryd.prog 25 #[.slice A F.length cap] w2 fun e w' => e = .returned (.agg (u8s (sumD F)).toArray) ∧ Below w2.heap.size w2 w') := by
  refine ⟨fun w1 hb1 => ?_, fun w2 hb2 => refsum_walk A cap F w2 (hb.keep hb2) hc hA hl⟩
  have hx := (Blk.born w1 30 [Value.slice A F.length cap]).at_ 0
  have hy5 := (hb.keep hb1).keep ((Below.refl _ _).alloc (Nat.le_refl _) (Obj.cells #[Value.slice A F.length cap] 30))
  have k0 := (g0.below hb1 (lt_of_block g0)).later (Obj.cells #[Value.slice A F.length cap] 30)
  have k1 := (g1.below hb1 (lt_of_block g1)).later (Obj.cells #[Value.slice A F.length cap] 30)
  have := sum_walk (some ⟨w1.heap.size, 0, none⟩) 1 [F] (w1.alloc (Obj.cells #[Value.slice A F.length cap] 30)) (partsC_one hx hy5 hc hcm hA) (by simp) (by simpa using hl) k0 k1
  simpa using this

set_option maxHeartbeats 4000000 in
set_option maxRecDepth 100000 in
theorem sums_walk (A : Option Addr) (cap : Nat) (b : List UInt8) (w : World) (hb : Byt w A b) (hc : b.length ≤ cap) (hcm : cap ≤ maxLen) (hA : A = none → cap = 0) (hl : b.length ≤ 4611686018427387904) {t0 t1 : TypeId} (g0 : Blk w 0 t0 (u32s ivs)) (g1 : Blk w 1 t1 (u8s permB)) :
    Calls Tryd.prog 9 #[.slice A b.length cap] w fun e w' => e = .returned (.bool true) ∧ Below w.heap.size w w' := by
  have HSH := Lib.hid (shown3_any w g0 g1)
  by_cases hlt : 100000 < b.length
  · obtain ⟨F, hF⟩ : ∃ F, b.take 100000 = F := ⟨_, rfl⟩
    have hFl : F.length = 100000 := by rw [← hF, List.length_take]; omega
    have hbF : Byt w A F := by rw [← hF]; exact hb.cut 100000
    obtain ⟨h1, h2⟩ := both_sums A cap F w hbF (by omega) hcm hA (by omega) g0 g1
    have eqd : ∀ w', (Op.equalIn 10000 42 (.agg (u8s (sumD F)).toArray) (.agg (u8s (sumD F)).toArray)).run Tryd.prog w' = .ok true w' := fun w' => by rw [eq32 _ _ (sumD_len F) (sumD_len F) w']; simp
    rw [hFl] at h1 h2
    have HS := Lib.hid h1
    have HR := Lib.hid h2
    have hsl := fun w' => slice_to A b.length cap 100000 (by omega) hc w'
    have hlti : (100000 : Int) < (b.length : Int) := by omega
    clear h1 h2 hbF hFl hb g0 g1 hF
    go_enter Tryd.func9, Tryd.ntmps9
    go_wp2_with (first | (go_at_call 23; refine HSH.out.mono ?_; rintro e w1 ⟨rfl, hbel⟩; have HB1 := Lib.hid hbel; clear hbel) | (go_at_call 24; refine (HS.out w1 HB1.out).mono ?_; rintro e w2 ⟨rfl, hb2⟩; have HB2 : Hid (Below w.heap.size w w2) := (HB1.out.alloc HB1.out.size _).trans (hb2.mono (HB1.out.alloc HB1.out.size (Obj.cells #[Value.slice A 100000 cap] 30)).size); clear hb2) | (go_at_call 25; refine (HR.out w2 HB2.out).mono ?_; rintro e w3 ⟨rfl, hb3⟩; have HB3 : Hid (Below w.heap.size w w3) := HB2.out.trans (hb3.mono HB2.out.size); clear hb3))
    go_ret
    exact ⟨rfl, HB3.out⟩
  · obtain ⟨h1, h2⟩ := both_sums A cap b w hb hc hcm hA hl g0 g1
    have eqd : ∀ w', (Op.equalIn 10000 42 (.agg (u8s (sumD b)).toArray) (.agg (u8s (sumD b)).toArray)).run Tryd.prog w' = .ok true w' := fun w' => by rw [eq32 _ _ (sumD_len b) (sumD_len b) w']; simp
    have HS := Lib.hid h1
    have HR := Lib.hid h2
    have hsl := fun w' => slice_to A b.length cap b.length (by omega) hc w'
    have hlti : ¬ (100000 : Int) < (b.length : Int) := by omega
    clear h1 h2 hb g0 g1
    go_enter Tryd.func9, Tryd.ntmps9
    go_wp2_with (first | (go_at_call 23; refine HSH.out.mono ?_; rintro e w1 ⟨rfl, hbel⟩; have HB1 := Lib.hid hbel; clear hbel) | (go_at_call 24; refine (HS.out w1 HB1.out).mono ?_; rintro e w2 ⟨rfl, hb2⟩; have HB2 : Hid (Below w.heap.size w w2) := (HB1.out.alloc HB1.out.size _).trans (hb2.mono (HB1.out.alloc HB1.out.size (Obj.cells #[Value.slice A b.length cap] 30)).size); clear hb2) | (go_at_call 25; refine (HR.out w2 HB2.out).mono ?_; rintro e w3 ⟨rfl, hb3⟩; have HB3 : Hid (Below w.heap.size w w3) := HB2.out.trans (hb3.mono HB2.out.size); clear hb3))
    go_ret
    exact ⟨rfl, HB3.out⟩
end Go.Proofs.YtcnnijhfliahgaaDoor
