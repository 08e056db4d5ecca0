/- The walk of stackyardlaw03.HashParts (10): how bytes are parted makes no difference. -/
import Derived.Test.YtcnnijhfliahgaaDoorHaK
namespace Go.Proofs.YtcnnijhfliahgaaDoor
open Go.RowKit
set_option linter.unusedVariables false

set_option maxHeartbeats 1000000 in
set_option maxRecDepth 100000 in
theorem parts_walk (A : Option Addr) (cap : Nat) (ps : List (List UInt8)) (w : World) (hp : PartsC w A ps) (hr : ∀ q ∈ ps, q.length ≤ 140737488351232) (hl : ps.length ≤ 140737488351232) {t0 t1 : TypeId} (g0 : Blk w 0 t0 (u32s ivs)) (g1 : Blk w 1 t1 (u8s permB)) :
    Calls Tryd.prog 10 #[.slice A ps.length cap] w fun e w' => e = .returned (.bool true) ∧ Below w.heap.size w w' := by
  have HP := Lib.hid hp
  have HL := Lib.hid hl
  have HR := Lib.hid hr
  have G0 := Lib.hid g0
  have G1 := Lib.hid g1
  have HSH := Lib.hid (shown3_any w g0 g1)
  have L0 := lt_of_block g0
  have L1 := lt_of_block g1
  clear hr hp g0 g1
  go_enter Tryd.func10, Tryd.ntmps10
  go_wp2_with (go_at_call 23; refine HSH.out.mono ?_; rintro e w1 ⟨rfl, hbel⟩)
  go_loopw [4, 5] (fun v i wr => ∃ k : Nat, k ≤ ps.length ∧ i = .int .i64 k ∧ Own wr w.heap.size v (ps.take k).flatten ∧ (ps.take k).flatten.length ≤ 100000 ∧ Below w.heap.size w wr) (fun _ i _ => ps.length - (intOf i).toNat)
  case atStart => exact ⟨0, Nat.zero_le _, rfl, Own.nil _ _, by simp, hbel⟩
  case round =>
    obtain ⟨k, hk, rfl, hown, hd, hbelr⟩ := hrel
    by_cases hlt : k < ps.length
    · obtain ⟨b, o, a, c, rfl, hc, hb, hqc, hcm, hn⟩ := (HP.out.keep hbelr) k hlt
      have hql := HR.out ps[k] (List.getElem_mem hlt)
      have HS : Hid ((ps.take (k + 1)).flatten = (ps.take k).flatten ++ ps[k]) := flat_snoc ps k hlt
      have HK : Hid (k < ps.length) := hlt
      clear hqc hcm
      generalize ps[k] = q at hc hb hql HS
      generalize (ps.take k).flatten = d at HS hown hd
      by_cases hbig : 100000 < d.length + q.length
      · have hbig' : ((100000 : Int) < (d.length : Int) + (q.length : Int)) := by omega
        go_wp2_with (at_builtin; refine app_byt w rfl _ _ rfl _ d rfl hown hbelr a q.length c q rfl rfl hb hn (by omega) ?_; intro v2 w2 hown2 hbel2 _; obtain ⟨A2, c2, rfl, _, _, _, _⟩ := hown2.form)
        go_ret
        exact ⟨rfl, hbel2⟩
      · have hbig' : ¬ ((100000 : Int) < (d.length : Int) + (q.length : Int)) := by omega
        go_wp2_with (at_builtin; refine app_byt w rfl _ _ rfl _ d rfl hown hbelr a q.length c q rfl rfl hb hn (by omega) ?_; intro v2 w2 hown2 hbel2 _; obtain ⟨A2, c2, rfl, _, _, _, _⟩ := hown2.form)
        go_roundw
        case rel => exact ⟨k + 1, HK.out, by go_num, by rw [HS.out, ← List.length_append]; exact hown2, by rw [HS.out, List.length_append]; omega, hbel2⟩
        case measure => simp [intOf]; omega
    · obtain rfl : k = ps.length := by omega
      have he : (ps.take ps.length).flatten = ps.flatten := by rw [List.take_length]
      rw [he] at hown hd
      obtain ⟨A2, c2, rfl, hy2, hna2, hlc2, hcm2⟩ := hown.form
      have h1 := sum_walk A cap ps wr (HP.out.keep hbelr) HL.out (by omega) (G0.out.below hbelr L0) (G1.out.below hbelr L1)
      generalize hF : ps.flatten = F at h1 hy2 hd hlc2
      have h2 : ∀ w5 : World, Below wr.heap.size wr w5 → Calls Tryd.prog 24 #[.slice (some ⟨w5.heap.size, 0, none⟩) 1 1] (w5.alloc (Obj.cells #[Value.slice A2 F.length c2] 30)) fun e w' => e = .returned (.agg (u8s (sumD F)).toArray) ∧ Below (w5.alloc (Obj.cells #[Value.slice A2 F.length c2] 30)).heap.size (w5.alloc (Obj.cells #[Value.slice A2 F.length c2] 30)) w' := by
        intro w5 hb5
        have hx := (Blk.born w5 30 [Value.slice A2 F.length c2]).at_ 0
        have hy5 := (hy2.keep hb5).keep ((Below.refl _ _).alloc (Nat.le_refl _) (Obj.cells #[Value.slice A2 F.length c2] 30))
        have k0 := ((G0.out.below hbelr L0).below hb5 (lt_of_block (G0.out.below hbelr L0))).later (Obj.cells #[Value.slice A2 F.length c2] 30)
        have k1 := ((G1.out.below hbelr L1).below hb5 (lt_of_block (G1.out.below hbelr L1))).later (Obj.cells #[Value.slice A2 F.length c2] 30)
        have := sum_walk (some ⟨w5.heap.size, 0, none⟩) 1 [F] (w5.alloc (Obj.cells #[Value.slice A2 F.length c2] 30)) (partsC_one hx hy5 hlc2 hcm2 hna2) (by simp) (by simp; omega) k0 k1
        simpa using this
      have hS1 := Lib.hid h1
      have hS2 := Lib.hid h2
      have HBR := Lib.hid hbelr
      have eqd : ∀ w', (Op.equalIn 10000 42 (.agg (u8s (sumD F)).toArray) (.agg (u8s (sumD F)).toArray)).run Tryd.prog w' = .ok true w' := fun w' => by rw [eq32 _ _ (sumD_len F) (sumD_len F) w']; simp
      clear h1 h2 hy2 he hown hF hna2 hlc2 hcm2 hbelr
      go_wp2_with (first | (go_at_call 24; refine hS1.out.mono ?_; rintro e w5 ⟨rfl, hb5⟩; have HB5 := Lib.hid hb5; clear hb5 hS1) | (go_at_call 24; refine (hS2.out w5 HB5.out).mono ?_; rintro e w6 ⟨rfl, hb6⟩; have HB6 := Lib.hid hb6; clear hb6))
      go_ret
      have b5 := HBR.out.trans (HB5.out.mono HBR.out.size)
      have b6 := b5.alloc b5.size (Obj.cells #[Value.slice A2 F.length c2] 30)
      exact ⟨rfl, b6.trans (HB6.out.mono b6.size)⟩
end Go.Proofs.YtcnnijhfliahgaaDoor
