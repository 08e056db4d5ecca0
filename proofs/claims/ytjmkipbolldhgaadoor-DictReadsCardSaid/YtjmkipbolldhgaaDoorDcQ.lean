/- The document's Encode: what is no list, and form 0. -/
import Derived.Test.YtjmkipbolldhgaaDoorDcP
namespace Go.Proofs.YtjmkipbolldhgaaDoor
open Go.RowKit
set_option linter.unusedVariables false

set_option maxHeartbeats 2000000 in
theorem renc_bad (f : Int) (A : Option Addr) (cap : Nat) (l : List Tx) (W : World) (hl : Strs W A l) (hn : l.length ≤ 9223372036854775807) (hs : ∀ x ∈ l, x.length ≤ 9223372036854775807) (h : (¬ f = 0 ∧ ¬ f = 1) ∨ ¬ rightT l) :
    Calls Tryd.prog 9 #[.int .i64 f, .slice A l.length cap] W fun e W' => e = .returned (.tuple #[.slice none 0 0, .int .i64 2]) ∧ Below W.heap.size W W' := by
  have HIS := Lib.hid (refright7_any A cap l W hl hn hs)
  generalize l.length = n at *
  by_cases h0 : f < 0
  · clear hl hs h
    generalize decide (rightT l) = dd at *
    go_enter Tryd.func9, Tryd.ntmps9
    go_wp2_with (go_at_call 21; refine HIS.out.mono ?_; rintro e w1 ⟨rfl, hb⟩; have HB := Lib.hid hb; clear hb)
    go_ret2
    exact ⟨rfl, HB.out⟩
  · by_cases h1 : 1 < f
    · clear hl hs h
      generalize decide (rightT l) = dd at *
      go_enter Tryd.func9, Tryd.ntmps9
      go_wp2_with (go_at_call 21; refine HIS.out.mono ?_; rintro e w1 ⟨rfl, hb⟩; have HB := Lib.hid hb; clear hb)
      go_ret2
      exact ⟨rfl, HB.out⟩
    · have hr : ¬ rightT l := fun hr' => h.elim (fun ⟨a, b⟩ => by omega) (fun k => k hr')
      rw [decide_eq_false hr] at HIS
      clear hl hs h hr
      go_enter Tryd.func9, Tryd.ntmps9
      go_wp2_with (go_at_call 21; refine HIS.out.mono ?_; rintro e w1 ⟨rfl, hb⟩; have HB := Lib.hid hb; clear hb)
      go_ret2
      exact ⟨rfl, HB.out⟩
theorem rtext_call (x : Tx) (w : World) (h : x.length ≤ 1024) : Calls Tryd.prog 24 #[.slice none 0 0, .string (str x)] w (MadeT w (txt x)) :=
  reftext_any none 0 (str x) [] w (by rw [str_size]; omega) (Byt.empty _ _) (fun _ => rfl) (by simp)

set_option maxRecDepth 100000 in
set_option maxHeartbeats 4000000 in
theorem renc0_any (A : Option Addr) (cap : Nat) (l : List Tx) (W : World) (hl : Strs W A l) (hr : rightT l) :
    Calls Tryd.prog 9 #[.int .i64 0, .slice A l.length cap] W (LaidT W (encT 0 l)) := by
  have his := refright7_any A cap l W hl (by have := hr.1; omega) (fun x hx => by have := hr.2 x hx; omega)
  rw [decide_eq_true hr] at his
  have HIS := Lib.hid his
  obtain ⟨DD, hDD⟩ : ∃ DD : Nat → List UInt8, DD = fun k => [0] ++ (l.take k).flatMap txt := ⟨_, rfl⟩
  have hfin : encT 0 l = DD l.length := by rw [hDD]; simp only [List.take_length]; rfl
  have hd0 : [0] = DD 0 := by rw [hDD]; simp
  have hst : ∀ k (h : k < l.length), DD (k + 1) = DD k ++ txt l[k] := fun k h => by
    rw [hDD]; simp only [List.take_succ_eq_append_getElem h, List.flatMap_append, List.flatMap_cons, List.flatMap_nil, List.append_nil, List.append_assoc]
  have hdl : ∀ k, (DD k).length ≤ 5000000 := fun k => by
    rw [hDD]
    exact own_app_len (by simp) (fun x hx => hr.2 x (List.mem_of_mem_take hx)) (Nat.le_trans (List.length_take_le' _ _) hr.1)
  rw [hfin]
  have HD0 := Lib.hid hd0
  have HL := Lib.hid hl
  have HSTEP := Lib.hid hst
  have HDL := Lib.hid hdl
  have HR := Lib.hid hr
  obtain ⟨n, hln⟩ : ∃ n, l.length = n := ⟨_, rfl⟩
  have HLN := Lib.hid hln
  have hn96 : n ≤ 4096 := by rw [← hln]; exact hr.1
  rw [hln] at HIS ⊢
  clear hDD hfin hd0 hst hdl hl hr hln his
  go_enter Tryd.func9, Tryd.ntmps9
  go_wp2_with (go_at_call 21; refine HIS.out.mono ?_; rintro e w1 ⟨rfl, hb⟩; have HB := Lib.hid hb; clear hb)
  go_loopw [7, 9] (fun v i wr => ∃ k : Nat, k ≤ n ∧ i = .int .i64 k ∧ Own wr W.heap.size v (DD k) ∧ Below W.heap.size W wr) (fun _ i _ => n - (intOf i).toNat)
  case atStart => exact ⟨0, by omega, rfl, by rw [← HD0.out]; exact (own_byte w1 0).base HB.out.size, HB.out.alloc HB.out.size _⟩
  case round =>
    obtain ⟨k, hk, rfl, hown, hbel⟩ := hrel
    obtain ⟨Ab, cb, rfl, _, _, _, _⟩ := hown.form
    obtain ⟨bb, hbb⟩ : ∃ bb, DD k = bb := ⟨_, rfl⟩
    rw [hbb] at hown ⊢
    obtain ⟨nb, hnb⟩ : ∃ nb, bb.length = nb := ⟨_, rfl⟩
    rw [hnb] at hown ⊢
    have HOWN := Lib.hid hown
    have HBEL := Lib.hid hbel
    by_cases hlt : k < n
    · have hk1 : k < l.length := by rw [HLN.out]; exact hlt
      obtain ⟨b, o, rfl, hca⟩ := HL.out k hk1
      have hcell := cell_lo hbel hca
      have hs := HSTEP.out k hk1
      have hbl := HDL.out k
      have hxl := HR.out.2 _ (List.getElem_mem hk1)
      have hcall := fun w => rtext_call l[k] w hxl
      have htl := txt_len hxl
      generalize txt l[k] = tx at hs hcall htl
      generalize str l[k] = sx at hcell hcall
      rw [hbb] at hs hbl
      unfold MadeT at hcall
      have HCALL := Lib.hid hcall
      have HST := Lib.hid hs
      have HLE : Hid (bb.length + tx.length ≤ 140737488355328) := by show _ ≤ _; omega
      have HK : Hid (k < n) := hlt
      clear hs hcall hown hbel hbb hnb hca hk1 hbl hxl htl
      go_wp2_with (first | (go_at_call 24; refine (HCALL.out _).mono ?_; rintro e w1 ⟨v1, rfl, ho1, hb1⟩; obtain ⟨A1, c1, rfl, hy1, hn1, _, _⟩ := ho1.form; have HY1 := Lib.hid hy1; have HN1 := Lib.hid hn1; have O1 := Lib.hid (HOWN.out.below hb1); have E1 := Lib.hid (HBEL.out.trans (hb1.mono HBEL.out.size)); obtain ⟨n1, hn11⟩ : ∃ x, tx.length = x := ⟨_, rfl⟩; have HN11 := Lib.hid hn11; rw [hn11]; clear ho1 hb1 hy1 hn1 hn11) | (refine app_byt W rfl _ _ rfl (.slice Ab nb cb) bb rfl O1.out E1.out A1 n1 c1 tx rfl HN11.out.symm HY1.out HN1.out (by have := HLE.out; omega) ?_; intro v6 w6 hown6 hbel6 _; rw [← HST.out] at hown6; have O6 := Lib.hid hown6; have E6 := Lib.hid hbel6; clear hown6 hbel6))
      go_roundw
      case rel => exact ⟨k + 1, HK.out, by go_num, O6.out, E6.out⟩
      case measure => simp [intOf]; have := HK.out; omega
    · obtain rfl : k = n := by omega
      have HBB := Lib.hid hbb
      clear hown hbel hbb hnb
      go_wp2
      go_ret2
      exact ⟨_, rfl, by rw [HBB.out]; exact HOWN.out, HBEL.out⟩
end Go.Proofs.YtjmkipbolldhgaaDoor
