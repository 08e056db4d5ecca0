/- Texts in memory; dict.isList, layTexts. -/
import Derived.Test.YtjmkipbolldhgaaDoorDcM
import Derived.Test.YtjmkipbolldhgaaDoorText
import Derived.Test.YtjmkipbolldhgaaDoorOne0
import Derived.Test.YtjmkipbolldhgaaDoorRegR
import Derived.Outline
import Derived.Deep.QuietTactic
import Derived.BigQuiet
namespace Go.Proofs.YtjmkipbolldhgaaDoor
open Go.RowKit
set_option linter.unusedVariables false

/-- A slice of texts, by their bytes. -/
def Strs (w : World) (A : Option Addr) (l : List Tx) : Prop := ∀ k (h : k < l.length), ∃ b o, A = some ⟨b, o, none⟩ ∧ w.cell? ⟨b, o + k, none⟩ = some (.string (str l[k]))
theorem Strs.keep {w w' : World} {A : Option Addr} {l : List Tx} (h : Strs w A l) (hb : Below w.heap.size w w') : Strs w' A l := by
  intro k hk
  obtain ⟨b, o, e, hc⟩ := h k hk
  exact ⟨b, o, e, (hb.cell (World.block_lt_of_cell? w _ hc)).trans hc⟩
theorem cell_lo {w W : World} {p : Addr} {v : Value} (h : Below w.heap.size w W) (hc : w.cell? p = some v) : W.cell? p = some v := (h.cell (World.block_lt_of_cell? w _ hc)).trans hc
theorem str_len2 (x : Tx) : (str x).size = x.length := str_size x

set_option maxHeartbeats 1000000 in
theorem toolong_any (x : Tx) (W : World) (hx : x.length ≤ 9223372036854775807) :
    Calls Tryd.prog 32 #[.string (str x)] W fun e W' => e = .returned (.bool (decide (1024 < x.length))) ∧ W = W' := by
  have hs := str_size x
  generalize str x = s at *
  by_cases h : 1024 < x.length
  · rw [decide_eq_true h]
    have h2 : (1024 : Int) < (s.size : Int) := by omega
    have h3 : 1024 < s.size := by omega
    clear hx hs h
    go_enter Tryd.func32, Tryd.ntmps32
    go_wp2
    go_ret
    exact ⟨rfl, rfl⟩
  · rw [decide_eq_false h]
    have h2 : ¬ (1024 : Int) < (s.size : Int) := by omega
    have h3 : s.size ≤ 1024 := by omega
    have h4 : ¬ 1024 < s.size := by omega
    clear hx hs h
    go_enter Tryd.func32, Tryd.ntmps32
    go_wp2
    go_ret
    exact ⟨rfl, rfl⟩

set_option maxRecDepth 100000 in
set_option maxHeartbeats 2000000 in
theorem idxlong_any (A : Option Addr) (cap : Nat) (l : List Tx) (W : World) (hl : Strs W A l) (hn : l.length ≤ 4096) (hs : ∀ x ∈ l, x.length ≤ 9223372036854775807) :
    Calls Tryd.prog 50 #[.slice A l.length cap, .func (.func 32) #[] #[]] W fun e W' =>
      (∃ r : Int, (0 ≤ r ↔ ∃ x ∈ l, 1024 < x.length) ∧ e = .returned (.int .i64 r)) ∧ W = W' := by
  have HCLO := Lib.hid (fun x (hx : x ∈ l) => toolong_any x W (hs x hx))
  have HL := Lib.hid hl
  obtain ⟨n, hn2⟩ : ∃ n, l.length = n := ⟨_, rfl⟩
  have HN := Lib.hid hn2
  rw [hn2] at hn ⊢
  clear hl hn2 hs
  go_enter Tryd.func50, Tryd.ntmps50
  go_wp2
  go_loop [8] (fun i => ∃ k : Nat, k ≤ n ∧ i = .int .i64 k ∧ ∀ j (hj : j < l.length), j < k → ¬ 1024 < (l[j]).length) (fun i => n - (intOf i).toNat)
  case atStart => exact ⟨0, by omega, rfl, fun j _ h => by omega⟩
  case round =>
    obtain ⟨k, hk, rfl, hall⟩ := hrel
    have HAL := Lib.hid hall
    clear hall
    by_cases hlt : k < n
    · have hk1 : k < l.length := by rw [HN.out]; exact hlt
      obtain ⟨b', o', rfl, hc⟩ := HL.out k hk1
      have HK : Hid (k < n) := hlt
      have hcl := HCLO.out l[k] (List.getElem_mem hk1)
      by_cases hy : 1024 < (l[k]).length
      · have HR : Hid (∃ x ∈ l, 1024 < x.length) := ⟨l[k], List.getElem_mem hk1, hy⟩
        rw [decide_eq_true hy] at hcl
        generalize str l[k] = y at hc hcl
        have HCL := Lib.hid hcl
        clear hcl hy
        go_wp2_with (go_at_call 32; refine HCL.out.mono ?_; rintro e w1 ⟨rfl, rfl⟩)
        go_ret
        exact ⟨⟨(k : Int), ⟨fun _ => HR.out, fun _ => by omega⟩, rfl⟩, rfl⟩
      · have HNX : Hid (∀ j (hj : j < l.length), j < k + 1 → ¬ 1024 < (l[j]).length) := fun j hj h => by
          by_cases e : j = k
          · subst e; exact hy
          · exact HAL.out j hj (by omega)
        rw [decide_eq_false hy] at hcl
        generalize str l[k] = y at hc hcl
        have HCL := Lib.hid hcl
        clear hcl hy
        go_wp2_with (go_at_call 32; refine HCL.out.mono ?_; rintro e w1 ⟨rfl, rfl⟩)
        go_round
        case rel => exact ⟨k + 1, HK.out, by go_num, HNX.out⟩
        case measure => simp [intOf]; have := HK.out; omega
    · obtain rfl : k = n := by omega
      go_wp2
      go_ret
      refine ⟨⟨-1, ⟨fun h => by omega, fun ⟨x, hx, h⟩ => ?_⟩, rfl⟩, rfl⟩
      obtain ⟨i, hi, rfl⟩ := List.getElem_of_mem hx
      exact (HAL.out i hi (by rw [← HN.out]; exact hi) h).elim
set_option maxHeartbeats 1000000 in
theorem contains_any (A : Option Addr) (cap : Nat) (l : List Tx) (W : World) (hl : Strs W A l) (hn : l.length ≤ 4096) (hs : ∀ x ∈ l, x.length ≤ 9223372036854775807) :
    Calls Tryd.prog 33 #[.slice A l.length cap, .func (.func 32) #[] #[]] W fun e W' => e = .returned (.bool (decide (∃ x ∈ l, 1024 < x.length))) ∧ W = W' := by
  have HI := Lib.hid (idxlong_any A cap l W hl hn hs)
  generalize l.length = n at *
  by_cases h : ∃ x ∈ l, 1024 < x.length
  · rw [decide_eq_true h]
    have HH := Lib.hid h
    clear hl h hs hn
    go_enter Tryd.func33, Tryd.ntmps33
    go_wp2_with (go_at_call 50; refine HI.out.mono ?_; rintro e w1 ⟨⟨r, hr, rfl⟩, rfl⟩; have hr2 : 0 ≤ r := hr.2 HH.out; clear hr)
    go_ret
    exact ⟨rfl, rfl⟩
  · rw [decide_eq_false h]
    have HH := Lib.hid h
    clear hl h hs hn
    go_enter Tryd.func33, Tryd.ntmps33
    go_wp2_with (go_at_call 50; refine HI.out.mono ?_; rintro e w1 ⟨⟨r, hr, rfl⟩, rfl⟩; have hr2 : ¬ 0 ≤ r := fun h => HH.out (hr.1 h); have hr3 : decide (0 ≤ r) = false := decide_eq_false hr2; clear hr)
    go_ret
    exact ⟨rfl, rfl⟩
set_option maxHeartbeats 1000000 in
theorem islist_any (A : Option Addr) (cap : Nat) (l : List Tx) (W : World) (hl : Strs W A l) (hn : l.length ≤ 9223372036854775807) (hs : ∀ x ∈ l, x.length ≤ 9223372036854775807) :
    Calls Tryd.prog 15 #[.slice A l.length cap] W fun e W' => e = .returned (.bool (decide (rightT l))) ∧ Below W.heap.size W W' := by
  by_cases h : l.length ≤ 4096
  · have hd : decide (rightT l) = !decide (∃ x ∈ l, 1024 < x.length) := by
      by_cases hx : ∃ x ∈ l, 1024 < x.length
      · rw [decide_eq_true hx]
        obtain ⟨x, hx, hl⟩ := hx
        exact decide_eq_false fun hr => by have := hr.2 x hx; omega
      · rw [decide_eq_false hx]
        exact decide_eq_true ⟨h, fun x hx' => Classical.byContradiction fun hh => hx ⟨x, hx', by omega⟩⟩
    rw [hd]
    have HC := Lib.hid (fun W (hl : Strs W A l) => contains_any A cap l W hl h hs)
    have HL := Lib.hid hl
    have HREF : Hid (Below W.heap.size W W) := Below.refl _ _
    generalize decide (∃ x ∈ l, 1024 < x.length) = dd at *
    generalize l.length = n at *
    have hle : (n : Int) ≤ 4096 := by omega
    clear hl hs hd hn h
    go_enter Tryd.func15, Tryd.ntmps15
    go_wp2_with (go_at_call 33; refine (HC.out _ HL.out).mono ?_; rintro e w1 ⟨rfl, rfl⟩)
    go_ret
    exact ⟨rfl, HREF.out⟩
  · have hd : decide (rightT l) = false := decide_eq_false fun hr => h hr.1
    rw [hd]
    have HREF : Hid (Below W.heap.size W W) := Below.refl _ _
    generalize l.length = n at *
    have hle : ¬ (n : Int) ≤ 4096 := by omega
    clear hl hs hd
    go_enter Tryd.func15, Tryd.ntmps15
    go_wp2
    go_ret
    exact ⟨rfl, HREF.out⟩

theorem text_call (x : Tx) (w : World) (h : x.length ≤ 1024) : Calls Tryd.prog 34 #[.slice none 0 0, .string (str x)] w (MadeT w (txt x)) :=
  text_any none 0 (str x) [] w (by rw [str_size]; omega) (Byt.empty _ _) (fun _ => rfl) (by simp)
theorem own_app_len {b : List UInt8} {l : List Tx} (hb : b.length ≤ 100) (h : ∀ x ∈ l, x.length ≤ 1024) (hn : l.length ≤ 4096) : (b ++ l.flatMap txt).length ≤ 5000000 := by
  have := flat_txt h
  rw [List.length_append]
  omega

set_option maxRecDepth 100000 in
set_option maxHeartbeats 4000000 in
theorem laytexts_any (Ab A : Option Addr) (cb cap nb : Nat) (b : List UInt8) (l : List Tx) (W0 W : World) (hnb : b.length = nb) (hown : Own W W0.heap.size (.slice Ab nb cb) b) (hbel : Below W0.heap.size W0 W) (hbl : b.length ≤ 100) (hl : Strs W0 A l) (hr : rightT l) :
    Calls Tryd.prog 16 #[.slice Ab nb cb, .slice A l.length cap] W fun e W' => ∃ v, e = .returned (.tuple #[v, .int .i64 0]) ∧ Own W' W0.heap.size v (b ++ l.flatMap txt) ∧ Below W0.heap.size W0 W' := by
  obtain ⟨DD, hDD⟩ : ∃ DD : Nat → List UInt8, DD = fun k => b ++ (l.take k).flatMap txt := ⟨_, rfl⟩
  have hfin : b ++ l.flatMap txt = DD l.length := by rw [hDD]; simp only [List.take_length]
  have hd0 : b = DD 0 := by rw [hDD]; simp
  have hst : ∀ k (h : k < l.length), DD (k + 1) = DD k ++ txt l[k] := fun k h => by
    rw [hDD]; simp only [List.take_succ_eq_append_getElem h, List.flatMap_append, List.flatMap_cons, List.flatMap_nil, List.append_nil, List.append_assoc]
  have hdl : ∀ k, (DD k).length ≤ 5000000 := fun k => by
    rw [hDD]
    exact own_app_len hbl (fun x hx => hr.2 x (List.mem_of_mem_take hx)) (Nat.le_trans (List.length_take_le' _ _) hr.1)
  rw [hfin]
  rw [hd0] at hown
  have HOW := Lib.hid hown
  have HBE := Lib.hid hbel
  have HL := Lib.hid hl
  have HSTEP := Lib.hid hst
  have HDL := Lib.hid hdl
  have HR := Lib.hid hr
  have HREF : Hid (Below W.heap.size W W) := Below.refl _ _
  obtain ⟨n, hln⟩ : ∃ n, l.length = n := ⟨_, rfl⟩
  have HLN := Lib.hid hln
  have hn96 : n ≤ 4096 := by rw [← hln]; exact hr.1
  rw [hln]
  clear hDD hfin hd0 hst hdl hown hbel hl hr hln hbl hnb
  go_enter Tryd.func16, Tryd.ntmps16
  go_wp2
  go_loopw [0, 12] (fun v i wr => ∃ k : Nat, k ≤ n ∧ i = .int .i64 k ∧ Own wr W0.heap.size v (DD k) ∧ Below W0.heap.size W0 wr) (fun _ i _ => n - (intOf i).toNat)
  case atStart => exact ⟨0, by omega, rfl, HOW.out, HBE.out⟩
  case round =>
    obtain ⟨k, hk, rfl, hown, hbel⟩ := hrel
    obtain ⟨Ab, cb, rfl, _, _, _, _⟩ := hown.form
    obtain ⟨bb, hbb⟩ : ∃ bb, DD k = bb := ⟨_, rfl⟩
    rw [hbb] at hown ⊢
    obtain ⟨nb, hnb⟩ : ∃ nb, bb.length = nb := ⟨_, rfl⟩
    rw [hnb] at hown ⊢
    have HOWN := Lib.hid hown
    have HBEL := Lib.hid hbel
    by_cases hlt : k < n
    · have hk1 : k < l.length := by rw [HLN.out]; exact hlt
      obtain ⟨b, o, rfl, hca⟩ := HL.out k hk1
      have hcell := cell_lo hbel hca
      have hs := HSTEP.out k hk1
      have hbl := HDL.out k
      have hxl := HR.out.2 _ (List.getElem_mem hk1)
      have hcall := fun w => text_call l[k] w hxl
      have htl := txt_len hxl
      generalize txt l[k] = tx at hs hcall htl
      generalize str l[k] = sx at hcell hcall
      rw [hbb] at hs hbl
      unfold MadeT at hcall
      have HCALL := Lib.hid hcall
      have HST := Lib.hid hs
      have HLE : Hid (bb.length + tx.length ≤ 140737488355328) := by show _ ≤ _; omega
      have HK : Hid (k < n) := hlt
      clear hs hcall hown hbel hbb hnb hca hk1 hbl hxl htl
      go_wp2_with (first | (go_at_call 34; refine (HCALL.out _).mono ?_; rintro e w1 ⟨v1, rfl, ho1, hb1⟩; obtain ⟨A1, c1, rfl, hy1, hn1, _, _⟩ := ho1.form; have HY1 := Lib.hid hy1; have HN1 := Lib.hid hn1; have O1 := Lib.hid (HOWN.out.below hb1); have E1 := Lib.hid (HBEL.out.trans (hb1.mono HBEL.out.size)); obtain ⟨n1, hn11⟩ : ∃ x, tx.length = x := ⟨_, rfl⟩; have HN11 := Lib.hid hn11; rw [hn11]; clear ho1 hb1 hy1 hn1 hn11) | (refine app_byt W0 rfl _ _ rfl (.slice Ab nb cb) bb rfl O1.out E1.out A1 n1 c1 tx rfl HN11.out.symm HY1.out HN1.out (by have := HLE.out; omega) ?_; intro v6 w6 hown6 hbel6 _; rw [← HST.out] at hown6; have O6 := Lib.hid hown6; have E6 := Lib.hid hbel6; clear hown6 hbel6))
      go_roundw
      case rel => exact ⟨k + 1, HK.out, by go_num, O6.out, E6.out⟩
      case measure => simp [intOf]; have := HK.out; omega
    · obtain rfl : k = n := by omega
      have HBB := Lib.hid hbb
      clear hown hbel hbb hnb
      go_wp2
      go_ret2
      exact ⟨_, rfl, by rw [HBB.out]; exact HOWN.out, HBEL.out⟩
end Go.Proofs.YtjmkipbolldhgaaDoor
