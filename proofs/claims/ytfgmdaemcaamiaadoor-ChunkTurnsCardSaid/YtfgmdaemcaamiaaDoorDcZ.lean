/- Joined: Texts in memory; dict.isList, layTexts. dict.split. dict.Encode. The head 'shown' of dict's laws; DictOnce's walk. dict.takeTexts. pack.Unpack, whatever it is asked for (the program's alone). dict.read. dict.read's other ways; dict.Decode. The walk of stackyardlaw07.DictBack. The document's list, place. The document's rising. The document's Encode: what is no list, and form 0. The document's Encode: form 1. Best, on both sides; the walk of stackyardlaw07.DictWords. -/
import Derived.Test.YtfgmdaemcaamiaaDoorDcM
import Derived.Test.YtfgmdaemcaamiaaDoorText
import Derived.Test.YtfgmdaemcaamiaaDoorOne0
import Derived.Test.YtfgmdaemcaamiaaDoorRegR
import Derived.Outline
import Derived.Deep.QuietTactic
import Derived.BigQuiet
import Derived.Test.YtfgmdaemcaamiaaDoorDcK
import Derived.Test.YtfgmdaemcaamiaaDoorDcIt
import Derived.Maps.OwnOps
import Derived.Carry
import Derived.StringKeys
import Derived.Test.YtfgmdaemcaamiaaDoorRefNum
import Derived.Test.YtfgmdaemcaamiaaDoorTakeW
import Derived.Test.YtfgmdaemcaamiaaDoorPkA
/-! Texts in memory; dict.isList, layTexts. -/
namespace Go.Proofs.YtfgmdaemcaamiaaDoor
open Go.RowKit
set_option linter.unusedVariables false

/-- A slice of texts, by their bytes. -/
def Strs (w : World) (A : Option Addr) (l : List Tx) : Prop := ∀ k (h : k < l.length), ∃ b o, A = some ⟨b, o, none⟩ ∧ w.cell? ⟨b, o + k, none⟩ = some (.string (str l[k]))
theorem Strs.keep {w w' : World} {A : Option Addr} {l : List Tx} (h : Strs w A l) (hb : Below w.heap.size w w') : Strs w' A l := by
  intro k hk
  obtain ⟨b, o, e, hc⟩ := h k hk
  exact ⟨b, o, e, (hb.cell (World.block_lt_of_cell? w _ hc)).trans hc⟩
theorem cell_lo {w W : World} {p : Addr} {v : Value} (h : Below w.heap.size w W) (hc : w.cell? p = some v) : W.cell? p = some v := (h.cell (World.block_lt_of_cell? w _ hc)).trans hc
theorem str_len2 (x : Tx) : (str x).size = x.length := str_size x

set_option maxHeartbeats 1000000 in
theorem toolong_any (x : Tx) (W : World) (hx : x.length ≤ 9223372036854775807) :
    Calls Tryd.prog 91 #[.string (str x)] W fun e W' => e = .returned (.bool (decide (1024 < x.length))) ∧ W = W' := by
  have hs := str_size x
  generalize str x = s at *
  by_cases h : 1024 < x.length
  · rw [decide_eq_true h]
    have h2 : (1024 : Int) < (s.size : Int) := by omega
    have h3 : 1024 < s.size := by omega
    clear hx hs h
    go_enter Tryd.func91, Tryd.ntmps91
    go_wp2
    go_ret
    exact ⟨rfl, rfl⟩
  · rw [decide_eq_false h]
    have h2 : ¬ (1024 : Int) < (s.size : Int) := by omega
    have h3 : s.size ≤ 1024 := by omega
    have h4 : ¬ 1024 < s.size := by omega
    clear hx hs h
    go_enter Tryd.func91, Tryd.ntmps91
    go_wp2
    go_ret
    exact ⟨rfl, rfl⟩

set_option maxRecDepth 100000 in
set_option maxHeartbeats 2000000 in
theorem idxlong_any (A : Option Addr) (cap : Nat) (l : List Tx) (W : World) (hl : Strs W A l) (hn : l.length ≤ 4096) (hs : ∀ x ∈ l, x.length ≤ 9223372036854775807) :
    Calls Tryd.prog 107 #[.slice A l.length cap, .func (.func 91) #[] #[]] W fun e W' =>
      (∃ r : Int, (0 ≤ r ↔ ∃ x ∈ l, 1024 < x.length) ∧ e = .returned (.int .i64 r)) ∧ W = W' := by
  have HCLO := Lib.hid (fun x (hx : x ∈ l) => toolong_any x W (hs x hx))
  have HL := Lib.hid hl
  obtain ⟨n, hn2⟩ : ∃ n, l.length = n := ⟨_, rfl⟩
  have HN := Lib.hid hn2
  rw [hn2] at hn ⊢
  clear hl hn2 hs
  go_enter Tryd.func107, Tryd.ntmps107
  go_wp2
  go_loop [8] (fun i => ∃ k : Nat, k ≤ n ∧ i = .int .i64 k ∧ ∀ j (hj : j < l.length), j < k → ¬ 1024 < (l[j]).length) (fun i => n - (intOf i).toNat)
  case atStart => exact ⟨0, by omega, rfl, fun j _ h => by omega⟩
  case round =>
    obtain ⟨k, hk, rfl, hall⟩ := hrel
    have HAL := Lib.hid hall
    clear hall
    by_cases hlt : k < n
    · have hk1 : k < l.length := by rw [HN.out]; exact hlt
      obtain ⟨b', o', rfl, hc⟩ := HL.out k hk1
      have HK : Hid (k < n) := hlt
      have hcl := HCLO.out l[k] (List.getElem_mem hk1)
      by_cases hy : 1024 < (l[k]).length
      · have HR : Hid (∃ x ∈ l, 1024 < x.length) := ⟨l[k], List.getElem_mem hk1, hy⟩
        rw [decide_eq_true hy] at hcl
        generalize str l[k] = y at hc hcl
        have HCL := Lib.hid hcl
        clear hcl hy
        go_wp2_with (go_at_call 91; refine HCL.out.mono ?_; rintro e w1 ⟨rfl, rfl⟩)
        go_ret
        exact ⟨⟨(k : Int), ⟨fun _ => HR.out, fun _ => by omega⟩, rfl⟩, rfl⟩
      · have HNX : Hid (∀ j (hj : j < l.length), j < k + 1 → ¬ 1024 < (l[j]).length) := fun j hj h => by
          by_cases e : j = k
          · subst e; exact hy
          · exact HAL.out j hj (by omega)
        rw [decide_eq_false hy] at hcl
        generalize str l[k] = y at hc hcl
        have HCL := Lib.hid hcl
        clear hcl hy
        go_wp2_with (go_at_call 91; refine HCL.out.mono ?_; rintro e w1 ⟨rfl, rfl⟩)
        go_round
        case rel => exact ⟨k + 1, HK.out, by go_num, HNX.out⟩
        case measure => simp [intOf]; have := HK.out; omega
    · obtain rfl : k = n := by omega
      go_wp2
      go_ret
      refine ⟨⟨-1, ⟨fun h => by omega, fun ⟨x, hx, h⟩ => ?_⟩, rfl⟩, rfl⟩
      obtain ⟨i, hi, rfl⟩ := List.getElem_of_mem hx
      exact (HAL.out i hi (by rw [← HN.out]; exact hi) h).elim
set_option maxHeartbeats 1000000 in
theorem contains_any (A : Option Addr) (cap : Nat) (l : List Tx) (W : World) (hl : Strs W A l) (hn : l.length ≤ 4096) (hs : ∀ x ∈ l, x.length ≤ 9223372036854775807) :
    Calls Tryd.prog 92 #[.slice A l.length cap, .func (.func 91) #[] #[]] W fun e W' => e = .returned (.bool (decide (∃ x ∈ l, 1024 < x.length))) ∧ W = W' := by
  have HI := Lib.hid (idxlong_any A cap l W hl hn hs)
  generalize l.length = n at *
  by_cases h : ∃ x ∈ l, 1024 < x.length
  · rw [decide_eq_true h]
    have HH := Lib.hid h
    clear hl h hs hn
    go_enter Tryd.func92, Tryd.ntmps92
    go_wp2_with (go_at_call 107; refine HI.out.mono ?_; rintro e w1 ⟨⟨r, hr, rfl⟩, rfl⟩; have hr2 : 0 ≤ r := hr.2 HH.out; clear hr)
    go_ret
    exact ⟨rfl, rfl⟩
  · rw [decide_eq_false h]
    have HH := Lib.hid h
    clear hl h hs hn
    go_enter Tryd.func92, Tryd.ntmps92
    go_wp2_with (go_at_call 107; refine HI.out.mono ?_; rintro e w1 ⟨⟨r, hr, rfl⟩, rfl⟩; have hr2 : ¬ 0 ≤ r := fun h => HH.out (hr.1 h); have hr3 : decide (0 ≤ r) = false := decide_eq_false hr2; clear hr)
    go_ret
    exact ⟨rfl, rfl⟩
set_option maxHeartbeats 1000000 in
theorem islist_any (A : Option Addr) (cap : Nat) (l : List Tx) (W : World) (hl : Strs W A l) (hn : l.length ≤ 9223372036854775807) (hs : ∀ x ∈ l, x.length ≤ 9223372036854775807) :
    Calls Tryd.prog 64 #[.slice A l.length cap] W fun e W' => e = .returned (.bool (decide (rightT l))) ∧ Below W.heap.size W W' := by
  by_cases h : l.length ≤ 4096
  · have hd : decide (rightT l) = !decide (∃ x ∈ l, 1024 < x.length) := by
      by_cases hx : ∃ x ∈ l, 1024 < x.length
      · rw [decide_eq_true hx]
        obtain ⟨x, hx, hl⟩ := hx
        exact decide_eq_false fun hr => by have := hr.2 x hx; omega
      · rw [decide_eq_false hx]
        exact decide_eq_true ⟨h, fun x hx' => Classical.byContradiction fun hh => hx ⟨x, hx', by omega⟩⟩
    rw [hd]
    have HC := Lib.hid (fun W (hl : Strs W A l) => contains_any A cap l W hl h hs)
    have HL := Lib.hid hl
    have HREF : Hid (Below W.heap.size W W) := Below.refl _ _
    generalize decide (∃ x ∈ l, 1024 < x.length) = dd at *
    generalize l.length = n at *
    have hle : (n : Int) ≤ 4096 := by omega
    clear hl hs hd hn h
    go_enter Tryd.func64, Tryd.ntmps64
    go_wp2_with (go_at_call 92; refine (HC.out _ HL.out).mono ?_; rintro e w1 ⟨rfl, rfl⟩)
    go_ret
    exact ⟨rfl, HREF.out⟩
  · have hd : decide (rightT l) = false := decide_eq_false fun hr => h hr.1
    rw [hd]
    have HREF : Hid (Below W.heap.size W W) := Below.refl _ _
    generalize l.length = n at *
    have hle : ¬ (n : Int) ≤ 4096 := by omega
    clear hl hs hd
    go_enter Tryd.func64, Tryd.ntmps64
    go_wp2
    go_ret
    exact ⟨rfl, HREF.out⟩

theorem text_call (x : Tx) (w : World) (h : x.length ≤ 1024) : Calls Tryd.prog 93 #[.slice none 0 0, .string (str x)] w (MadeT w (txt x)) :=
  text_any none 0 (str x) [] w (by rw [str_size]; omega) (Byt.empty _ _) (fun _ => rfl) (by simp)
theorem own_app_len {b : List UInt8} {l : List Tx} (hb : b.length ≤ 100) (h : ∀ x ∈ l, x.length ≤ 1024) (hn : l.length ≤ 4096) : (b ++ l.flatMap txt).length ≤ 5000000 := by
  have := flat_txt h
  rw [List.length_append]
  omega

set_option maxRecDepth 100000 in
set_option maxHeartbeats 4000000 in
theorem laytexts_any (Ab A : Option Addr) (cb cap nb : Nat) (b : List UInt8) (l : List Tx) (W0 W : World) (hnb : b.length = nb) (hown : Own W W0.heap.size (.slice Ab nb cb) b) (hbel : Below W0.heap.size W0 W) (hbl : b.length ≤ 100) (hl : Strs W0 A l) (hr : rightT l) :
    Calls Tryd.prog 65 #[.slice Ab nb cb, .slice A l.length cap] W fun e W' => ∃ v, e = .returned (.tuple #[v, .int .i64 0]) ∧ Own W' W0.heap.size v (b ++ l.flatMap txt) ∧ Below W0.heap.size W0 W' := by
  obtain ⟨DD, hDD⟩ : ∃ DD : Nat → List UInt8, DD = fun k => b ++ (l.take k).flatMap txt := ⟨_, rfl⟩
  have hfin : b ++ l.flatMap txt = DD l.length := by rw [hDD]; simp only [List.take_length]
  have hd0 : b = DD 0 := by rw [hDD]; simp
  have hst : ∀ k (h : k < l.length), DD (k + 1) = DD k ++ txt l[k] := fun k h => by
    rw [hDD]; simp only [List.take_succ_eq_append_getElem h, List.flatMap_append, List.flatMap_cons, List.flatMap_nil, List.append_nil, List.append_assoc]
  have hdl : ∀ k, (DD k).length ≤ 5000000 := fun k => by
    rw [hDD]
    exact own_app_len hbl (fun x hx => hr.2 x (List.mem_of_mem_take hx)) (Nat.le_trans (List.length_take_le' _ _) hr.1)
  rw [hfin]
  rw [hd0] at hown
  have HOW := Lib.hid hown
  have HBE := Lib.hid hbel
  have HL := Lib.hid hl
  have HSTEP := Lib.hid hst
  have HDL := Lib.hid hdl
  have HR := Lib.hid hr
  have HREF : Hid (Below W.heap.size W W) := Below.refl _ _
  obtain ⟨n, hln⟩ : ∃ n, l.length = n := ⟨_, rfl⟩
  have HLN := Lib.hid hln
  have hn96 : n ≤ 4096 := by rw [← hln]; exact hr.1
  rw [hln]
  clear hDD hfin hd0 hst hdl hown hbel hl hr hln hbl hnb
  go_enter Tryd.func65, Tryd.ntmps65
  go_wp2
  go_loopw [0, 12] (fun v i wr => ∃ k : Nat, k ≤ n ∧ i = .int .i64 k ∧ Own wr W0.heap.size v (DD k) ∧ Below W0.heap.size W0 wr) (fun _ i _ => n - (intOf i).toNat)
  case atStart => exact ⟨0, by omega, rfl, HOW.out, HBE.out⟩
  case round =>
    obtain ⟨k, hk, rfl, hown, hbel⟩ := hrel
    obtain ⟨Ab, cb, rfl, _, _, _, _⟩ := hown.form
    obtain ⟨bb, hbb⟩ : ∃ bb, DD k = bb := ⟨_, rfl⟩
    rw [hbb] at hown ⊢
    obtain ⟨nb, hnb⟩ : ∃ nb, bb.length = nb := ⟨_, rfl⟩
    rw [hnb] at hown ⊢
    have HOWN := Lib.hid hown
    have HBEL := Lib.hid hbel
    by_cases hlt : k < n
    · have hk1 : k < l.length := by rw [HLN.out]; exact hlt
      obtain ⟨b, o, rfl, hca⟩ := HL.out k hk1
      have hcell := cell_lo hbel hca
      have hs := HSTEP.out k hk1
      have hbl := HDL.out k
      have hxl := HR.out.2 _ (List.getElem_mem hk1)
      have hcall := fun w => text_call l[k] w hxl
      have htl := txt_len hxl
      generalize txt l[k] = tx at hs hcall htl
      generalize str l[k] = sx at hcell hcall
      rw [hbb] at hs hbl
      unfold MadeT at hcall
      have HCALL := Lib.hid hcall
      have HST := Lib.hid hs
      have HLE : Hid (bb.length + tx.length ≤ 140737488355328) := by show _ ≤ _; omega
      have HK : Hid (k < n) := hlt
      clear hs hcall hown hbel hbb hnb hca hk1 hbl hxl htl
      go_wp2_with (first | (go_at_call 93; refine (HCALL.out _).mono ?_; rintro e w1 ⟨v1, rfl, ho1, hb1⟩; obtain ⟨A1, c1, rfl, hy1, hn1, _, _⟩ := ho1.form; have HY1 := Lib.hid hy1; have HN1 := Lib.hid hn1; have O1 := Lib.hid (HOWN.out.below hb1); have E1 := Lib.hid (HBEL.out.trans (hb1.mono HBEL.out.size)); obtain ⟨n1, hn11⟩ : ∃ x, tx.length = x := ⟨_, rfl⟩; have HN11 := Lib.hid hn11; rw [hn11]; clear ho1 hb1 hy1 hn1 hn11) | (refine app_byt W0 rfl _ _ rfl (.slice Ab nb cb) bb rfl O1.out E1.out A1 n1 c1 tx rfl HN11.out.symm HY1.out HN1.out (by have := HLE.out; omega) ?_; intro v6 w6 hown6 hbel6 _; rw [← HST.out] at hown6; have O6 := Lib.hid hown6; have E6 := Lib.hid hbel6; clear hown6 hbel6))
      go_roundw
      case rel => exact ⟨k + 1, HK.out, by go_num, O6.out, E6.out⟩
      case measure => simp [intOf]; have := HK.out; omega
    · obtain rfl : k = n := by omega
      have HBB := Lib.hid hbb
      clear hown hbel hbb hnb
      go_wp2
      go_ret2
      exact ⟨_, rfl, by rw [HBB.out]; exact HOWN.out, HBEL.out⟩
end Go.Proofs.YtfgmdaemcaamiaaDoor

/-! dict.split. -/
namespace Go.Proofs.YtfgmdaemcaamiaaDoor
open Go.RowKit Go.Maps
set_option linter.unusedVariables false

theorem keyedS : Keyed Tryd.prog 9 := string_keyed Tryd.underlying9
theorem zeroU (w : World) : (zeroValue 43).run Tryd.prog w = .ok (.int .u64 0) w := Tryd.zeroValue43 w
theorem rdU_mk (v : Nat) (h : v < 18446744073709551616) : plainElem (H := Unit) Tryd.prog 43 (.int .u64 (v : Int)) = some (.lit (.int .u64 (v : Int)), []) := by
  refine plainElem_int Tryd.underlying43 ?_
  simp [Lit.wf, IntKind.min, IntKind.max, IntKind.signed, IntKind.bits]
  omega
theorem keyS (x : Tx) (h : x.length ≤ 1024) : keyOf Tryd.prog 9 (.string (str x)) = some (.string x) := by
  have := Go.WideMaps.keyOf_string_mk (P := Tryd.prog) (k := 9) Tryd.underlying9 (s := str x) (by rw [str_size]; unfold maxLen; omega)
  rwa [str_list] at this
/-- The map block of the call's own. -/
def MapAt (w : World) (b : Nat) (m : Tx → Option Nat) : Prop := ∃ D : DataW Unit, w.ownsMap Tryd.prog 9 (plainElem (H := Unit) Tryd.prog 43) b 8192 D ∧ MapS D m
theorem blk_grown {w w' : World} {row : Option Nat} (h : w.grownBy w' row) {X : Nat} {t : TypeId} {cs : List Value} (hb : Blk w X t cs) (hr : row ≠ some X) : Blk w' X t cs := (h.block X (lt_of_block hb) (Ne.symm hr)).trans hb
theorem below_grown {B : Nat} {w0 w w' : World} {r : Nat} (h : Below B w0 w) (hg : w.grownBy w' (some r)) (hB : B ≤ w.heap.size) (hr : B ≤ r) : Below B w0 w' := h.grown hg hB (fun k hk => by injection hk with hk; omega)
theorem strs_grown {w w' : World} {r : Nat} {g o : Nat} {l : List Tx} (h : Strs w (some ⟨g, o, none⟩) l) (hg : w.grownBy w' (some r)) (hne : g ≠ r) : Strs w' (some ⟨g, o, none⟩) l := by
  intro k hk
  obtain ⟨b, o', e, hc⟩ := h k hk
  injection e with e
  injection e with e1 e2
  subst e1 e2
  refine ⟨g, o, rfl, ?_⟩
  have hlt : g < w.heap.size := World.block_lt_of_cell? w _ hc
  have hb : w'.heap[g]? = w.heap[g]? := hg.block g hlt (fun e => hne (by injection e with e))
  rw [← hc]
  exact World.cell?_of_block hb

theorem map_below {w w' : World} {b n : Nat} {D : DataW Unit} (h : w.ownsMap Tryd.prog 9 (plainElem (H := Unit) Tryd.prog 43) b n D) (hb : Below w.heap.size w w') : w'.ownsMap Tryd.prog 9 (plainElem (H := Unit) Tryd.prog 43) b n D := by
  have hlt := h.lt
  obtain ⟨es, clock, h1, h2⟩ := h
  exact ⟨es, clock, (hb.block b hlt).trans h1, h2⟩
/-- Texts in a row of the call's own. -/
def OwnS (w : World) (B : Nat) (v : Value) (l : List Tx) : Prop := w.ownsRow B 9 1 v l.length (l.map encStr)
theorem OwnS.form {w : World} {B : Nat} {v : Value} {l : List Tx} (h : OwnS w B v l) : ∃ A c, v = .slice A l.length c ∧ Strs w A l ∧ (A = none → c = 0) ∧ l.length ≤ c ∧ ∀ a, A = some a → B ≤ a.block ∧ a = ⟨a.block, 0, none⟩ := by
  rcases h.2 with ⟨rfl, h0⟩ | ⟨g, cap, cur, rfl, hb, hg, hn, hm, hs, ht⟩
  · have : l = [] := List.length_eq_zero_iff.1 h0
    subst this
    exact ⟨none, 0, rfl, fun k hk => by simp at hk, fun _ => rfl, Nat.le_refl _, fun a h => by cases h⟩
  · refine ⟨some ⟨g, 0, none⟩, cap, rfl, ?_, by simp, hn, fun a h => by cases h; exact ⟨hb, rfl⟩⟩
    intro k hk
    refine ⟨g, 0, rfl, ?_⟩
    have := World.ownsRow.cells h (g := g) rfl k (.string (str l[k])) (by simp [hk, encStr, str])
    rwa [Addr.add_lit] at this
theorem strs_but {w w' : World} {A : Option Addr} {r B : Nat} {l : List Tx} (h : Strs w A l) (hA : ∀ a, A = some a → B ≤ a.block) (hr : r < B) (hg : w.grownBy w' (some r)) : Strs w' A l := by
  intro k hk
  obtain ⟨b, o', e, hc⟩ := h k hk
  have h1 := hA _ e
  refine ⟨b, o', e, ?_⟩
  have hlt : b < w.heap.size := World.block_lt_of_cell? w _ hc
  have hb : w'.heap[b]? = w.heap[b]? := hg.block b hlt (fun e => by injection e with e; simp at h1; omega)
  rw [← hc]
  exact World.cell?_of_block hb

theorem n64_put (l : List W64) (k n : Nat) (x : W64) (h : k = l.length) (hk : k < n) : (n64s (l ++ List.replicate (n - k) 0)).set k (.int .u64 (x.toNat : Int)) = n64s ((l ++ [x]) ++ List.replicate (n - (k + 1)) 0) := by
  subst h
  rw [n64s_set, List.set_append_right _ _ (Nat.le_refl _), Nat.sub_self, show n - l.length = (n - (l.length + 1)) + 1 by omega, List.replicate_succ]
  simp
set_option maxRecDepth 100000 in
set_option maxHeartbeats 2000000 in
theorem find_any (b nn : Nat) (D : DataW Unit) (mm : Tx → Option Nat) (x : Tx) (v : Nat) (w : World) (hown : w.ownsMap Tryd.prog 9 (plainElem (H := Unit) Tryd.prog 43) b nn D) (hms : MapS D mm) (hx : x.length ≤ 1024) (hv : mm x = some v) (hbox : w.cell? ⟨b + 1, 0, none⟩ = some (.map (some b))) :
    Calls Tryd.prog 96 #[.string (str x), .pointer (some ⟨b + 1, 0, none⟩)] w fun e w' => e = .returned (.int .u64 (v : Int)) ∧ w = w' := by
  have hkey := keyS x hx
  have HAT := Lib.hid (hms.at_ hv (.lit (.int .u64 0)))
  have HOWN := Lib.hid hown
  have HKEY := Lib.hid hkey
  generalize str x = sx at *
  clear hown hms hkey hv hx
  go_enter Tryd.func96, Tryd.ntmps96
  go_wp2_with (at_lookup; refine wpList_lookup_own_int _ rfl _ _ 124 rfl 9 43 .u64 keyedS Tryd.underlying124 Tryd.underlying43 (zeroU _) b nn D rfl HOWN.out (.string sx) (.string x) rfl HKEY.out ?_; intro c hat _; have hcv : c = (v : Int) := (by rw [HAT.out] at hat; injection hat with hat; injection hat with _ hat; exact hat.symm); rw [hcv]; clear hat hcv)
  go_ret
  exact ⟨rfl, rfl⟩
/-- What split hands back. -/
def SplitR (W0 : World) (l : List Tx) (e : Ending) (W' : World) : Prop := ∃ AR cR N, e = .returned (.tuple #[.slice AR (riseL l).length cR, .slice (some ⟨N, 0, none⟩) l.length l.length]) ∧ Strs W' AR (riseL l) ∧ (riseL l).length ≤ cR ∧ Num W' (some ⟨N, 0, none⟩) (l.map (plW (riseL l))) ∧ Below W0.heap.size W0 W'

set_option maxRecDepth 100000 in
set_option maxHeartbeats 8000000 in
theorem split_any (A : Option Addr) (cap : Nat) (l : List Tx) (W : World) (hl : Strs W A l) (hr : rightT l) :
    Calls Tryd.prog 66 #[.slice A l.length cap] W (SplitR W l) := by
  have HL := Lib.hid hl
  have HR := Lib.hid hr
  obtain ⟨n, hln⟩ : ∃ n, l.length = n := ⟨_, rfl⟩
  have HLN := Lib.hid hln
  have hn96 : n ≤ 4096 := by rw [← hln]; exact hr.1
  rw [hln]
  obtain ⟨b, hb⟩ : ∃ b, W.heap.size = b := ⟨_, rfl⟩
  obtain ⟨W1, hW1⟩ : ∃ x, x = (W.alloc (Obj.map #[] 0)).alloc (Obj.cells #[Value.map (some W.heap.size)] 124) := ⟨_, rfl⟩
  have HM0 : Hid (W1.ownsMap Tryd.prog 9 (plainElem (H := Unit) Tryd.prog 43) b 0 (.map [] : DataW Unit)) := by rw [hW1, ← hb]; exact (World.ownsMap_made W Tryd.prog 9 (plainElem (H := Unit) Tryd.prog 43)).alloc _
  have HX0 : Hid (Blk W1 (b + 1) 124 [.map (some b)]) := by
    rw [hW1, ← hb]
    have := Blk.born (W.alloc (Obj.map #[] 0)) 124 [Value.map (some W.heap.size)]
    have e : (W.alloc (Obj.map #[] 0)).heap.size = W.heap.size + 1 := by simp
    rwa [e] at this
  have HE0 : Hid (Below b W W1) := by rw [hW1, ← hb]; exact ((Below.refl _ _).alloc (Nat.le_refl _) _).alloc (by simp) _
  have HW1 := Lib.hid hW1
  have HBB := Lib.hid hb
  clear hl hr hln hb hW1
  have hmm := @run_makeMap Tryd.prog
  go_enter Tryd.func66, Tryd.ntmps66
  go_wp2
  rw [← HW1.out]
  clear hmm
  rw [HBB.out]
  go_loopw [17] (fun i wr => ∃ k : Nat, k ≤ n ∧ i = .int .i64 k ∧ (∃ D : DataW Unit, wr.ownsMap Tryd.prog 9 (plainElem (H := Unit) Tryd.prog 43) b k D ∧ MapS D (fun y => if y ∈ l.take k then some 0 else none)) ∧ Blk wr (b + 1) 124 [.map (some b)] ∧ Below b W wr) (fun i _ => n - (intOf i).toNat)
  case atStart => exact ⟨0, by omega, rfl, ⟨_, HM0.out, MapS.nil.ext fun x => by simp⟩, HX0.out, HE0.out⟩
  case round =>
    obtain ⟨k, hk, rfl, ⟨D, hown, hms⟩, hbox, hbel⟩ := hrel
    have HBEL := Lib.hid hbel
    have HOWN := Lib.hid hown
    have HMS := Lib.hid hms
    have HBOX := Lib.hid hbox
    by_cases hlt : k < n
    · have hk1 : k < l.length := by rw [HLN.out]; exact hlt
      obtain ⟨bx, ox, rfl, hca⟩ := HL.out k hk1
      have hcell := cell_lo (HBB.out ▸ hbel : Below W.heap.size W wr) hca
      have hcm : wr.cell? ⟨b + 1, 0, none⟩ = some (.map (some b)) := (hbox.at_ 0).trans rfl
      have hxl := HR.out.2 _ (List.getElem_mem hk1)
      have hkey := keyS l[k] hxl
      have hput := hms.put l[k] 0
      have HPUT : Hid (MapS (D.put (.string l[k]) (.lit (.int .u64 0))) (fun y => if y ∈ l.take (k + 1) then some 0 else none)) := hput.ext fun y => by
        simp only [List.take_succ_eq_append_getElem hk1, List.mem_append, List.mem_singleton]
        by_cases h1 : y = l[k]
        · rw [if_pos h1, if_pos (.inr h1)]
        · rw [if_neg h1]
          by_cases h2 : y ∈ l.take k
          · rw [if_pos h2, if_pos (.inl h2)]
          · rw [if_neg h2, if_neg (fun h => h.elim h2 h1)]
      generalize str l[k] = sx at hcell hkey
      generalize l[k] = x at hkey HPUT
      have HKEY := Lib.hid hkey
      have HK : Hid (k < n) := hlt
      clear hbel hown hms hbox hca hk1 hxl hkey hput
      go_wp2_with (at_mapUpdate; refine wpList_mapUpdate_own _ rfl _ _ _ 124 rfl 9 43 keyedS Tryd.underlying124 (plainElem (H := Unit) Tryd.prog 43) b k D rfl HOWN.out (by unfold maxLen; omega) (.string sx) (.int .u64 0) (.string x) rfl rfl HKEY.out (.lit (.int .u64 0)) [] (rdU_mk 0 (by omega)) ?_; intro w6 hown6 hgr6; have O6 := Lib.hid hown6; have X6 := Lib.hid (blk_grown hgr6 HBOX.out (by intro e; injection e with e; omega)); have E6 := Lib.hid (below_grown HBEL.out hgr6 (by have := HBEL.out.size; have := HBB.out; omega) (Nat.le_refl b)); clear hown6 hgr6)
      go_roundw
      case rel => exact ⟨k + 1, HK.out, by go_num, ⟨_, O6.out, HPUT.out⟩, X6.out, E6.out⟩
      case measure => simp [intOf]; have := HK.out; omega
    · obtain rfl : k = n := by omega
      have hms2 : MapS D (fun y => if y ∈ l then some 0 else none) := hms.ext fun y => by rw [List.take_of_length_le (by rw [HLN.out]; exact Nat.le_refl _)]
      have hsz : Maps.size D ≤ k := hown.size_le
      have hnd := hms2.nodup (hown.tidy keyedS)
      have hmem : ∀ y, y ∈ strKeys D ↔ y ∈ l := fun y => by
        rw [hms2.keys y]
        by_cases h : y ∈ l
        · rw [if_pos h]; exact ⟨fun _ => h, fun _ => ⟨0, rfl⟩⟩
        · rw [if_neg h]; exact ⟨fun ⟨v, hv⟩ => (by cases hv), fun h' => absurd h' h⟩
      have HSORT : Hid (∀ ss : List Tx, ss.Perm (strKeys D) → ss.mergeSort (fun x y => decide (x ≤ y)) = riseL l ∧ ss.length = (riseL l).length) := fun ss hp => by
        have e := sort_rise (l := l) (hp.nodup_iff.2 hnd) (fun y => by rw [hp.mem_iff]; exact hmem y)
        exact ⟨e, by rw [← e, List.length_mergeSort]⟩
      have hcm : wr.cell? ⟨b + 1, 0, none⟩ = some (.map (some b)) := (hbox.at_ 0).trans rfl
      have HKS := Lib.hid (callsIn_wide.1 (Tryd.maps_Keys_95 (some b) wr))
      have HSO := Lib.hid (callsIn_wide.1 (Tryd.slices_Sorted_keys_94_95 b k D (plainElem (H := Unit) Tryd.prog 43) wr hown (by unfold maxLen; omega) (by omega)))
      obtain ⟨R, hR⟩ : ∃ R, riseL l = R := ⟨_, rfl⟩
      rw [hR] at HSORT
      have HMS2 := Lib.hid hms2
      clear hbel hms hbox hown hsz hnd hmem hms2
      go_wp2_with (first | (go_at_call 95; refine HKS.out.mono ?_; rintro e w1 ⟨rfl, rfl⟩) | (go_at_call 94; refine HSO.out.mono ?_; rintro e w2 ⟨v2, ss, rfl, hS, hrow, _, hb2⟩; obtain ⟨e1, e2⟩ := HSORT.out ss hS; rw [e1, e2] at hrow; have hrow2 : OwnS w2 (wr.alloc (.cells #[.map (some b)] 124)).heap.size v2 R := hrow; obtain ⟨AR, cR, rfl, hSR, hnR, hcR, hblR⟩ := hrow2.form; have HSR := Lib.hid hSR; have HNR := Lib.hid hnR; have HCR := Lib.hid hcR; have HBLR := Lib.hid hblR; have HB2 := Lib.hid hb2; clear hS hrow hb2 e1 e2 hrow2 hSR hnR hcR hblR))
      have E2 : Hid (Below b W w2) := ((HBEL.out.alloc (by have := HBEL.out.size; have := HBB.out; omega) _).trans (HB2.out.mono (by have h1 := HBEL.out.size; have h2 := HBB.out; simp; omega)))
      have HW12 : Hid (Below wr.heap.size wr w2) := ((Below.refl wr.heap.size wr).alloc (Nat.le_refl _) _).trans (HB2.out.mono (by simp))
      have M2 : Hid (w2.ownsMap Tryd.prog 9 (plainElem (H := Unit) Tryd.prog 43) b k D) := map_below HOWN.out HW12.out
      have X2 : Hid (Blk w2 (b + 1) 124 [.map (some b)]) := HBOX.out.below HW12.out (lt_of_block HBOX.out)
      have HAR : Hid (∀ a, AR = some a → b + 1 ≤ a.block) := fun a ha => by
        have h1 := (HBLR.out a ha).1
        have h2 := HBEL.out.size
        have h3 := HBB.out
        simp at h1
        omega
      have hRl : R.length ≤ 4096 := by rw [← hR]; exact Nat.le_trans (rise_len l) HR.out.1
      have HRR : Hid (Rise R) := by show Rise R; rw [← hR]; exact rise_rise l
      have HRM : Hid (∀ y, y ∈ R ↔ y ∈ l) := fun y => by rw [← hR]; exact rise_mem l y
      obtain ⟨m, hm⟩ : ∃ m, R.length = m := ⟨_, rfl⟩
      have HMM := Lib.hid hm
      rw [hm] at hRl HCR ⊢
      obtain ⟨mj, hmj⟩ : ∃ mj : Nat → Tx → Option Nat, mj = fun j y => if y ∈ R.take j then some (plc R y) else if y ∈ l then some 0 else none := ⟨_, rfl⟩
      have HMJ := Lib.hid hmj
      have HM0' : Hid (MapS D (mj 0)) := HMS2.out.ext fun y => by rw [hmj]; simp
      have HREQ : Hid (SplitR W l = fun e W' => ∃ AR cR N, e = .returned (.tuple #[.slice AR R.length cR, .slice (some ⟨N, 0, none⟩) l.length l.length]) ∧ Strs W' AR R ∧ R.length ≤ cR ∧ Num W' (some ⟨N, 0, none⟩) (l.map (plW R)) ∧ Below W.heap.size W W') := by show _ = _; rw [← hR]; rfl
      clear hR hm hmj HM0 HX0 HE0 HW1 HOWN HBOX HMS HKS HSO HSORT HW12
      go_loopw [29] (fun i wq => ∃ j : Nat, j ≤ m ∧ i = .int .i64 j ∧ (∃ D : DataW Unit, wq.ownsMap Tryd.prog 9 (plainElem (H := Unit) Tryd.prog 43) b (k + j) D ∧ MapS D (mj j)) ∧ Blk wq (b + 1) 124 [.map (some b)] ∧ Below b W wq ∧ Strs wq AR R) (fun i _ => m - (intOf i).toNat)
      case atStart => exact ⟨0, by omega, rfl, ⟨_, M2.out, HM0'.out⟩, X2.out, E2.out, HSR.out⟩
      case round =>
        obtain ⟨j, hj, rfl, ⟨D', hown, hms⟩, hbox, hbel, hsr⟩ := hrel
        have HBEL3 := Lib.hid hbel
        have HOWN3 := Lib.hid hown
        have HMS3 := Lib.hid hms
        have HBOX3 := Lib.hid hbox
        have HSR3 := Lib.hid hsr
        by_cases hlt : j < m
        · have hk1 : j < R.length := by rw [HMM.out]; exact hlt
          obtain ⟨bx, ox, rfl, hca⟩ := hsr j hk1
          have hcm : wr.cell? ⟨b + 1, 0, none⟩ = some (.map (some b)) := (hbox.at_ 0).trans rfl
          have hxl : (R[j]).length ≤ 1024 := HR.out.2 _ ((HRM.out _).1 (List.getElem_mem hk1))
          have hkey := keyS R[j] hxl
          have hput := hms.put R[j] j
          have hpl := plc_at HRR.out j hk1
          have HPUT : Hid (MapS (D'.put (.string R[j]) (.lit (.int .u64 (j : Nat)))) (mj (j + 1))) := hput.ext fun y => by
            rw [HMJ.out]
            simp only [List.take_succ_eq_append_getElem hk1, List.mem_append, List.mem_singleton]
            by_cases h1 : y = R[j]
            · rw [if_pos h1, if_pos (.inr h1), h1, hpl]
            · rw [if_neg h1]
              by_cases h2 : y ∈ R.take j
              · rw [if_pos h2, if_pos (.inl h2)]
              · have hn : ¬ (y ∈ R.take j ∨ y = R[j]) := fun h => h.elim h2 h1
                rw [if_neg h2, if_neg hn]
          generalize str R[j] = sx at hca hkey
          generalize R[j] = x at hkey HPUT
          have HKEY := Lib.hid hkey
          have HK : Hid (j < m) := hlt
          have hcv : IntKind.u64.wrap (j : Int) = (j : Int) := by rw [IntKind.wrap_u64]; omega
          have hb1 : b + 1 ≤ bx := HAR.out _ rfl
          clear hbel hown hms hbox hsr hk1 hxl hkey hput hpl
          go_wp2_with (at_mapUpdate; refine wpList_mapUpdate_own _ rfl _ _ _ 124 rfl 9 43 keyedS Tryd.underlying124 (plainElem (H := Unit) Tryd.prog 43) b (k + j) D' rfl HOWN3.out (by unfold maxLen; omega) (.string sx) (.int .u64 (j : Int)) (.string x) rfl rfl HKEY.out (.lit (.int .u64 (j : Nat))) [] (rdU_mk j (by omega)) ?_; intro w6 hown6 hgr6; have O6 := Lib.hid hown6; have X6 := Lib.hid (blk_grown hgr6 HBOX3.out (by intro e; injection e with e; omega)); have E6 := Lib.hid (below_grown HBEL3.out hgr6 (by have := HBEL3.out.size; have := HBB.out; omega) (Nat.le_refl b)); have S6 := Lib.hid (strs_grown HSR3.out hgr6 (by omega)); clear hown6 hgr6)
          go_roundw
          case rel => exact ⟨j + 1, HK.out, by go_num, ⟨_, O6.out, HPUT.out⟩, X6.out, E6.out, S6.out⟩
          case measure => simp [intOf]; have := HK.out; omega
        · obtain rfl : j = m := by omega
          clear hbel hown hms hbox hsr
          go_wp2_with (refine mk_pl22 rfl _ _ rfl k rfl rfl (by omega) ?_)
          generalize wr = wm at *
          obtain ⟨N, hN⟩ : ∃ N, wm.heap.size = N := ⟨_, rfl⟩
          obtain ⟨W3, hW3⟩ : ∃ x, x = wm.alloc (.cells (n64s (List.replicate k 0#64)).toArray 43) := ⟨_, rfl⟩
          have HBK : Hid (Blk W3 N 43 (n64s ((l.take 0).map (plW R) ++ List.replicate (k - 0) 0))) := by rw [hW3, ← hN]; exact Blk.born wm _ _
          have HE3 : Hid (Below N wm W3) := by rw [hW3, ← hN]; exact (Below.refl _ _).alloc (Nat.le_refl _) _
          have HNN := Lib.hid hN
          have HNB : Hid (b + 1 < N) := by show _ < _; rw [← hN]; exact lt_of_block HBOX3.out
          rw [← hW3]
          clear hN hW3
          rw [HNN.out]
          go_loopw [45] (fun i wq => ∃ t : Nat, t ≤ k ∧ i = .int .i64 t ∧ Blk wq N 43 (n64s ((l.take t).map (plW R) ++ List.replicate (k - t) 0)) ∧ Below N wm wq) (fun i _ => k - (intOf i).toNat)
          case atStart => exact ⟨0, by omega, rfl, HBK.out, HE3.out⟩
          case round =>
            obtain ⟨t, ht, rfl, hblk, hbelq⟩ := hrel
            have HBELQ := Lib.hid hbelq
            have hwq : Below wm.heap.size wm wr := by rw [HNN.out]; exact hbelq
            have hw0q := HBEL3.out.trans (hbelq.mono (by have := HNB.out; omega))
            have HW0Q := Lib.hid hw0q
            by_cases hlt : t < k
            · have hk1 : t < l.length := by rw [HLN.out]; exact hlt
              obtain ⟨bx, ox, rfl, hca⟩ := HL.out t hk1
              have hcell := cell_lo (HBB.out ▸ hw0q : Below W.heap.size W wr) hca
              have hxl := HR.out.2 _ (List.getElem_mem hk1)
              have hxR : l[t] ∈ R := (HRM.out _).2 (List.getElem_mem hk1)
              have hmv : mj j l[t] = some (plc R l[t]) := by
                rw [HMJ.out]
                simp only
                rw [List.take_of_length_le (by rw [HMM.out]; exact Nat.le_refl _), if_pos hxR]
              have hbx : wr.cell? ⟨b + 1, 0, none⟩ = some (.map (some b)) := cell_lo hwq ((HBOX3.out.at_ 0).trans rfl)
              have hfind := find_any b (k + j) D' (mj j) l[t] (plc R l[t]) wr (map_below HOWN3.out hwq) HMS3.out hxl hmv hbx
              have hst : (l.take (t + 1)).map (plW R) = (l.take t).map (plW R) ++ [plW R l[t]] := by
                rw [List.take_succ_eq_append_getElem hk1, List.map_append]; rfl
              have hpn : (plc R l[t] : Int) = ((plW R l[t]).toNat : Int) := by
                have := plc_le R l[t]
                have := HMM.out
                unfold plW
                rw [BitVec.toNat_ofNat]
                omega
              rw [hpn] at hfind
              have hkd : t = ((l.take t).map (plW R)).length := by rw [List.length_map, List.length_take, HLN.out]; omega
              have hkl : t < (n64s ((l.take t).map (plW R) ++ List.replicate (k - t) 0)).length := by rw [n64s_len, List.length_append, List.length_replicate, ← hkd]; omega
              have hcell2 := hblk.at_ t
              rw [List.getElem?_eq_getElem hkl] at hcell2
              have hfr := hblk.free t
              generalize (n64s ((l.take t).map (plW R) ++ List.replicate (k - t) 0))[t] = old at hcell2
              have hput := n64_put ((l.take t).map (plW R)) t k (plW R l[t]) hkd hlt
              rw [← hst] at hput
              generalize str l[t] = sx at hcell hfind
              generalize plW R l[t] = pw at hfind hput
              have hnew : Blk (wr.setCell ⟨N, t, none⟩ (.int .u64 (pw.toNat : Int))) N 43 (n64s ((l.take (t + 1)).map (plW R) ++ List.replicate (k - (t + 1)) 0)) := by rw [← hput]; exact hblk.store t _
              have HNEW := Lib.hid hnew
              have HF := Lib.hid hfind
              have HK : Hid (t < k) := hlt
              clear hblk hbelq hwq hw0q hca hk1 hxl hxR hmv hbx hfind hst hpn hkd hkl hput hnew
              go_wp2_with (go_at_call 96; refine HF.out.mono ?_; rintro e w6 ⟨rfl, rfl⟩)
              go_roundw
              case rel => exact ⟨t + 1, HK.out, by go_num, HNEW.out, HBELQ.out.setCell (by simp) _⟩
              case measure => simp [intOf]; have := HK.out; omega
            · obtain rfl : t = k := by omega
              have hnum : Num wr (some ⟨N, 0, none⟩) (l.map (plW R)) := by
                have hb2 := hblk
                rw [Nat.sub_self, List.replicate_zero, List.append_nil, List.take_of_length_le (by rw [HLN.out]; exact Nat.le_refl _)] at hb2
                intro i hi
                refine ⟨N, 0, rfl, ?_⟩
                rw [Nat.zero_add, hb2.at_]
                simp only [List.length_map] at hi
                simp [n64s, hi]
              have HNUM := Lib.hid hnum
              have HSQ := Lib.hid (HSR3.out.keep hwq)
              clear hblk hbelq hwq hw0q hnum
              go_wp2
              go_ret2
              rw [HREQ.out]
              exact ⟨AR, cR, N, by rw [HMM.out, HLN.out]; rfl, HSQ.out, by rw [HMM.out]; exact HCR.out, HNUM.out, by rw [HBB.out]; exact HW0Q.out⟩
end Go.Proofs.YtfgmdaemcaamiaaDoor

/-! dict.Encode. -/
namespace Go.Proofs.YtfgmdaemcaamiaaDoor
open Go.RowKit
set_option linter.unusedVariables false

/-- What encoding hands back: bytes in a row of the call's own. -/
def LaidT (W0 : World) (b : List UInt8) (e : Ending) (W' : World) : Prop := ∃ v, e = .returned (.tuple #[v, .int .i64 0]) ∧ Own W' W0.heap.size v b ∧ Below W0.heap.size W0 W'

set_option maxHeartbeats 2000000 in
theorem tenc_bad (f : Int) (A : Option Addr) (cap : Nat) (l : List Tx) (W : World) (hl : Strs W A l) (hn : l.length ≤ 9223372036854775807) (hs : ∀ x ∈ l, x.length ≤ 9223372036854775807) (h : (¬ f = 0 ∧ ¬ f = 1) ∨ ¬ rightT l) :
    Calls Tryd.prog 41 #[.int .i64 f, .slice A l.length cap] W fun e W' => e = .returned (.tuple #[.slice none 0 0, .int .i64 2]) ∧ Below W.heap.size W W' := by
  have HIS := Lib.hid (islist_any A cap l W hl hn hs)
  have HREF : Hid (Below W.heap.size W W) := Below.refl _ _
  generalize l.length = n at *
  by_cases h0 : f = 0 ∨ f = 1
  · have hr : ¬ rightT l := fun hr' => h.elim (fun ⟨a, b⟩ => h0.elim a b) (fun k => k hr')
    rw [decide_eq_false hr] at HIS
    clear hl hs h
    rcases h0 with rfl | rfl
    all_goals
      go_enter Tryd.func41, Tryd.ntmps41
      go_wp2_with (go_at_call 64; refine HIS.out.mono ?_; rintro e w1 ⟨rfl, hb⟩; have HB := Lib.hid hb; clear hb)
      go_ret2
      exact ⟨rfl, HB.out⟩
  · have h1 : (f != 0) = true := by simp; omega
    have h2 : (f != 1) = true := by simp; omega
    have h3 : (f == 0) = false := by simp; omega
    have h4 : (f == 1) = false := by simp; omega
    clear hl hs h
    go_enter Tryd.func41, Tryd.ntmps41
    go_wp2_with (go_at_call 64; refine HIS.out.mono ?_; rintro e w1 ⟨rfl, hb⟩; have HB := Lib.hid hb; clear hb)
    go_ret2
    exact ⟨rfl, HREF.out⟩
theorem own_byte (w : World) (c : UInt8) : Own (w.alloc (.cells #[Value.int .u8 (c.toNat : Int)] 5)) w.heap.size (.slice (some ⟨w.heap.size, 0, none⟩) 1 1) [c] := by
  refine ⟨rfl, .inr ⟨w.heap.size, 1, #[Value.int .u8 (c.toNat : Int)], rfl, Nat.le_refl _, heap_alloc_new w _, Nat.le_refl _, by unfold maxLen; omega, rfl, rfl⟩⟩
set_option maxHeartbeats 2000000 in
theorem tenc0_any (A : Option Addr) (cap : Nat) (l : List Tx) (W : World) (hl : Strs W A l) (hr : rightT l) :
    Calls Tryd.prog 41 #[.int .i64 0, .slice A l.length cap] W (LaidT W (encT 0 l)) := by
  have his := islist_any A cap l W hl (by have := hr.1; omega) (fun x hx => by have := hr.2 x hx; omega)
  rw [decide_eq_true hr] at his
  have HIS := Lib.hid his
  have HLT := Lib.hid (fun (w1 : World) (h : Below W.heap.size W w1) => laytexts_any (some ⟨w1.heap.size, 0, none⟩) A 1 cap 1 [0] l w1 (w1.alloc (.cells #[Value.int .u8 0] 5)) rfl (own_byte w1 0) ((Below.refl _ _).alloc (Nat.le_refl _) _) (by simp) (hl.keep h) hr)
  have HE : Hid ([0] ++ l.flatMap txt = encT 0 l) := rfl
  generalize l.length = n at *
  clear hl hr his
  go_enter Tryd.func41, Tryd.ntmps41
  go_wp2_with (first | (go_at_call 64; refine HIS.out.mono ?_; rintro e w1 ⟨rfl, hb⟩; have HB := Lib.hid hb; clear hb) | (go_at_call 65; refine (HLT.out w1 HB.out).mono ?_; rintro e w2 ⟨v2, rfl, ho, hb2⟩; rw [HE.out] at ho; have HO := Lib.hid (ho.base HB.out.size); have HB2 := Lib.hid (HB.out.trans (hb2.mono HB.out.size)); clear ho hb2))
  go_ret2
  exact ⟨_, rfl, HO.out, HB2.out⟩

set_option maxRecDepth 100000 in
set_option maxHeartbeats 8000000 in
theorem tenc1_any (A : Option Addr) (cap : Nat) (l : List Tx) (W : World) (hl : Strs W A l) (hr : rightT l) (hT : TabAt W) :
    Calls Tryd.prog 41 #[.int .i64 1, .slice A l.length cap] W (LaidT W (encT 1 l)) := by
  have his := islist_any A cap l W hl (by have := hr.1; omega) (fun x hx => by have := hr.2 x hx; omega)
  rw [decide_eq_true hr] at his
  have HIS := Lib.hid his
  have HSPL := Lib.hid (fun (w1 : World) (h : Below W.heap.size W w1) => split_any A cap l w1 (hl.keep h) hr)
  unfold SplitR at HSPL
  have hrr := rise_right hr
  have hR0 := rise_len l
  obtain ⟨R, hR⟩ : ∃ R, riseL l = R := ⟨_, rfl⟩
  obtain ⟨D, hD⟩ : ∃ D, l.map (plW R) = D := ⟨_, rfl⟩
  have hDl : D.length = l.length := by rw [← hD, List.length_map]
  have hfin : encT 1 l = (([1] ++ num R.length ++ R.flatMap txt) ++ [UInt8.ofNat (widL D)]) ++ pkB (widL D : Int) D := by
    rw [← hD, ← hR]
    show UInt8.ofNat 1 :: (num (riseL l).length ++ (riseL l).flatMap txt ++ packD (l.map (plW (riseL l)))) = _
    unfold packD
    simp
  have htot := encT_len (f := 1) hr
  rw [hfin] at htot ⊢
  rw [hR] at hrr HSPL hR0
  rw [hD] at HSPL
  have HLAY := Lib.hid (fun (Ab AR : Option Addr) (cb cR nb : Nat) (b : List UInt8) (W0 W1 : World) (h1 : b.length = nb) (h2 : Own W1 W0.heap.size (.slice Ab nb cb) b) (h3 : Below W0.heap.size W0 W1) (h4 : b.length ≤ 100) (h5 : Strs W0 AR R) => laytexts_any Ab AR cb cR nb b R W0 W1 h1 h2 h3 h4 h5 hrr)
  have hwl := widL_le D
  have hd96 : D.length ≤ 4096 := by rw [hDl]; exact hr.1
  have HWID := Lib.hid (fun (N : Nat) (w1 : World) (h : Num w1 (some ⟨N, 0, none⟩) D) => width_any (some ⟨N, 0, none⟩) D.length D w1 h (by omega))
  have HPK : Hid (∀ (N : Nat) (w1 : World), Num w1 (some ⟨N, 0, none⟩) D → Below W.heap.size W w1 → Calls Tryd.prog 19 #[.int .i64 (widL D : Int), .slice (some ⟨N, 0, none⟩) D.length D.length] w1 fun e W' => e = .returned (.tuple #[.slice (some ⟨w1.heap.size, 0, none⟩) (pkB (widL D : Int) D).length (pkB (widL D : Int) D).length, .int .i64 0]) ∧ Blk W' w1.heap.size 5 (u8s (pkB (widL D : Int) D)) ∧ Below w1.heap.size w1 W') := fun N w1 h h2 => by
    have hh := pack_good (widL D) (some ⟨N, 0, none⟩) D.length D w1 h hwl hd96 (Nat.le_refl _) (hT.keep h2)
    have e : pkB (widL D : Int) D = packL ((D.length * widL D + 7) / 8) (bitsP (widL D) D) := if_pos (pkE_zero.1 (packE_self hd96))
    rw [e, packL_len]
    exact hh
  have hcv : IntKind.u8.wrap ((widL D : Nat) : Int) = ((UInt8.ofNat (widL D)).toNat : Int) := by rw [IntKind.wrap_u8, UInt8.toNat_ofNat']; omega
  have HNUMB := Lib.hid (fun (w1 : World) => number_any (some ⟨w1.heap.size, 0, none⟩) 1 R.length [1] (w1.alloc (.cells #[Value.int .u8 1] 5)) (byt_one w1 1 _ rfl) (by simp) (by simp) (by have := hrr.1; omega))
  obtain ⟨wc, hwc⟩ : ∃ wc, UInt8.ofNat (widL D) = wc := ⟨_, rfl⟩
  rw [hwc] at hcv htot ⊢
  obtain ⟨pk, hpk⟩ : ∃ pk, pkB (widL D : Int) D = pk := ⟨_, rfl⟩
  rw [hpk] at HPK htot ⊢
  generalize widL D = wd at *
  obtain ⟨b1, hb1⟩ : ∃ x, [1] ++ num R.length = x := ⟨_, rfl⟩
  have hb1l : b1.length ≤ 11 := by rw [← hb1, List.length_append]; have := (num_len R.length).2; simp; omega
  rw [hb1] at htot HNUMB ⊢
  obtain ⟨b2, hb2⟩ : ∃ x, b1 ++ R.flatMap txt = x := ⟨_, rfl⟩
  rw [hb2] at htot ⊢
  obtain ⟨b3, hb3⟩ : ∃ x, b2 ++ [wc] = x := ⟨_, rfl⟩
  rw [hb3] at htot ⊢
  have HTOT : Hid (b2.length + 1 = b3.length ∧ b3.length + pk.length ≤ 5000000) := by
    refine ⟨by rw [← hb3, List.length_append]; rfl, ?_⟩
    rw [List.length_append] at htot
    exact htot
  have HB1L := Lib.hid hb1l
  have HB2 := Lib.hid hb2
  have HB3 := Lib.hid hb3
  have HCV := Lib.hid hcv
  obtain ⟨m, hm⟩ : ∃ x, R.length = x := ⟨_, rfl⟩
  obtain ⟨nd, hnd⟩ : ∃ x, l.length = x := ⟨_, rfl⟩
  rw [hnd] at hDl
  rw [hDl] at HPK HWID
  rw [hm] at HLAY HSPL HNUMB
  rw [hnd] at HSPL HIS ⊢
  obtain ⟨n1, hn1⟩ : ∃ x, b1.length = x := ⟨_, rfl⟩
  obtain ⟨n2, hn2⟩ : ∃ x, b2.length = x := ⟨_, rfl⟩
  obtain ⟨n3, hn3⟩ : ∃ x, b3.length = x := ⟨_, rfl⟩
  obtain ⟨np, hnp⟩ : ∃ x, pk.length = x := ⟨_, rfl⟩
  rw [hnp] at HPK
  have HN1 := Lib.hid hn1
  have HN2 := Lib.hid hn2
  have HN3 := Lib.hid hn3
  have HNP := Lib.hid hnp
  have hm96 : m ≤ 4096 := by rw [← hm]; exact hrr.1
  have hmu : IntKind.u64.wrap (m : Int) = (m : Int) := by rw [IntKind.wrap_u64]; omega
  unfold Made at HNUMB
  clear hl hr hT his hrr hR0 hR hD hDl hfin htot hwl hd96 hcv hwc hpk hb1 hb1l hb2 hb3 hm hnd hn1 hn2 hn3 hnp
  go_enter Tryd.func41, Tryd.ntmps41
  go_wp2_with (first | (go_at_call 64; refine HIS.out.mono ?_; rintro e w1 ⟨rfl, hb⟩; have HB := Lib.hid hb; clear hb) | (go_at_call 66; refine (HSPL.out w1 HB.out).mono ?_; rintro e w2 ⟨AR, cR, N, rfl, hSR, hcR, hnum, hbb⟩; have HSR := Lib.hid hSR; have HNUM := Lib.hid hnum; have E2 := Lib.hid (HB.out.trans (hbb.mono HB.out.size)); clear hSR hcR hnum hbb) | (go_at_call 18; refine (HNUMB.out w2).mono ?_; rintro e w3 ⟨v3, rfl, ho3, hb3⟩; obtain ⟨A3, c3, rfl, _, _, _, _⟩ := ho3.form; rw [HN1.out] at ho3 ⊢; have O3 : Hid (Own w3 w2.heap.size (.slice A3 n1 c3) b1) := ho3.base (by simp); have E3 : Hid (Below w2.heap.size w2 w3) := ((Below.refl w2.heap.size w2).alloc (Nat.le_refl _) _).trans (hb3.mono (by simp)); clear ho3 hb3) | (go_at_call 65; refine (HLAY.out A3 AR c3 cR n1 b1 w2 w3 HN1.out O3.out E3.out (by have := HB1L.out; omega) HSR.out).mono ?_; rintro e w4 ⟨v4, rfl, ho4, hb4⟩; rw [HB2.out] at ho4; obtain ⟨A4, c4, rfl, _, _, _, _⟩ := ho4.form; rw [HN2.out] at ho4 ⊢; have O4 : Hid (Own w4 W.heap.size (.slice A4 n2 c4) b2) := ho4.base E2.out.size; have E4 : Hid (Below W.heap.size W w4) := E2.out.trans (hb4.mono E2.out.size); have NUM4 := Lib.hid (HNUM.out.keep hb4); clear ho4 hb4) | (go_at_call 38; refine (HWID.out N w4 NUM4.out).mono ?_; rintro e w5 ⟨rfl, rfl⟩) | (go_at_call 19; refine (HPK.out N _ NUM4.out E4.out).mono ?_; rintro e w6 ⟨rfl, y6, hb6⟩; obtain ⟨X, hX⟩ : ∃ X, w5.heap.size = X := ⟨_, rfl⟩; have HNX : Hid ((Value.slice A4 n2 c4).ownBlock ≠ some X) := (fun e => by have h1 := (World.ownsRow.lt O4.out X e).2; omega); have O6 := Lib.hid (O4.out.below hb6); have E6 : Hid (Below W.heap.size W w6) := E4.out.trans (hb6.mono E4.out.size); rw [hX] at y6 ⊢; have Y6 := Lib.hid y6; clear y6 hb6 hX) | (refine app_byt W rfl _ _ rfl (.slice A4 n2 c4) b2 rfl (O6.out.alloc _) (E6.out.alloc E6.out.size _) (some ⟨w6.heap.size, 0, none⟩) 1 1 [wc] rfl rfl (byt_one w6 wc _ HCV.out) (by simp) (by have := HTOT.out; simp; omega) ?_; intro v7 w7 hown7 hbel7 hg7; rw [HB3.out] at hown7; have Y7 := Lib.hid (blk_grown hg7.1 (Y6.out.later _) HNX.out); obtain ⟨A7, c7, rfl, _, _, _, _⟩ := hown7.form; rw [HN3.out] at hown7 ⊢; have O7 := Lib.hid hown7; have E7 := Lib.hid hbel7; clear hown7 hbel7 hg7) | (refine app_byt W rfl _ _ rfl (.slice A7 n3 c7) b3 rfl O7.out E7.out (some ⟨X, 0, none⟩) np np pk rfl HNP.out.symm Y7.out.byt (by simp) (by have := HTOT.out; omega) ?_; intro v8 w8 hown8 hbel8 _; have O8 := Lib.hid hown8; have E8 := Lib.hid hbel8; clear hown8 hbel8))
  go_ret2
  exact ⟨_, rfl, O8.out, E8.out⟩
end Go.Proofs.YtfgmdaemcaamiaaDoor

/-! The head 'shown' of dict's laws; DictOnce's walk. -/
namespace Go.Proofs.YtfgmdaemcaamiaaDoor
open Go.RowKit
set_option linter.unusedVariables false

theorem encT_bab : encT 1 [[98], [97], [98]] = [1, 2, 1, 97, 1, 98, 1, 5] := by decide +kernel
theorem strs_blk {W : World} {g : Nat} {t : TypeId} {l : List Tx} (h : Blk W g t (l.map fun x => .string (str x))) : Strs W (some ⟨g, 0, none⟩) l := by
  intro i hi
  refine ⟨g, 0, rfl, ?_⟩
  rw [Nat.zero_add, h.at_]
  simp [hi]
theorem info_str : (Tryd.prog.info? 9).map (fun i => (i.zero, i.size, i.bytes)) = some (some (.string ⟨#[]⟩), 1, 16) := by kernel_rfl
theorem encs_one (l : List Tx) : ∀ u ∈ l.map encStr, u.oneCell' = true := by
  intro u hu
  obtain ⟨c, _, rfl⟩ := List.mem_map.1 hu
  rfl
theorem Strs.nil {w : World} {l : List Tx} (h : Strs w none l) : l = [] := by
  cases l with
  | nil => rfl
  | cons a t => obtain ⟨b, o, e, _⟩ := h 0 (by simp); cases e
theorem Strs.news {w : World} {ad : Addr} {l : List Tx} (h : Strs w (some ad) l) : ∀ j u, (l.map encStr)[j]? = some u → w.cell? (ad.add j) = some u := by
  intro j u hu
  have hj : j < l.length := by
    have := (List.getElem?_eq_some_iff.1 hu).1
    rwa [List.length_map] at this
  obtain ⟨b, o, e, hc⟩ := h j hj
  injection e with e
  subst e
  rw [Addr.add_lit, hc, ← hu]
  simp [hj, encStr, str]
theorem mk_strc {ops : Array Oper} {rest : List Oper} {o : Oper} {a : Act} {Q : Exit → Act → World → Prop} {w : World} (w0 : World) (hgd : o.guard = none) (l c : Operand)
    (hop : o.op = Op.makeSlice 70 l c) (C : Int) (n : Nat) (hl : a.eval l = .int .i64 0) (hc : a.eval c = .int .i64 C) (hC : C = (n : Int)) (hsz : n ≤ 281474976710) (hbel : Below w0.heap.size w0 w)
    (h : ∀ v w', OwnS w' w0.heap.size v [] → Below w0.heap.size w0 w' → wpList Tryd.prog ops Q rest (a.put o.dst v) w') : wpList Tryd.prog ops Q (o :: rest) a w := by
  obtain ⟨i0, hti, hz0, hz1, hz2⟩ := info_parts info_str
  refine wpList_make_own w hgd l c 70 hop w0.heap.size 9 i0 (.string ⟨#[]⟩) 1 Tryd.underlying70 hti hz0 hz1 .i64 .i64 C n hl hc hC (by rw [hz2]; omega) (by unfold maxLen; omega) hbel.size ?_
  intro w' h1 h2
  exact h _ w' h1 (hbel.grown h2 hbel.size (by simp))
theorem app_strs {ops : Array Oper} {rest : List Oper} {o : Oper} {a : Act} {Q : Exit → Act → World → Prop} {w : World} (w0 : World) (hgd : o.guard = none) (s x : Operand)
    (ho : o.op = .call { callee := .builtin .append, args := #[s, x], argTypes := #[70, 70] }) (v : Value) (d : List Tx) (hs : a.eval s = v) (hown : OwnS w w0.heap.size v d) (hbel : Below w0.heap.size w0 w)
    (A : Option Addr) (m c : Nat) (q : List Tx) (hx : a.eval x = .slice A m c) (hm : m = q.length) (hq : Strs w A q) (hn : A = none → c = 0) (hsz : d.length + q.length ≤ 1700000000000)
    (h : ∀ v' w', OwnS w' w0.heap.size v' (d ++ q) → Below w0.heap.size w0 w' → wpList Tryd.prog ops Q rest (a.put o.dst v') w') : wpList Tryd.prog ops Q (o :: rest) a w := by
  obtain ⟨i0, hti, hz0, hz1, hz2⟩ := info_parts info_str
  subst hm
  cases A with
  | none =>
    obtain rfl := hq.nil
    obtain rfl := hn rfl
    refine wpList_append_own_none hgd s x 70 ho w0.heap.size 9 i0 1 Tryd.underlying70 hti v d.length (d.map encStr) hs hown hx (h v w ?_ hbel)
    rw [List.append_nil]; exact hown
  | some ad =>
    refine wpList_append_own w hgd s x 70 ho w0.heap.size 9 i0 (.string ⟨#[]⟩) 1 16 Tryd.underlying70 hti hz0 hz1 hz2 rfl (by decide) v d.length (d.map encStr) hs hown ad q.length c (q.map encStr) hx (by rw [List.length_map]; omega) hq.news (encs_one q) (by unfold maxLen; omega) (by omega) hbel.size ?_
    intro v' w' h1 h2 h5
    refine h v' w' ?_ (hbel.grown h2 hbel.size (fun k hk => (World.ownsRow.lt hown k hk).1))
    show w'.ownsRow w0.heap.size 9 1 v' (d ++ q).length ((d ++ q).map encStr)
    rw [List.length_append, List.map_append]; exact h1
theorem strs_one (w : World) (t : TypeId) (x : Tx) (s : ByteArray) (hs : s = str x) : Strs (w.alloc (.cells #[Value.string s] t)) (some ⟨w.heap.size, 0, none⟩) [x] := by
  subst hs
  exact strs_blk (t := t) (Blk.born w t _)

end Go.Proofs.YtfgmdaemcaamiaaDoor

/-! dict.takeTexts. -/
namespace Go.Proofs.YtfgmdaemcaamiaaDoor
open Go.RowKit
set_option linter.unusedVariables false

theorem takeO_at (p r : List UInt8) (n : Nat) (hn : n < 18446744073709551616) : takeO (p ++ (num n ++ r)) (p.length : Int) = some (n, (num n).length) := by
  unfold takeO
  rw [if_pos ⟨by omega, by simp; omega⟩, Int.toNat_natCast, List.drop_left]
  have h := decF_back 9 0 0 n r (by omega) (by omega) (by rw [room_0]; exact hn)
  have e : 0 + n * 128 ^ 0 = n := by simp
  rw [e, Nat.zero_add] at h
  exact h
theorem textO_at (q r : List UInt8) (t : Tx) (ht : t.length ≤ 1024) : textO (q ++ (txt t ++ r)) (q.length : Int) 1024 = some (t, ((q.length + (txt t).length : Nat) : Int)) := by
  unfold textO txt
  rw [List.append_assoc, takeO_at q (t ++ r) t.length (by omega)]
  simp only
  have hl : (q ++ (num t.length ++ (t ++ r))).length = q.length + (num t.length).length + t.length + r.length := by simp; omega
  rw [if_neg (by rw [hl]; omega)]
  have e3 : ((q.length : Int) + ((num t.length).length : Nat)).toNat = (q ++ num t.length).length := by rw [List.length_append]; omega
  rw [e3, ← List.append_assoc, List.drop_left, List.take_left]
  congr 2
  rw [List.length_append]
  omega
theorem decF_le7 : ∀ (f k m : Nat) (t : List UInt8) (n c : Nat), decF f k m t = some (n, c) → c ≤ k + t.length
  | 0, _, _, _, _, _, h => by simp [decF] at h
  | _ + 1, _, _, [], _, _, h => by simp [decF] at h
  | f + 1, k, m, x :: t, n, c, h => by
    rw [decF] at h
    rw [List.length_cons]
    split at h
    · split at h
      · cases h
      · simp only [Option.some.injEq, Prod.mk.injEq] at h
        omega
    · have := decF_le7 f (k + 1) _ t n c h
      omega
theorem takeO_end7 {l : List UInt8} {at_ : Int} {n c : Nat} (h : takeO l at_ = some (n, c)) : 0 ≤ at_ ∧ at_ + c ≤ l.length := by
  unfold takeO at h
  by_cases hp : 0 ≤ at_ ∧ at_ ≤ l.length
  · rw [if_pos hp] at h
    have := decF_le7 _ _ _ _ _ _ h
    rw [List.length_drop] at this
    omega
  · rw [if_neg hp] at h; cases h
theorem textO_end {l : List UInt8} {at_ p : Int} {t : Tx} (h : textO l at_ 1024 = some (t, p)) : t.length ≤ 1024 ∧ 0 ≤ p ∧ p ≤ l.length := by
  unfold textO at h
  cases ht : takeO l at_ with
  | none => rw [ht] at h; cases h
  | some x =>
    obtain ⟨n, c⟩ := x
    rw [ht] at h
    have he := takeO_end7 ht
    simp only at h
    split at h
    · cases h
    · simp only [Option.some.injEq, Prod.mk.injEq] at h
      obtain ⟨rfl, rfl⟩ := h
      rw [List.length_take]
      omega
/-- Texts lie at a place. -/
def LiesT (p b : List UInt8) (L : List Tx) : Prop := ∃ r, p ++ (L.flatMap txt ++ r) = b
/-- So far as texts were read, they are those of any list that lies there. -/
def TrT (p b : List UInt8) (n : Nat) (d : List Tx) (at_ : Int) : Prop := ∀ L : List Tx, (∀ x ∈ L, x.length ≤ 1024) → L.length = n → LiesT p b L → d = L.take d.length ∧ at_ = ((p ++ d.flatMap txt).length : Int)
theorem trt_0 (p b : List UInt8) (n : Nat) : TrT p b n [] (p.length : Int) := fun L _ _ _ => ⟨rfl, by simp⟩
theorem trt_at {p b : List UInt8} {n : Nat} {d : List Tx} {at_ : Int} (h : TrT p b n d at_) (hk : d.length < n) (L : List Tx) (h64 : ∀ x ∈ L, x.length ≤ 1024) (hl : L.length = n) (hb : LiesT p b L) :
    textO b at_ 1024 = some (L[d.length]'(by omega), at_ + ((txt (L[d.length]'(by omega))).length : Int)) ∧ d ++ [L[d.length]'(by omega)] = L.take (d.length + 1) := by
  obtain ⟨h1, h2⟩ := h L h64 hl hb
  have hkl : d.length < L.length := by omega
  have hsp : L = d ++ (L[d.length] :: L.drop (d.length + 1)) := by
    conv => lhs; rw [← List.take_append_drop d.length L, ← h1, List.drop_eq_getElem_cons hkl]
  have hx := h64 _ (List.getElem_mem hkl)
  refine ⟨?_, by rw [List.take_succ_eq_append_getElem hkl, ← h1]⟩
  obtain ⟨r, hb⟩ := hb
  generalize L[d.length] = x at *
  rw [h2, ← hb, hsp, List.flatMap_append, List.flatMap_cons, List.append_assoc, List.append_assoc, ← List.append_assoc p]
  have := textO_at (p ++ d.flatMap txt) ((L.drop (d.length + 1)).flatMap txt ++ r) x hx
  rw [this]
  congr 2
theorem trt_bad {p b : List UInt8} {n : Nat} {d : List Tx} {at_ : Int} (h : TrT p b n d at_) (hk : d.length < n) (hE : textO b at_ 1024 = none) (L : List Tx) (h64 : ∀ x ∈ L, x.length ≤ 1024) (hl : L.length = n) (hb : LiesT p b L) : False := by
  have := (trt_at h hk L h64 hl hb).1
  rw [hE] at this
  cases this
theorem trt_step {p b : List UInt8} {n : Nat} {d : List Tx} {at_ : Int} (h : TrT p b n d at_) (hk : d.length < n) {t : Tx} {p' : Int} (hE : textO b at_ 1024 = some (t, p')) : TrT p b n (d ++ [t]) p' := fun L h64 hl hb => by
  have hq := trt_at h hk L h64 hl hb
  obtain ⟨h1, h2⟩ := h L h64 hl hb
  obtain ⟨q1, q2⟩ := hq
  rw [hE] at q1
  simp only [Option.some.injEq, Prod.mk.injEq] at q1
  obtain ⟨rfl, rfl⟩ := q1
  refine ⟨by rw [List.length_append]; exact q2, ?_⟩
  rw [h2, List.flatMap_append, List.flatMap_cons, List.flatMap_nil, List.append_nil, ← List.append_assoc, List.length_append (bs := txt _)]
  omega
theorem trt_full {p b : List UInt8} {n : Nat} {d : List Tx} {at_ : Int} (h : TrT p b n d at_) (hk : d.length = n) (L : List Tx) (h64 : ∀ x ∈ L, x.length ≤ 1024) (hl : L.length = n) (hb : LiesT p b L) : d = L ∧ at_ = ((p ++ L.flatMap txt).length : Int) := by
  obtain ⟨h1, h2⟩ := h L h64 hl hb
  have e : d = L := by rwa [List.take_of_length_le (by omega)] at h1
  exact ⟨e, by rw [h2, e]⟩
theorem tt_none (a : Option Addr) (cap nb : Nat) (at_ : Int) (l : List UInt8) (w : World) (hnb : l.length = nb) (hb : Byt w a l) (hn : a = none → cap = 0) (hc : nb ≤ cap) (hm : cap ≤ 9223372036854775807) (hL : nb ≤ 140737488355328) (h : textO l at_ 1024 = none) :
    Calls Tryd.prog 120 #[.slice a nb cap, .int .i64 at_, .int .i64 1024] w fun e w' => e = .returned (.tuple #[.string ⟨#[]⟩, .int .i64 0, .int .i64 20]) ∧ w = w' := by
  subst hnb
  refine (taketext_anyW a cap at_ 1024 l w hb hn hc hm (by omega)).mono ?_
  rintro e w' ⟨rfl, rfl⟩
  refine ⟨?_, rfl⟩
  simp [txS, txP, txE, h, str]
theorem tt_some (a : Option Addr) (cap nb : Nat) (at_ : Int) (l : List UInt8) (w : World) (hnb : l.length = nb) (hb : Byt w a l) (hn : a = none → cap = 0) (hc : nb ≤ cap) (hm : cap ≤ 9223372036854775807) (hL : nb ≤ 140737488355328) {t : Tx} {p : Int} (h : textO l at_ 1024 = some (t, p)) :
    Calls Tryd.prog 120 #[.slice a nb cap, .int .i64 at_, .int .i64 1024] w fun e w' => e = .returned (.tuple #[.string (str t), .int .i64 p, .int .i64 0]) ∧ w = w' := by
  subst hnb
  refine (taketext_anyW a cap at_ 1024 l w hb hn hc hm (by omega)).mono ?_
  rintro e w' ⟨rfl, rfl⟩
  refine ⟨?_, rfl⟩
  simp [txS, txP, txE, h]
def zS (k : Nat) : Array Value := ((List.replicate k ([] : Tx)).map encStr).toArray
theorem made_str (k : Nat) : madeCells (Value.string ⟨#[]⟩).cells k = zS k := by
  unfold zS
  apply Array.ext'
  apply List.ext_getElem
  · simp [madeCells]
  · intro i h1 h2
    have e1 : i % 1 = 0 := Nat.mod_one i
    simp [madeCells, Value.cells, e1, encStr]
theorem mk_strn {ops : Array Oper} {rest : List Oper} {o : Oper} {a : Act} {Q : Exit → Act → World → Prop} {w : World} (hgd : o.guard = none) (l c : Operand)
    (hop : o.op = Op.makeSlice 70 l c) (k : Nat) (hl : a.eval l = .int .i64 (k : Int)) (hc : a.eval c = .int .i64 (k : Int)) (hsz : k ≤ 281474976710)
    (h : wpList Tryd.prog ops Q rest (a.put o.dst (.slice (some ⟨w.heap.size, 0, none⟩) k k)) (w.alloc (.cells (zS k) 9))) : wpList Tryd.prog ops Q (o :: rest) a w := by
  obtain ⟨i0, hti, hz0, hz1, hz2⟩ := info_parts info_str
  have hr := run_make (P := Tryd.prog) w 70 9 i0 (.string ⟨#[]⟩) Tryd.underlying70 hti hz0 .i64 .i64 k k (by omega) (by omega) (by rw [hz2]; omega) (by omega)
  simp only [Int.toNat_natCast] at hr
  rw [hz1, Nat.mul_one, made_str] at hr
  refine wpList_plain hgd fun K hK' => ?_
  unfold Oper.wp
  simp [execOp, hop, hl, hc, hr, Result.andThen]
  exact hK' _ _ h
theorem strs_put (l : List Tx) (k n : Nat) (x : Tx) (h : k = l.length) (hk : k < n) : ((l ++ List.replicate (n - k) ([] : Tx)).map encStr).set k (.string (str x)) = ((l ++ [x]) ++ List.replicate (n - (k + 1)) ([] : Tx)).map encStr := by
  obtain ⟨m, hm⟩ : ∃ m, n - k = m + 1 := ⟨n - k - 1, by omega⟩
  rw [hm, show n - (k + 1) = m by omega, List.replicate_succ, List.map_append, List.map_append, List.map_append, List.set_append_right _ _ (by rw [List.length_map, h]; exact Nat.le_refl _), List.length_map, h, Nat.sub_self, List.append_assoc]
  rfl
theorem strs_bk {W : World} {g : Nat} {t : TypeId} {l : List Tx} (h : Blk W g t (l.map encStr)) : Strs W (some ⟨g, 0, none⟩) l := strs_blk (t := t) h
/-- What takeTexts hands back. -/
def TkT (W0 : World) (p b : List UInt8) (n : Nat) (e : Ending) (W' : World) : Prop := ∃ A c d at_ er, e = .returned (.tuple #[.slice A d.length c, .int .i64 at_, .int .i64 er]) ∧ Strs W' A d ∧ d.length ≤ c ∧ (∀ x ∈ d, x.length ≤ 1024) ∧ Below W0.heap.size W0 W' ∧ (er = 0 → d.length = n ∧ 0 ≤ at_ ∧ at_ ≤ b.length) ∧
  (∀ L : List Tx, (∀ x ∈ L, x.length ≤ 1024) → L.length = n → LiesT p b L → er = 0 ∧ d = L ∧ at_ = ((p ++ L.flatMap txt).length : Int))

set_option maxRecDepth 100000 in
set_option maxHeartbeats 8000000 in
theorem taketexts_any (A : Option Addr) (cap n nb : Nat) (p b : List UInt8) (a0 : Int) (W : World) (hnb : b.length = nb) (hp : a0 = (p.length : Int)) (hb : Byt W A b) (hA : A = none → cap = 0) (hc : nb ≤ cap) (hm : cap ≤ 9223372036854775807) (hL : nb ≤ 140737488355328) (hn : n ≤ 4096) (hpb : 0 ≤ a0 ∧ a0 ≤ nb) :
    Calls Tryd.prog 111 #[.slice A nb cap, .int .i64 a0, .int .i64 (n : Int)] W (TkT W p b n) := by
  have HB := Lib.hid hb
  have HNB := Lib.hid hnb
  have HT0 : Hid (TrT p b n [] a0) := by rw [hp]; exact trt_0 p b n
  obtain ⟨N, hN⟩ : ∃ N, W.heap.size = N := ⟨_, rfl⟩
  obtain ⟨W1, hW1⟩ : ∃ x, x = W.alloc (.cells (zS n) 9) := ⟨_, rfl⟩
  have HBK : Hid (Blk W1 N 9 (([] ++ List.replicate (n - 0) ([] : Tx)).map encStr)) := by rw [hW1, ← hN]; exact Blk.born W _ _
  have HE1 : Hid (Below N W W1) := by rw [hW1, ← hN]; exact (Below.refl _ _).alloc (Nat.le_refl _) _
  have HW1 := Lib.hid hW1
  have HNN := Lib.hid hN
  have HA := Lib.hid hA
  clear hb hN hW1 hA hp hnb
  go_enter Tryd.func111, Tryd.ntmps111
  go_wp2_with (refine mk_strn rfl _ _ rfl n rfl rfl (by omega) ?_)
  rw [← HW1.out, HNN.out]
  go_loopw [1, 16] (fun pv i wr => ∃ (d : List Tx) (at_ : Int), pv = .int .i64 at_ ∧ i = .int .i64 (d.length : Int) ∧ d.length ≤ n ∧ (∀ x ∈ d, x.length ≤ 1024) ∧ (0 ≤ at_ ∧ at_ ≤ nb) ∧ TrT p b n d at_ ∧ Blk wr N 9 ((d ++ List.replicate (n - d.length) ([] : Tx)).map encStr) ∧ Below N W wr) (fun _ i _ => n - (intOf i).toNat)
  case atStart => exact ⟨[], a0, rfl, rfl, by simp, fun y hy => absurd hy (by simp), hpb, HT0.out, HBK.out, HE1.out⟩
  case round =>
    obtain ⟨d, at_, rfl, rfl, hdn, h64, hat, htr, hblk, hbel⟩ := hrel
    obtain ⟨k, hnd⟩ : ∃ k, d.length = k := ⟨_, rfl⟩
    rw [hnd] at hdn hblk ⊢
    have HND := Lib.hid hnd
    have HBEL := Lib.hid hbel
    have HBLK := Lib.hid hblk
    have H64 := Lib.hid h64
    have HTR := Lib.hid htr
    have HAT := Lib.hid hat
    by_cases hlt : k < n
    · have hbw := HB.out.keep (HNN.out ▸ hbel : Below W.heap.size W wr)
      have hkl : k < ((d ++ List.replicate (n - k) ([] : Tx)).map encStr).length := by rw [List.length_map, List.length_append, List.length_replicate, hnd]; omega
      have hcell := hblk.at_ k
      rw [List.getElem?_eq_getElem hkl] at hcell
      have hfr := hblk.free k
      cases hto : textO b at_ 1024 with
      | none =>
        have hq := tt_none A cap nb at_ b wr HNB.out hbw HA.out hc hm hL hto
        have HQ := Lib.hid hq
        have HNO : Hid (∀ L : List Tx, (∀ x ∈ L, x.length ≤ 1024) → L.length = n → LiesT p b L → False) := fun L h1 h2 h3 => trt_bad htr (by rw [hnd]; exact hlt) hto L h1 h2 h3
        generalize ((d ++ List.replicate (n - k) ([] : Tx)).map encStr)[k] = old at hcell
        clear hq hto hbel hblk h64 htr hnd hbw hkl
        go_wp2_with (go_at_call 120; refine HQ.out.mono ?_; rintro e w1 ⟨rfl, rfl⟩)
        go_ret3
        exact ⟨none, 0, [], 0, 20, rfl, fun k hk => absurd hk (by simp), Nat.le_refl _, fun y hy => absurd hy (by simp), by rw [HNN.out]; exact HBEL.out.setCell (by simp) _, fun h => by omega, fun L h1 h2 h3 => (HNO.out L h1 h2 h3).elim⟩
      | some tp =>
        obtain ⟨t, p'⟩ := tp
        have hq := tt_some A cap nb at_ b wr HNB.out hbw HA.out hc hm hL hto
        have hend := textO_end hto
        have htr2 := trt_step htr (by rw [hnd]; exact hlt) hto
        have hput := strs_put d k n t hnd.symm hlt
        have hnew : Blk (wr.setCell ⟨N, k, none⟩ (.string (str t))) N 9 (((d ++ [t]) ++ List.replicate (n - (k + 1)) ([] : Tx)).map encStr) := by rw [← hput]; exact hblk.store k _
        have HQ := Lib.hid hq
        have HTR2 := Lib.hid htr2
        have HNEW := Lib.hid hnew
        have H642 : Hid (∀ x ∈ d ++ [t], x.length ≤ 1024) := fun x hx => by
          rcases List.mem_append.1 hx with h | h
          · exact h64 x h
          · rw [List.mem_singleton.1 h]; exact hend.1
        have HL1 : Hid ((d ++ [t]).length = k + 1) := by show _ = _; rw [List.length_append, hnd]; rfl
        have HEND : Hid (0 ≤ p' ∧ p' ≤ (nb : Int)) := by have := HNB.out; exact ⟨hend.2.1, by omega⟩
        have HK : Hid (k < n) := hlt
        generalize ((d ++ List.replicate (n - k) ([] : Tx)).map encStr)[k] = old at hcell
        obtain ⟨sx, hsx⟩ : ∃ sx, str t = sx := ⟨_, rfl⟩
        rw [hsx] at HQ HNEW
        clear hq hto hbel hblk h64 htr hnd hbw hkl htr2 hput hnew hend hsx
        go_wp2_with (go_at_call 120; refine HQ.out.mono ?_; rintro e w1 ⟨rfl, rfl⟩)
        go_roundw
        case rel => exact ⟨d ++ [t], p', rfl, by rw [HL1.out]; go_num, by rw [HL1.out]; exact HK.out, H642.out, HEND.out, HTR2.out, by rw [HL1.out]; exact HNEW.out, HBEL.out.setCell (by simp) _⟩
        case measure => simp [intOf]; have := HK.out; omega
    · obtain rfl : k = n := by omega
      have HI : Hid (Strs wr (some ⟨N, 0, none⟩) d) := by
        have hb2 := hblk
        rw [Nat.sub_self, List.replicate_zero, List.append_nil] at hb2
        exact strs_bk hb2
      clear hbel hblk h64 htr hnd
      go_wp2
      go_ret3
      exact ⟨some ⟨N, 0, none⟩, k, d, at_, 0, by rw [HND.out]; rfl, HI.out, by rw [HND.out]; exact Nat.le_refl _, H64.out, by rw [HNN.out]; exact HBEL.out, fun _ => ⟨HND.out, HAT.out.1, by have := HAT.out.2; have := HNB.out; omega⟩, fun L h1 h2 h3 => by
        obtain ⟨e1, e2⟩ := trt_full HTR.out HND.out L h1 h2 h3
        exact ⟨rfl, e1, e2⟩⟩
end Go.Proofs.YtfgmdaemcaamiaaDoor

/-! pack.Unpack, whatever it is asked for (the program's alone). -/
namespace Go.Proofs.YtfgmdaemcaamiaaDoor
open Go.RowKit
set_option linter.unusedVariables false

theorem un_prog (n w : Int) (A : Option Addr) (cap : Nat) (b : List UInt8) (W : World) (hb : Byt W A b) (hT : TabAt W) :
    Calls Tryd.prog 57 #[.slice A b.length cap, .int .i64 n, .int .i64 w] W (UnpR W (unV n w b) (unE n w b)) := by
  by_cases hok : unOk n w
  · obtain ⟨h1, h2, h3, h4⟩ := hok
    obtain ⟨v, rfl⟩ : ∃ v : Nat, w = (v : Int) := ⟨w.toNat, by omega⟩
    obtain ⟨m, rfl⟩ : ∃ m : Nat, n = (m : Int) := ⟨n.toNat, by omega⟩
    by_cases hl : b.length = (m * v + 7) / 8
    · exact (unpack_good m v A cap b W hb (by omega) (by omega) hl hT).mono fun e W' h => h.unp (by omega) (by omega) hl
    · have hfit : ¬ unFit (m : Int) (v : Int) b := fun h => hl h.2.1
      rw [show unE (m : Int) (v : Int) b = 10 by unfold unE; rw [if_pos ⟨h1, h2, h3, h4⟩, if_neg hfit], show unV (m : Int) (v : Int) b = [] from if_neg hfit]
      refine (unpack_len m v A cap b W (by omega) (by omega) hl).mono ?_
      rintro e W' ⟨rfl, h2⟩
      exact ⟨_, _, rfl, fun k hk => by simp at hk, h2⟩
  · have hfit : ¬ unFit n w b := fun h => hok h.1
    rw [show unE n w b = 2 from if_neg hok, show unV n w b = [] from if_neg hfit]
    refine (unpack_bad n w A cap b W hok).mono ?_
    rintro e W' ⟨rfl, h2⟩
    exact ⟨_, _, rfl, fun k hk => by simp at hk, h2⟩
end Go.Proofs.YtfgmdaemcaamiaaDoor

/-! dict.read. -/
namespace Go.Proofs.YtfgmdaemcaamiaaDoor
open Go.RowKit
set_option linter.unusedVariables false

/-- The lists of n texts whose encoding is b. -/
def EncofT (f n : Nat) (b : List UInt8) (L : List Tx) : Prop := rightT L ∧ L.length = n ∧ encT f L = b
/-- What reading hands back. -/
def RdQ (W0 : World) (P : List Tx → Prop) (n : Nat) (e : Ending) (W' : World) : Prop := ∃ A c l er, e = .returned (.tuple #[.slice A l.length c, .int .i64 er]) ∧ Strs W' A l ∧ l.length ≤ c ∧ (∀ x ∈ l, x.length ≤ 1024) ∧ Below W0.heap.size W0 W' ∧ (er = 0 → l.length = n) ∧ ∀ L, P L → er = 0 ∧ l = L
theorem RdQ.nul {W0 W : World} {P : List Tx → Prop} {n : Nat} {er : Int} (he : ¬ er = 0) (hb : Below W0.heap.size W0 W) (h : ∀ L, P L → False) : RdQ W0 P n (.returned (.tuple #[.slice none 0 0, .int .i64 er])) W :=
  ⟨none, 0, [], er, rfl, fun k hk => absurd hk (by simp), Nat.le_refl _, fun y hy => absurd hy (by simp), hb, fun h' => (he h').elim, fun L hL => (h L hL).elim⟩
theorem tn7_none (a : Option Addr) (cap nb : Nat) (at_ : Int) (l : List UInt8) (w : World) (hnb : l.length = nb) (hb : Byt w a l) (hc : nb ≤ cap) (hm : cap ≤ 9223372036854775807) (hL : nb ≤ 140737488355328) (h : takeO l at_ = none) :
    Calls Tryd.prog 56 #[.slice a nb cap, .int .i64 at_] w fun e w' => e = .returned (.tuple #[.int .u64 0, .int .i64 0, .int .i64 20]) ∧ w = w' := by
  subst hnb
  refine (take_anyW a cap at_ l w hb hc hm (by omega)).mono ?_
  rintro e w' ⟨rfl, rfl⟩
  obtain ⟨h1, h2, h3⟩ := t_none h
  rw [h1, h2, h3]
  exact ⟨rfl, rfl⟩
theorem tn7_some (a : Option Addr) (cap nb : Nat) (at_ : Int) (l : List UInt8) (w : World) (hnb : l.length = nb) (hb : Byt w a l) (hc : nb ≤ cap) (hm : cap ≤ 9223372036854775807) (hL : nb ≤ 140737488355328) {z c : Nat} (h : takeO l at_ = some (z, c)) :
    Calls Tryd.prog 56 #[.slice a nb cap, .int .i64 at_] w fun e w' => e = .returned (.tuple #[.int .u64 (z : Int), .int .i64 (at_ + c), .int .i64 0]) ∧ w = w' := by
  subst hnb
  refine (take_anyW a cap at_ l w hb hc hm (by omega)).mono ?_
  rintro e w' ⟨rfl, rfl⟩
  obtain ⟨h1, h2, h3⟩ := t_some h
  rw [h1, h2, h3]
  exact ⟨rfl, rfl⟩
theorem Byt.rest7 {w : World} {b o : Nat} {l : List UInt8} (h : Byt w (some ⟨b, o, none⟩) l) (i : Nat) : Byt w (some ⟨b, o + i, none⟩) (l.drop i) := by
  have := Byt.part h i (l.length - i)
  rwa [List.take_of_length_le (by rw [List.length_drop]; exact Nat.le_refl _)] at this
/-- Form 1, read back. -/
theorem enc1_parts {n : Nat} {b : List UInt8} {L : List Tx} (h : EncofT 1 n b L) : takeO b 1 = some ((riseL L).length, (num (riseL L).length).length) ∧ (riseL L).length ≤ n ∧ LiesT (b.take (1 + (num (riseL L).length).length)) b (riseL L) ∧
    ∀ p : Nat, p = (b.take (1 + (num (riseL L).length).length) ++ (riseL L).flatMap txt).length → ∃ h : p < b.length, unE (n : Int) ((b[p]).toNat : Int) (b.drop (p + 1)) = 0 ∧ unV (n : Int) ((b[p]).toNat : Int) (b.drop (p + 1)) = L.map (plW (riseL L)) := by
  obtain ⟨hr, hl, he⟩ := h
  obtain ⟨R, hR⟩ : ∃ R, riseL L = R := ⟨_, rfl⟩
  obtain ⟨D, hD⟩ : ∃ D, L.map (plW R) = D := ⟨_, rfl⟩
  have hRn : R.length ≤ n := by rw [← hR, ← hl]; exact rise_len L
  have hDn : D.length = n := by rw [← hD, List.length_map]; exact hl
  have hn96 : n ≤ 4096 := by rw [← hl]; exact hr.1
  have e0 : b = [1] ++ (num R.length ++ (R.flatMap txt ++ packD D)) := by
    rw [← he, ← hD, ← hR]
    show UInt8.ofNat 1 :: (num (riseL L).length ++ (riseL L).flatMap txt ++ packD (L.map (plW (riseL L)))) = _
    simp
  rw [hR, hD]
  have htk : b.take (1 + (num R.length).length) = [1] ++ num R.length := by
    rw [e0, ← List.append_assoc]
    have : 1 + (num R.length).length = ([1] ++ num R.length).length := by simp; omega
    rw [this, List.take_left]
  refine ⟨?_, hRn, ?_, ?_⟩
  · rw [e0]
    exact takeO_at [1] _ R.length (by omega)
  · refine ⟨packD D, ?_⟩
    rw [htk, e0]
    simp
  · intro p hp
    rw [htk] at hp
    have hb2 : b = ([1] ++ num R.length ++ R.flatMap txt) ++ (UInt8.ofNat (widL D) :: pkB (widL D : Int) D) := by rw [e0]; simp [packD]
    have hlt : p < b.length := by rw [hb2, List.length_append, hp, List.length_cons]; omega
    refine ⟨hlt, ?_⟩
    have hg : b[p]'hlt = UInt8.ofNat (widL D) := by
      have : b[p]? = some (UInt8.ofNat (widL D)) := by rw [hb2, hp, List.getElem?_append_right (Nat.le_refl _)]; simp
      rw [List.getElem?_eq_getElem hlt] at this
      exact Option.some.inj this
    have hd : b.drop (p + 1) = pkB (widL D : Int) D := by
      rw [hb2, hp, ← List.drop_drop, List.drop_left]
      rfl
    have hw : ((UInt8.ofNat (widL D)).toNat : Int) = (widL D : Int) := by have := widL_le D; rw [UInt8.toNat_ofNat']; omega
    rw [hg, hd, hw, ← hDn]
    exact back1 (packE_self (by omega))
theorem back_texts {L R : List Tx} (hR : R = riseL L) (hn : L.length ≤ 4096) : (L.map (plW R)).map (fun s => R.getD s.toNat []) = L := by
  rw [List.map_map]
  conv => rhs; rw [← List.map_id L]
  refine List.map_congr_left fun x hx => ?_
  obtain ⟨h, e⟩ := plc_of (R := R) (by rw [hR]; exact rise_rise L) (x := x) (by rw [hR]; exact (rise_mem L x).2 hx)
  show R.getD (plW R x).toNat [] = x
  unfold plW
  have hl : R.length ≤ L.length := by rw [hR]; exact rise_len L
  rw [BitVec.toNat_ofNat, Nat.mod_eq_of_lt (by omega)]
  rw [List.getD_eq_getElem?_getD, List.getElem?_eq_getElem h, e]
  rfl

set_option maxRecDepth 100000 in
set_option maxHeartbeats 8000000 in
theorem tread1_any (A : Option Addr) (cap n : Nat) (b : List UInt8) (W : World) (hb : Byt W A b) (hA : A = none → cap = 0) (hc : b.length ≤ cap) (hm : cap ≤ 9223372036854775807) (hL : b.length ≤ 140737488355328) (hn : n ≤ 4096) (h0 : 0 < b.length) (hf : b[0] = 1) (hT : TabAt W) :
    Calls Tryd.prog 105 #[.slice A b.length cap, .int .i64 (n : Int)] W (RdQ W (EncofT 1 n b) n) := by
  obtain ⟨bx, ox, rfl, hca⟩ := hb 0 h0
  rw [hf] at hca
  have hca0 : W.cell? ⟨bx, ox, none⟩ = some (.int .u8 1) := hca
  have HREF : Hid (Below W.heap.size W W) := Below.refl _ _
  have hzi : ((b.length : Int) == 0) = false := by rw [beq_eq_false_iff_ne]; omega
  have hgu : IntKind.u64.wrap (n : Int) = (n : Int) := by rw [IntKind.wrap_u64]; omega
  have hparts := fun L (h : EncofT 1 n b L) => enc1_parts h
  cases hto : takeO b 1 with
  | none =>
    have HQ := Lib.hid (tn7_none (some ⟨bx, ox, none⟩) cap b.length 1 b W rfl hb hc hm hL hto)
    have HNO : Hid (∀ L, EncofT 1 n b L → False) := fun L h => by
      have := (hparts L h).1
      rw [hto] at this
      cases this
    clear hb hca hparts hto hT hf hA
    generalize b.length = nb at *
    go_enter Tryd.func105, Tryd.ntmps105
    go_wp2_with (go_at_call 56; refine HQ.out.mono ?_; rintro e w1 ⟨rfl, rfl⟩)
    go_ret2
    exact RdQ.nul (by decide) HREF.out HNO.out
  | some mc =>
    obtain ⟨many, c⟩ := mc
    have HQ := Lib.hid (tn7_some (some ⟨bx, ox, none⟩) cap b.length 1 b W rfl hb hc hm hL hto)
    have hend := takeO_end7 hto
    by_cases hmn : n < many
    · have HNO : Hid (∀ L, EncofT 1 n b L → False) := fun L h => by
        obtain ⟨h1, h2, _⟩ := hparts L h
        rw [hto] at h1
        simp only [Option.some.injEq, Prod.mk.injEq] at h1
        omega
      have hmi : (n : Int) < (many : Int) := by omega
      clear hb hca hparts hto hT hf hA
      generalize b.length = nb at *
      go_enter Tryd.func105, Tryd.ntmps105
      go_wp2_with (go_at_call 56; refine HQ.out.mono ?_; rintro e w1 ⟨rfl, rfl⟩)
      go_ret2
      exact RdQ.nul (by decide) HREF.out HNO.out
    · have hmi : ¬ (n : Int) < (many : Int) := by omega
      have hcvm : IntKind.i64.wrap (many : Int) = (many : Int) := by rw [IntKind.wrap_i64]; omega
      have hpl : (b.take (1 + c)).length = 1 + c := by rw [List.length_take]; omega
      have HTK := Lib.hid (taketexts_any (some ⟨bx, ox, none⟩) cap many b.length (b.take (1 + c)) b (1 + (c : Int)) W rfl (by rw [hpl]; omega) hb hA hc hm hL (by omega) (by omega))
      unfold TkT at HTK
      have HPAR : Hid (∀ L, EncofT 1 n b L → many = (riseL L).length ∧ LiesT (b.take (1 + c)) b (riseL L) ∧ ∀ p : Nat, p = (b.take (1 + c) ++ (riseL L).flatMap txt).length → ∃ h : p < b.length, unE (n : Int) ((b[p]).toNat : Int) (b.drop (p + 1)) = 0 ∧ unV (n : Int) ((b[p]).toNat : Int) (b.drop (p + 1)) = L.map (plW (riseL L))) := fun L h => by
        obtain ⟨h1, h2, h3, h4⟩ := hparts L h
        rw [hto] at h1
        simp only [Option.some.injEq, Prod.mk.injEq] at h1
        obtain ⟨e1, e2⟩ := h1
        rw [← e2] at h3 h4
        exact ⟨e1, h3, h4⟩
      have HR1 : Hid (∀ L, EncofT 1 n b L → rightT (riseL L) ∧ L.length ≤ 4096) := fun L h => ⟨rise_right h.1, h.1.1⟩
      obtain ⟨nb, hnb⟩ : ∃ nb, b.length = nb := ⟨_, rfl⟩
      have HNB := Lib.hid hnb
      have HB := Lib.hid hb
      have HT := Lib.hid hT
      rw [hnb] at HTK HQ hc h0 hzi ⊢
      clear hb hca hparts hto hT hf hA hpl hnb
      go_enter Tryd.func105, Tryd.ntmps105
      go_upto_region 10 with (first | (go_at_call 56; refine HQ.out.mono ?_; rintro e w1 ⟨rfl, rfl⟩) | (go_at_call 111; refine HTK.out.mono ?_; rintro e w2 ⟨A5, c5, d, at_, er1, rfl, hsd, hdc, hd64, hb2, hok, hcomp⟩; obtain ⟨dl, hdl⟩ : ∃ dl, d.length = dl := ⟨_, rfl⟩; have HDL := Lib.hid hdl; rw [hdl] at hdc ⊢; have HWD := Lib.hid hsd; have HDC := Lib.hid hdc; have HD64 := Lib.hid hd64; have E2 := Lib.hid hb2; have HOK := Lib.hid hok; have HCOMP := Lib.hid hcomp; clear hsd hdc hd64 hb2 hok hcomp hdl))
      have HLC : Hid (∀ L, EncofT 1 n b L → er1 = 0 ∧ d = riseL L ∧ at_ = ((b.take (1 + c) ++ (riseL L).flatMap txt).length : Int)) := fun L h => HCOMP.out (riseL L) (HR1.out L h).1.2 (HPAR.out L h).1.symm (HPAR.out L h).2.1
      by_cases her1 : er1 = 0
      · obtain ⟨hdm, hp0, hpb⟩ := HOK.out her1
        obtain ⟨p, rfl⟩ : ∃ p : Nat, at_ = (p : Int) := ⟨at_.toNat, by omega⟩
        by_cases hlt : p < nb
        · subst her1
          have hpl : p < b.length := by rw [HNB.out]; exact hlt
          obtain ⟨bx', ox', e', hcp⟩ := HB.out p hpl
          injection e' with e'
          injection e' with e1 e2
          subst e1 e2
          obtain ⟨w, hw⟩ : ∃ w, b[p] = w := ⟨_, rfl⟩
          rw [hw] at hcp
          have hlr : (b.drop (p + 1)).length = nb - (p + 1) := by rw [List.length_drop, HNB.out]
          have hbr := HB.out.rest7 (p + 1)
          have hwp : IntKind.i64.wrap ((p : Int) + 1) = (p : Int) + 1 := by rw [IntKind.wrap_i64]; have := HNB.out; omega
          have hw256 := w.toNat_lt
          have hcv : IntKind.i64.wrap (w.toNat : Int) = (w.toNat : Int) := by rw [IntKind.wrap_i64]; omega
          have HCP := Lib.hid hcp
          have HUN : Hid (∀ A' c' (W' : World), Below W.heap.size W W' → Byt W A' (b.drop (p + 1)) → Calls Tryd.prog 57 #[.slice A' (nb - (p + 1)) c', .int .i64 (n : Int), .int .i64 (w.toNat : Int)] W' (UnpR W' (unV (n : Int) (w.toNat : Int) (b.drop (p + 1))) (unE (n : Int) (w.toNat : Int) (b.drop (p + 1))))) := fun A' c' W' hW h => by
            have := un_prog (n : Int) (w.toNat : Int) A' c' (b.drop (p + 1)) W' (h.keep hW) (HT.out.keep hW)
            rwa [hlr] at this
          have hAR : ∃ AR, (if cap = p + 1 then (some ⟨bx, ox, none⟩ : Option Addr) else some ⟨bx, ox + (p + 1), none⟩) = AR ∧ Byt W AR (b.drop (p + 1)) := by
            by_cases hcap : cap = p + 1
            · refine ⟨_, if_pos hcap, ?_⟩
              rw [List.drop_of_length_le (by rw [HNB.out]; omega)]
              exact Byt.empty _ _
            · exact ⟨_, if_neg hcap, hbr⟩
          obtain ⟨AR, hAR, hyr⟩ := hAR
          obtain ⟨V, hV⟩ : ∃ V, unV (n : Int) (w.toNat : Int) (b.drop (p + 1)) = V := ⟨_, rfl⟩
          obtain ⟨er, hE⟩ : ∃ er, unE (n : Int) (w.toNat : Int) (b.drop (p + 1)) = er := ⟨_, rfl⟩
          obtain ⟨ln, hln⟩ : ∃ ln, V.length = ln := ⟨_, rfl⟩
          have HYR := Lib.hid hyr
          rw [hV, hE] at HUN
          have HGOOD : Hid (∀ L, EncofT 1 n b L → er = 0 ∧ V = L.map (plW (riseL L)) ∧ d = riseL L) := fun L h => by
            obtain ⟨_, h2, h3⟩ := HLC.out L h
            obtain ⟨_, h5, h6⟩ := (HPAR.out L h).2.2 p (by omega)
            rw [hw, hE] at h5
            rw [hw, hV] at h6
            exact ⟨h5, h6, h2⟩
          have hVn : er = 0 → V.length = n := fun h => by
            have := (back2 (by rw [hE]; exact h)).1
            rw [hV] at this
            omega
          have hps1 : (0 : Int) ≤ (p : Int) + 1 := by omega
          have hps2 : (p : Int) + 1 ≤ (nb : Int) := by omega
          have hli : (p : Int) < (nb : Int) := by omega
          have HLN := Lib.hid hln
          have hdlm : dl = many := by rw [← HDL.out]; exact hdm
          clear hcp hlr hw hbr hyr hV hE hln hpl hlt hdm hp0 hpb HTK HQ
          go_wp2
          refine wpS_start (fun W' => Below W.heap.size W W') 16 (by kernel_rfl) rfl (fun RG HR => ?_)
          refine wpS_take HR (i := 0) (v := .slice (some ⟨bx, ox, none⟩) nb cap) rfl (by decide +kernel) (by decide +kernel) (by decide +kernel) (fun _ _ _ h => h) (by rfl) (E2.out.drew) (fun W' hW => by go_simp) ?_
          go_simp
          refine wpS_take HR (i := 1) (v := .int .i64 (p : Int)) rfl (by decide +kernel) (by decide +kernel) (by decide +kernel) (fun _ _ _ h => h) (by rfl) (E2.out.drew) (fun W' hW => by go_simp) ?_
          go_simp
          refine wpS_take HR (i := 2) (v := .int .i64 ((p : Int) + 1)) rfl (by decide +kernel) (by decide +kernel) (by decide +kernel) (fun _ _ _ h => h) (by rfl) (E2.out.drew) (fun W' hW => by go_simp) ?_
          go_simp
          refine wpS_take HR (i := 3) (v := .slice AR (nb - (p + 1)) (cap - (p + 1))) rfl (by decide +kernel) (by decide +kernel) (by decide +kernel) (fun _ _ _ h => h) (by rfl) (E2.out.drew) (fun W' hW => by go_simp) ?_
          go_simp
          refine wpS_take HR (i := 4) (v := .int .i64 (n : Int)) rfl (by decide +kernel) (by decide +kernel) (by decide +kernel) (fun _ _ _ h => h) (by rfl) (E2.out.drew) (fun W' hW => by go_simp) ?_
          go_simp
          refine wpS_take HR (i := 5) (v := .slice (some ⟨bx, ox, none⟩) nb cap) rfl (by decide +kernel) (by decide +kernel) (by decide +kernel) (fun _ _ _ h => h) (by rfl) (E2.out.drew) (fun W' hW => by go_simp) ?_
          go_simp
          refine wpS_take HR (i := 6) (v := .int .i64 (p : Int)) rfl (by decide +kernel) (by decide +kernel) (by decide +kernel) (fun _ _ _ h => h) (by rfl) (E2.out.drew) (fun W' hW => by go_simp) ?_
          go_simp
          refine wpS_take HR (i := 7) (v := .pointer (some ⟨bx, ox + p, none⟩)) rfl (by decide +kernel) (by decide +kernel) (by decide +kernel) (fun _ _ _ h => h) (by rfl) (E2.out.drew) (fun W' hW => by go_simp) ?_
          go_simp
          refine wpS_take HR (i := 8) (v := .int .u8 (w.toNat : Int)) rfl (by decide +kernel) (by decide +kernel) (by decide +kernel) (fun _ _ _ h => h) (by rfl) (E2.out.drew) (fun W' hW => by have hc := cell_lo hW HCP.out; go_simp) ?_
          go_simp
          refine wpS_take HR (i := 9) (v := .int .i64 (w.toNat : Int)) rfl (by decide +kernel) (by decide +kernel) (by decide +kernel) (fun _ _ _ h => h) (by rfl) (E2.out.drew) (fun W' hW => by go_simp) ?_
          go_simp
          refine wpS_step1 HR (i := 10) (by decide +kernel) ?_
          refine stepS_call HR rfl (by rfl) (by go_simp; exact ⟨rfl, rfl⟩) ?_
          refine (HUN.out _ _ _ E2.out.drew HYR.out).mono ?_
          rintro e w3 ⟨A8, c8, rfl, hnum, hb3⟩
          rw [HLN.out]
          have HNUM := Lib.hid hnum
          have E3 := Lib.hid (E2.out.drew.trans (hb3.mono E2.out.drew.size) : Below W.heap.size W w3)
          have HWD3 := Lib.hid (HWD.out.keep (w := w2.drew) hb3)
          clear hnum hb3
          refine ⟨_, rfl, E3.out, ?_⟩
          go_simp
          refine wpS_take HR (i := 11) (v := .tuple #[.slice A8 ln c8, .int .i64 er]) rfl (by decide +kernel) (by decide +kernel) (by decide +kernel) (fun _ _ _ h => h) (by rfl) (E3.out) (fun W' hW => by go_simp) ?_
          go_simp
          refine wpS_take HR (i := 12) (v := .slice A8 ln c8) rfl (by decide +kernel) (by decide +kernel) (by decide +kernel) (fun _ _ _ h => h) (by rfl) (E3.out) (fun W' hW => by go_simp) ?_
          go_simp
          refine wpS_take HR (i := 13) (v := .int .i64 er) rfl (by decide +kernel) (by decide +kernel) (by decide +kernel) (fun _ _ _ h => h) (by rfl) (E3.out) (fun W' hW => by go_simp) ?_
          go_simp
          refine wpS_take HR (i := 14) (v := .slice A8 ln c8) rfl (by decide +kernel) (by decide +kernel) (by decide +kernel) (fun _ _ _ h => h) (by rfl) (E3.out) (fun W' hW => by go_simp) ?_
          go_simp
          refine wpS_take HR (i := 15) (v := .int .i64 er) rfl (by decide +kernel) (by decide +kernel) (by decide +kernel) (fun _ _ _ h => h) (by rfl) (E3.out) (fun W' hW => by go_simp) ?_
          go_simp
          refine wpS_done HR (by decide +kernel) ?_
          by_cases her : er = 0
          · subst her
            have hlk : ln = n := by rw [← HLN.out]; exact hVn rfl
            rw [hlk] at HLN ⊢
            clear hlk hVn
            obtain ⟨N, hN⟩ : ∃ N, w3.heap.size = N := ⟨_, rfl⟩
            obtain ⟨W4, hW4⟩ : ∃ x, x = w3.alloc (.cells (zS n) 9) := ⟨_, rfl⟩
            obtain ⟨TT, hTT⟩ : ∃ TT : Nat → List Tx, TT = fun k => (V.take k).map (fun s => d.getD s.toNat []) := ⟨_, rfl⟩
            have HTT := Lib.hid hTT
            have HBK : Hid (Blk W4 N 9 ((TT 0 ++ List.replicate (n - 0) ([] : Tx)).map encStr)) := by rw [hW4, hTT, ← hN]; exact Blk.born w3 _ _
            have HE4 : Hid (Below N w3 W4) := by rw [hW4, ← hN]; exact (Below.refl _ _).alloc (Nat.le_refl _) _
            have HW4 := Lib.hid hW4
            have HNN := Lib.hid hN
            have HTL : Hid (∀ k, k ≤ n → (TT k).length = k) := fun k hk => by rw [hTT]; simp only [List.length_map, List.length_take]; have := HLN.out; omega
            clear hN hW4 hTT HUN HCP HYR
            go_wp2_with (refine mk_strn rfl _ _ rfl n rfl rfl (by omega) ?_)
            rw [← HW4.out, HNN.out]
            go_loopw [91] (fun i wr => ∃ k : Nat, k ≤ n ∧ i = .int .i64 k ∧ Blk wr N 9 ((TT k ++ List.replicate (n - k) ([] : Tx)).map encStr) ∧ Below N w3 wr) (fun i _ => n - (intOf i).toNat)
            case atStart => exact ⟨0, by omega, rfl, HBK.out, HE4.out⟩
            case round =>
              obtain ⟨k, hk, rfl, hblk, hbel⟩ := hrel
              have HBEL := Lib.hid hbel
              have hwq : Below w3.heap.size w3 wr := by rw [HNN.out]; exact hbel
              have HWQ := Lib.hid hwq
              have E5 : Hid (Below W.heap.size W wr) := E3.out.trans (hwq.mono E3.out.size)
              by_cases hlt : k < n
              · have hk1 : k < V.length := by rw [HLN.out]; exact hlt
                obtain ⟨bs, os, rfl, hcs⟩ := (HNUM.out.keep hwq) k hk1
                have hst : TT (k + 1) = TT k ++ [d.getD (V[k]).toNat []] := by
                  rw [HTT.out]
                  simp only [List.take_succ_eq_append_getElem hk1, List.map_append, List.map_cons, List.map_nil]
                have hgd : ∀ L, EncofT 1 n b L → (V[k]).toNat < many := fun L h => by
                  obtain ⟨_, h2, h3⟩ := HGOOD.out L h
                  have hkL : k < L.length := by rw [h.2.1]; exact hlt
                  have e : V[k] = plW (riseL L) L[k] := by simp only [h2, List.getElem_map]
                  obtain ⟨h4, _⟩ := plc_of (R := riseL L) (rise_rise L) (x := L[k]) ((rise_mem L _).2 (List.getElem_mem hkL))
                  have h5 := HDL.out
                  rw [h3] at h5
                  rw [e]
                  unfold plW
                  rw [BitVec.toNat_ofNat]
                  have := Nat.mod_le (plc (riseL L) L[k]) (2 ^ 64)
                  omega
                have hv64 := (V[k]).isLt
                generalize V[k] = sv at hcs hst hgd hv64
                obtain ⟨v, hv⟩ : ∃ v, sv.toNat = v := ⟨_, rfl⟩
                rw [hv] at hcs hst hgd hv64
                by_cases hvm : v < many
                · have hvd : v < d.length := by rw [HDL.out, hdlm]; exact hvm
                  obtain ⟨bd, od, hA5, hcd⟩ := (HWD3.out.keep hwq) v hvd
                  have hgv : d.getD v [] = d[v] := by rw [List.getD_eq_getElem?_getD, List.getElem?_eq_getElem hvd]; rfl
                  rw [hgv] at hst
                  have hkl : k < ((TT k ++ List.replicate (n - k) ([] : Tx)).map encStr).length := by rw [List.length_map, List.length_append, List.length_replicate, HTL.out k hk]; omega
                  have hcell := hblk.at_ k
                  rw [List.getElem?_eq_getElem hkl] at hcell
                  have hfr := hblk.free k
                  have hput := strs_put (TT k) k n d[v] (HTL.out k hk).symm hlt
                  rw [← hst] at hput
                  have hnew : Blk (wr.setCell ⟨N, k, none⟩ (.string (str d[v]))) N 9 ((TT (k + 1) ++ List.replicate (n - (k + 1)) ([] : Tx)).map encStr) := by rw [← hput]; exact hblk.store k _
                  have HNEW := Lib.hid hnew
                  generalize ((TT k ++ List.replicate (n - k) ([] : Tx)).map encStr)[k] = old at hcell
                  obtain ⟨sx, hsx⟩ : ∃ sx, str d[v] = sx := ⟨_, rfl⟩
                  rw [hsx] at hcd HNEW
                  have hvi : ¬ (many : Int) ≤ (v : Int) := by omega
                  have hvi2 : (v : Int) < (many : Int) := by omega
                  have HK : Hid (k < n) := hlt
                  clear hblk hbel hwq hk1 hst hgd hv64 hv hvd hgv hkl hput hnew hsx
                  subst hA5
                  go_wp2
                  go_roundw
                  case rel => exact ⟨k + 1, HK.out, by go_num, HNEW.out, HBEL.out.setCell (by simp) _⟩
                  case measure => simp [intOf]; have := HK.out; omega
                · have hvi : (many : Int) ≤ (v : Int) := by omega
                  have HNO : Hid (∀ L, EncofT 1 n b L → False) := fun L h => hvm (hgd L h)
                  clear hblk hbel hwq hk1 hst hgd hv64 hv
                  go_wp2
                  go_ret2
                  exact RdQ.nul (by decide) E5.out HNO.out
              · obtain rfl : k = n := by omega
                have HI : Hid (Strs wr (some ⟨N, 0, none⟩) (TT k)) := by
                  have hb2 := hblk
                  rw [Nat.sub_self, List.replicate_zero, List.append_nil] at hb2
                  exact strs_bk hb2
                have HTV : Hid (TT k = V.map (fun s => d.getD s.toNat [])) := by
                  show _ = _
                  rw [HTT.out]
                  simp only
                  rw [List.take_of_length_le (by rw [HLN.out]; exact Nat.le_refl _)]
                clear hblk hbel hwq
                go_wp2
                go_ret2
                refine ⟨some ⟨N, 0, none⟩, k, TT k, 0, by rw [HTL.out k (Nat.le_refl _)]; rfl, HI.out, by rw [HTL.out k (Nat.le_refl _)]; exact Nat.le_refl _, fun x hx => ?_, E5.out, fun _ => HTL.out k (Nat.le_refl _), fun L h => ⟨rfl, ?_⟩⟩
                · rw [HTV.out] at hx
                  obtain ⟨s, _, rfl⟩ := List.mem_map.1 hx
                  rw [List.getD_eq_getElem?_getD]
                  cases hg : d[s.toNat]? with
                  | none => simp
                  | some y => exact HD64.out y (List.mem_of_getElem? hg)
                · obtain ⟨_, h2, h3⟩ := HGOOD.out L h
                  rw [HTV.out, h2, h3]
                  exact back_texts rfl h.1.1
          · have hei : (er == 0) = false := by rw [beq_eq_false_iff_ne]; exact her
            have hei2 : (er != 0) = true := by simp [her]
            have HER : Hid (¬ er = 0) := her
            clear hVn
            go_wp2
            go_ret2
            exact RdQ.nul HER.out E3.out fun L h => HER.out (HGOOD.out L h).1
        · have hge : (nb : Int) ≤ (p : Int) := by omega
          have HNO : Hid (∀ L, EncofT 1 n b L → False) := fun L h => by
            obtain ⟨_, _, h3⟩ := HLC.out L h
            obtain ⟨h4, _⟩ := (HPAR.out L h).2.2 p (by omega)
            have := HNB.out
            omega
          have hei : (er1 != 0) = false := by simp [her1]
          go_wp2
          go_ret2
          exact RdQ.nul (by decide) E2.out HNO.out
      · have hei : (er1 == 0) = false := by rw [beq_eq_false_iff_ne]; exact her1
        have hei2 : (er1 != 0) = true := by simp [her1]
        have HER : Hid (¬ er1 = 0) := her1
        go_wp2
        go_ret2
        exact RdQ.nul (by decide) E2.out fun L h => HER.out (HLC.out L h).1
end Go.Proofs.YtfgmdaemcaamiaaDoor

/-! dict.read's other ways; dict.Decode. -/
namespace Go.Proofs.YtfgmdaemcaamiaaDoor
open Go.RowKit
set_option linter.unusedVariables false

set_option maxHeartbeats 2000000 in
theorem tread0_any (A : Option Addr) (cap n : Nat) (b : List UInt8) (W : World) (hb : Byt W A b) (hA : A = none → cap = 0) (hc : b.length ≤ cap) (hm : cap ≤ 9223372036854775807) (hL : b.length ≤ 140737488355328) (hn : n ≤ 4096) (h0 : 0 < b.length) (hf : b[0] = 0) :
    Calls Tryd.prog 105 #[.slice A b.length cap, .int .i64 (n : Int)] W (RdQ W (EncofT 0 n b) n) := by
  have hpl : (b.take 1).length = 1 := by rw [List.length_take]; omega
  have HTK := Lib.hid (taketexts_any A cap n b.length (b.take 1) b 1 W rfl (by rw [hpl]; rfl) hb hA hc hm hL hn (by omega))
  unfold TkT at HTK
  have HEN : Hid (∀ L, EncofT 0 n b L → (∀ x ∈ L, x.length ≤ 1024) ∧ L.length = n ∧ LiesT (b.take 1) b L) := fun L h => by
    refine ⟨h.1.2, h.2.1, [], ?_⟩
    have e : b = [0] ++ L.flatMap txt := h.2.2.symm
    rw [e]
    simp
  obtain ⟨bx, ox, rfl, hca⟩ := hb 0 h0
  rw [hf] at hca
  have hca0 : W.cell? ⟨bx, ox, none⟩ = some (.int .u8 0) := hca
  have hzi : ((b.length : Int) == 0) = false := by rw [beq_eq_false_iff_ne]; omega
  clear hb hca hf hA hpl
  generalize b.length = nb at *
  go_enter Tryd.func105, Tryd.ntmps105
  go_wp2_with (go_at_call 111; refine HTK.out.mono ?_; rintro e w2 ⟨A5, c5, d, at_, er1, rfl, hsd, hdc, hd64, hb2, hok, hcomp⟩)
  go_ret2
  exact ⟨A5, c5, d, er1, rfl, hsd, hdc, hd64, hb2, fun h => (hok h).1, fun L h => by
    obtain ⟨h1, h2, h3⟩ := HEN.out L h
    obtain ⟨h4, h5, _⟩ := hcomp L h1 h2 h3
    exact ⟨h4, h5⟩⟩
set_option maxHeartbeats 2000000 in
theorem tread_bad (A : Option Addr) (cap n : Nat) (b : List UInt8) (W : World) (hb : Byt W A b) (h : ∀ h0 : 0 < b.length, 2 ≤ (b[0]).toNat) :
    Calls Tryd.prog 105 #[.slice A b.length cap, .int .i64 (n : Int)] W fun e w' => e = .returned (.tuple #[.slice none 0 0, .int .i64 70]) ∧ W = w' := by
  by_cases h0 : b.length = 0
  · rw [h0]
    clear h hb
    go_enter Tryd.func105, Tryd.ntmps105
    go_wp2
    go_ret2
    exact ⟨rfl, rfl⟩
  · have h1 : 0 < b.length := by omega
    have h2 := h h1
    obtain ⟨bx, ox, rfl, hca⟩ := hb 0 h1
    generalize b[0] = c at hca h2
    have hca0 : W.cell? ⟨bx, ox, none⟩ = some (.int .u8 (c.toNat : Int)) := hca
    have h3 : (1 : Int) < (c.toNat : Int) := by omega
    have hzi : ((b.length : Int) == 0) = false := by rw [beq_eq_false_iff_ne]; omega
    clear h hb hca
    generalize b.length = nb at *
    go_enter Tryd.func105, Tryd.ntmps105
    go_wp2
    go_ret2
    exact ⟨rfl, rfl⟩
theorem tread_any (f n : Nat) (hf2 : f < 2) (A : Option Addr) (cap : Nat) (b : List UInt8) (W : World) (hb : Byt W A b) (hA : A = none → cap = 0) (hc : b.length ≤ cap) (hm : cap ≤ 9223372036854775807) (hL : b.length ≤ 140737488355328) (hn : n ≤ 4096) (h0 : 0 < b.length) (hf : (b[0]).toNat = f) (hT : TabAt W) :
    Calls Tryd.prog 105 #[.slice A b.length cap, .int .i64 (n : Int)] W (RdQ W (EncofT f n b) n) := by
  match f, hf2 with
  | 0, _ => exact tread0_any A cap n b W hb hA hc hm hL hn h0 (UInt8.toNat_inj.1 hf)
  | 1, _ => exact tread1_any A cap n b W hb hA hc hm hL hn h0 (UInt8.toNat_inj.1 hf) hT
theorem tenc_any (f : Nat) (hf : f < 2) (A : Option Addr) (cap : Nat) (l : List Tx) (W : World) (hl : Strs W A l) (hr : rightT l) (hT : TabAt W) :
    Calls Tryd.prog 41 #[.int .i64 (f : Int), .slice A l.length cap] W (LaidT W (encT f l)) := by
  match f, hf with
  | 0, _ => exact tenc0_any A cap l W hl hr
  | 1, _ => exact tenc1_any A cap l W hl hr hT
theorem equal7 (A B : Option Addr) (c d : Nat) (a b : List UInt8) (W : World) (ha : Byt W A a) (hb : Byt W B b) :
    Calls Tryd.prog 34 #[.slice A a.length c, .slice B b.length d] W fun e w' => e = .returned (.bool (decide (a = b))) ∧ W = w' := by
  have h1 := conv ha c
  have h2 := conv hb d
  clear ha hb
  by_cases h : a = b
  · subst h
    rw [decide_eq_true rfl]
    go_enter Tryd.func34, Tryd.ntmps34
    go_wp2
    go_ret
    exact ⟨rfl, rfl⟩
  · rw [decide_eq_false h]
    have h3 := str_ne h
    go_enter Tryd.func34, Tryd.ntmps34
    go_wp2
    go_ret
    exact ⟨rfl, rfl⟩
/-- A list that bytes say. -/
def decT (b : List UInt8) (n : Int) (L : List Tx) : Prop := ∃ f : Nat, f < 2 ∧ 0 ≤ n ∧ n ≤ 4096 ∧ EncofT f n.toNat b L
/-- What Decode hands back. -/
def DecTR (W0 : World) (b : List UInt8) (n : Int) (e : Ending) (W' : World) : Prop := Below W0.heap.size W0 W' ∧
  ((∃ A c L, decT b n L ∧ (∀ L', decT b n L' → L = L') ∧ e = .returned (.tuple #[.slice A L.length c, .int .i64 0]) ∧ Strs W' A L ∧ L.length ≤ c) ∨
   ((∀ L, ¬ decT b n L) ∧ e = .returned (.tuple #[.slice none 0 0, .int .i64 (if n < 0 ∨ 4096 < n then 2 else 70)])))
theorem dect_f {b : List UInt8} {n : Int} {L : List Tx} {f : Nat} (h0 : 0 < b.length) (hf : (b[0]).toNat = f) (h : decT b n L) : 0 ≤ n ∧ n ≤ 4096 ∧ EncofT f n.toNat b L := by
  obtain ⟨g, hg, h1, h2, h3⟩ := h
  have : f = g := by
    obtain ⟨_, _, e⟩ := h3
    subst e
    rw [← hf]
    show (UInt8.ofNat g).toNat = g
    rw [UInt8.toNat_ofNat']
    omega
  subst this
  exact ⟨h1, h2, h3⟩
theorem tdec_arg (A : Option Addr) (cap : Nat) (b : List UInt8) (n : Int) (W : World) (h : n < 0 ∨ 4096 < n) :
    Calls Tryd.prog 89 #[.slice A b.length cap, .int .i64 n] W (DecTR W b n) := by
  have HNO : Hid (∀ L, ¬ decT b n L) := fun L hl => by obtain ⟨f, _, h1, h2, _⟩ := hl; omega
  have HREF : Hid (Below W.heap.size W W) := Below.refl _ _
  have HH := Lib.hid h
  by_cases h1 : n < 0
  · generalize b.length = nb at *
    clear h
    go_enter Tryd.func89, Tryd.ntmps89
    go_wp2
    go_ret2
    exact ⟨HREF.out, .inr ⟨HNO.out, by rw [if_pos HH.out]; rfl⟩⟩
  · have h2 : 4096 < n := by omega
    generalize b.length = nb at *
    clear h
    go_enter Tryd.func89, Tryd.ntmps89
    go_wp2
    go_ret2
    exact ⟨HREF.out, .inr ⟨HNO.out, by rw [if_pos HH.out]; rfl⟩⟩
set_option maxHeartbeats 2000000 in
theorem tdec_bad (A : Option Addr) (cap : Nat) (b : List UInt8) (n : Nat) (W : World) (hb : Byt W A b) (hn : n ≤ 4096) (h : ∀ h0 : 0 < b.length, 2 ≤ (b[0]).toNat) :
    Calls Tryd.prog 89 #[.slice A b.length cap, .int .i64 (n : Int)] W (DecTR W b n) := by
  have HH : Hid (¬ ((n : Int) < 0 ∨ 4096 < (n : Int))) := by show ¬ _; omega
  have HREF : Hid (Below W.heap.size W W) := Below.refl _ _
  have HNO : Hid (∀ L, ¬ decT b n L) := fun L hl => by
    obtain ⟨g, hg, h1, h2, _, _, e⟩ := hl
    subst e
    have := h (by unfold encT; simp)
    have e2 : ((encT g L)[0]'(by unfold encT; simp)).toNat = g := by show (UInt8.ofNat g).toNat = g; rw [UInt8.toNat_ofNat']; omega
    omega
  have HQ := Lib.hid (tread_bad A cap n b W hb h)
  have hle : ¬ (4096 : Int) < (n : Int) := by omega
  have hn0 : ¬ (n : Int) < 0 := by omega
  clear hb h
  generalize b.length = nb at *
  go_enter Tryd.func89, Tryd.ntmps89
  go_wp2_with (go_at_call 105; refine HQ.out.mono ?_; rintro e w1 ⟨rfl, rfl⟩)
  go_ret2
  exact ⟨HREF.out, .inr ⟨HNO.out, by rw [if_neg HH.out]; rfl⟩⟩

set_option maxRecDepth 100000 in
set_option maxHeartbeats 4000000 in
theorem tdec_in (f : Nat) (A : Option Addr) (cap : Nat) (b : List UInt8) (n : Nat) (W : World) (hb : Byt W A b) (hA : A = none → cap = 0) (hc : b.length ≤ cap) (hm : cap ≤ 9223372036854775807) (hL : b.length ≤ 140737488355328) (hn : n ≤ 4096) (h0 : 0 < b.length) (hf : (b[0]).toNat = f) (hf2 : f < 2) (hT : TabAt W) :
    Calls Tryd.prog 89 #[.slice A b.length cap, .int .i64 (n : Int)] W (DecTR W b n) := by
  have HH : Hid (¬ ((n : Int) < 0 ∨ 4096 < (n : Int))) := by show ¬ _; omega
  have HDF : Hid (∀ L, decT b n L → EncofT f n b L) := fun L h => (dect_f h0 hf h).2.2
  have HMK : Hid (∀ L, EncofT f n b L → decT b n L) := fun L h => ⟨f, hf2, by omega, by omega, h⟩
  have HRD := Lib.hid (tread_any f n hf2 A cap b W hb hA hc hm hL hn h0 hf hT)
  unfold RdQ at HRD
  have HENC : Hid (∀ A c l (w1 : World), Below W.heap.size W w1 → Strs w1 A l → rightT l → Calls Tryd.prog 41 #[.int .i64 (f : Int), .slice A l.length c] w1 (LaidT w1 (encT f l))) := fun A c l w1 hW hl hr => tenc_any f hf2 A c l w1 hl hr (hT.keep hW)
  unfold LaidT at HENC
  obtain ⟨bx, ox, rfl, hca⟩ := hb 0 h0
  rw [hf] at hca
  have hca0 : W.cell? ⟨bx, ox, none⟩ = some (.int .u8 (f : Int)) := hca
  have HCA := Lib.hid hca0
  have HB := Lib.hid hb
  have HREF : Hid (Below W.heap.size W W) := Below.refl _ _
  have hle : ¬ (4096 : Int) < (n : Int) := by omega
  have hn0 : ¬ (n : Int) < 0 := by omega
  have hcv : IntKind.i64.wrap (f : Int) = (f : Int) := by rw [IntKind.wrap_i64]; omega
  obtain ⟨nb, hnb⟩ : ∃ nb, b.length = nb := ⟨_, rfl⟩
  have HNB := Lib.hid hnb
  have hps : (0 : Int) < (b.length : Int) := by omega
  rw [hnb] at h0 hc hps HRD ⊢
  clear hb hca hf hT hnb hca0 hA
  go_enter Tryd.func89, Tryd.ntmps89
  go_upto_region 4 with (go_at_call 105; refine HRD.out.mono ?_; rintro e w1 ⟨A1, c1, l1, er, rfl, hs1, hc1, h641, hb1, hok, hcomp⟩; obtain ⟨m, hm1⟩ : ∃ m, l1.length = m := ⟨_, rfl⟩; have HM1 := Lib.hid hm1; have HS1 := Lib.hid hs1; have HC1 := Lib.hid hc1; have HB1 := Lib.hid hb1; have H641 := Lib.hid h641; have HOK1 := Lib.hid hok; have HU1 := Lib.hid hcomp; rw [hm1]; clear hm1 hs1 hc1 hb1 h641 hok hcomp HRD)
  by_cases her : er = 0
  · subst her
    obtain rfl : m = n := by rw [← HM1.out]; exact HOK1.out rfl
    have hrt : rightT l1 := ⟨by rw [HM1.out]; exact hn, H641.out⟩
    have HENC2 := Lib.hid (HENC.out A1 c1 l1 w1 HB1.out HS1.out hrt)
    rw [HM1.out] at HENC2
    have hel := encT_len (f := f) hrt
    obtain ⟨eb, heb⟩ : ∃ eb, encT f l1 = eb := ⟨_, rfl⟩
    rw [heb] at HENC2 hel
    have hcw := cell_lo HB1.out HCA.out
    by_cases heq : eb = b
    · have HOK : Hid (EncofT f m b l1) := ⟨hrt, HM1.out, by rw [heb]; exact heq⟩
      subst heq
      clear heb hrt hel
      go_wp2_with (first | (go_at_call 41; refine HENC2.out.mono ?_; rintro e w2 ⟨v2, rfl, ho, hb2⟩; obtain ⟨A2, c2, rfl, hy2, _, _, _⟩ := ho.form; have HB2 := Lib.hid (HB1.out.trans (hb2.mono HB1.out.size)); have HS2 := Lib.hid (HS1.out.keep hb2); have heq2 := equal7 A2 (some ⟨bx, ox, none⟩) c2 cap eb eb w2 hy2 (HB.out.keep HB2.out); rw [decide_eq_true rfl, HNB.out] at heq2; have HEQ := Lib.hid heq2; rw [HNB.out]; clear ho hb2 hy2 heq2) | (go_at_call 34; refine HEQ.out.mono ?_; rintro e w3 ⟨rfl, rfl⟩))
      go_ret2
      exact ⟨HB2.out, .inl ⟨A1, c1, l1, HMK.out l1 HOK.out, fun l' h' => (HU1.out l' (HDF.out l' h')).2, by rw [HM1.out]; rfl, HS2.out, HC1.out⟩⟩
    · have HNO : Hid (∀ L, ¬ decT b m L) := fun L h => by
        have h2 := HDF.out L h
        have := (HU1.out L h2).2
        subst this
        exact heq (heb ▸ h2.2.2)
      have HNEQ := Lib.hid heq
      clear heb heq hrt hel
      obtain ⟨ne, hne⟩ : ∃ ne, eb.length = ne := ⟨_, rfl⟩
      have HNE := Lib.hid hne
      clear hne
      go_wp2_with (first | (go_at_call 41; refine HENC2.out.mono ?_; rintro e w2 ⟨v2, rfl, ho, hb2⟩; obtain ⟨A2, c2, rfl, hy2, _, _, _⟩ := ho.form; have HB2 := Lib.hid (HB1.out.trans (hb2.mono HB1.out.size)); have heq2 := equal7 A2 (some ⟨bx, ox, none⟩) c2 cap eb b w2 hy2 (HB.out.keep HB2.out); rw [decide_eq_false HNEQ.out, HNB.out, HNE.out] at heq2; have HEQ := Lib.hid heq2; rw [HNE.out]; clear ho hb2 hy2 heq2) | (go_at_call 34; refine HEQ.out.mono ?_; rintro e w3 ⟨rfl, rfl⟩))
      go_ret2
      exact ⟨HB2.out, .inr ⟨HNO.out, by rw [if_neg HH.out]; rfl⟩⟩
  · have hei : (er == 0) = false := by rw [beq_eq_false_iff_ne]; exact her
    have hei2 : (er != 0) = true := by simp [her]
    have HNO : Hid (∀ L, ¬ decT b n L) := fun L h => her (HU1.out L (HDF.out L h)).1
    go_wp2
    go_ret2
    exact ⟨HB1.out, .inr ⟨HNO.out, by rw [if_neg HH.out]; rfl⟩⟩
theorem tdecode_any (A : Option Addr) (cap : Nat) (b : List UInt8) (n : Int) (W : World) (hb : Byt W A b) (hA : A = none → cap = 0) (hc : b.length ≤ cap) (hm : cap ≤ 9223372036854775807) (hL : b.length ≤ 140737488355328) (hT : TabAt W) :
    Calls Tryd.prog 89 #[.slice A b.length cap, .int .i64 n] W (DecTR W b n) := by
  by_cases h : n < 0 ∨ 4096 < n
  · exact tdec_arg A cap b n W h
  · obtain ⟨k, rfl⟩ : ∃ k : Nat, n = (k : Int) := ⟨n.toNat, by omega⟩
    by_cases h2 : ∀ h0 : 0 < b.length, 2 ≤ (b[0]).toNat
    · exact tdec_bad A cap b k W hb (by omega) h2
    · simp only [Classical.not_forall] at h2
      obtain ⟨h0, h5⟩ := h2
      exact tdec_in _ A cap b k W hb hA hc hm hL (by omega) h0 rfl (by omega) hT
end Go.Proofs.YtfgmdaemcaamiaaDoor

/-! The walk of stackyardlaw07.DictBack. -/
namespace Go.Proofs.YtfgmdaemcaamiaaDoor
open Go.RowKit
set_option linter.unusedVariables false

/-- A list and whether, handed back. -/
def LsT (W : World) (l : List Tx) (er : Int) (e : Ending) (W' : World) : Prop := ∃ A c, e = .returned (.tuple #[.slice A l.length c, .int .i64 er]) ∧ Strs W' A l ∧ l.length ≤ c ∧ Below W.heap.size W W'
theorem DecTR.some {W : World} {b : List UInt8} {n : Int} {l : List Tx} (hl : decT b n l) {e : Ending} {W' : World} (h : DecTR W b n e W') : LsT W l 0 e W' := by
  obtain ⟨hb, ⟨A, c, l', _, hu, rfl, hi, hc⟩ | ⟨hno, _⟩⟩ := h
  · obtain rfl := hu l hl
    exact ⟨A, c, rfl, hi, hc, hb⟩
  · exact absurd hl (hno l)
theorem DecTR.none {W : World} {b : List UInt8} {n : Int} (hl : ∀ l, ¬ decT b n l) {e : Ending} {W' : World} (h : DecTR W b n e W') : LsT W [] (if n < 0 ∨ 4096 < n then 2 else 70) e W' := by
  obtain ⟨hb, ⟨A, c, l', h1, _⟩ | ⟨_, rfl⟩⟩ := h
  · exact absurd h1 (hl l')
  · exact ⟨Option.none, 0, rfl, fun k hk => absurd hk (by simp), Nat.le_refl _, hb⟩

/-- What was encoded is decoded as it was. -/
theorem tdec_enc (f : Nat) (hf : f < 2) (l : List Tx) (hr : rightT l) (A : Option Addr) (c : Nat) (W : World) (hb : Byt W A (encT f l)) (hA : A = none → c = 0) (hc : (encT f l).length ≤ c) (hm : c ≤ 9223372036854775807) (hT : TabAt W) :
    Calls Tryd.prog 89 #[.slice A (encT f l).length c, .int .i64 (l.length : Int)] W (LsT W l 0) := by
  have hl := encT_len (f := f) hr
  have hn := hr.1
  exact (tdecode_any A c (encT f l) (l.length : Int) W hb hA hc hm (by omega) hT).mono fun e W' h => h.some ⟨f, hf, by omega, by omega, hr, by omega, rfl⟩

theorem cell_lowH {w W : World} {p : Addr} {v : Value} (h : Below w.heap.size w W) (hc : w.cell? p = some v) : W.cell? p = some v := (h.cell (World.block_lt_of_cell? w _ hc)).trans hc
end Go.Proofs.YtfgmdaemcaamiaaDoor

/-! The document's list, place. -/
namespace Go.Proofs.YtfgmdaemcaamiaaDoor
open Go.RowKit
set_option linter.unusedVariables false

theorem plc_iff : ∀ {R : List Tx}, Rise R → ∀ (x : Tx) (i : Nat), i < plc R x ↔ ∃ h : i < R.length, ltT R[i] x = true
  | [], _, x, i => by simp [plc]
  | a :: R, hR, x, i => by
    unfold Rise at hR
    rw [List.pairwise_cons] at hR
    cases ha : ltT a x with
    | true =>
      have e : plc (a :: R) x = plc R x + 1 := by
        show ((a :: R).filter (fun y => ltT y x)).length = _
        rw [List.filter_cons, if_pos ha, List.length_cons]; rfl
      rw [e]
      cases i with
      | zero => exact ⟨fun _ => ⟨by simp, ha⟩, fun _ => by omega⟩
      | succ i =>
        have ih := plc_iff hR.2 x i
        constructor
        · intro h
          obtain ⟨h1, h2⟩ := ih.1 (by omega)
          exact ⟨by simpa using h1, h2⟩
        · rintro ⟨h1, h2⟩
          have := ih.2 ⟨by simpa using h1, h2⟩
          omega
    | false =>
      have hno : ∀ y ∈ R, ltT y x = false := fun y hy => by
        cases h : ltT y x with
        | false => rfl
        | true => rw [ltT_trans (hR.1 y hy) h] at ha; cases ha
      have e : plc (a :: R) x = 0 := by
        show ((a :: R).filter (fun y => ltT y x)).length = _
        rw [List.filter_cons, if_neg (by rw [ha]; decide), List.length_eq_zero_iff, List.filter_eq_nil_iff]
        intro y hy
        rw [hno y hy]; decide
      rw [e]
      refine ⟨fun h => by omega, ?_⟩
      rintro ⟨h1, h2⟩
      cases i with
      | zero => rw [show (a :: R)[0] = a from rfl, ha] at h2; cases h2
      | succ i =>
        have hi : i < R.length := by simpa using h1
        rw [show (a :: R)[i + 1] = R[i] from rfl, hno _ (List.getElem_mem hi)] at h2; cases h2
theorem mem_plc {R : List Tx} (hR : Rise R) {x : Tx} (h : plc R x < R.length) : x ∈ R ↔ R[plc R x] = x := by
  constructor
  · intro hx
    exact (plc_of hR hx).2
  · intro e
    rw [← e]; exact List.getElem_mem h

set_option maxHeartbeats 2000000 in
theorem refright7_any (A : Option Addr) (cap : Nat) (l : List Tx) (W : World) (hl : Strs W A l) (hn : l.length ≤ 9223372036854775807) (hs : ∀ x ∈ l, x.length ≤ 9223372036854775807) :
    Calls Tryd.prog 76 #[.slice A l.length cap] W fun e W' => e = .returned (.bool (decide (rightT l))) ∧ Below W.heap.size W W' := by
  have HL := Lib.hid hl
  obtain ⟨n, hn2⟩ : ∃ n, l.length = n := ⟨_, rfl⟩
  have HN := Lib.hid hn2
  have HREF : Hid (Below W.heap.size W W) := Below.refl _ _
  rw [hn2] at hn ⊢
  have HS := Lib.hid hs
  clear hl hn2 hs
  go_enter Tryd.func76, Tryd.ntmps76
  go_wp2
  go_loop [3] (fun i => ∃ k : Nat, k ≤ n ∧ i = .int .i64 k ∧ ∀ j (hj : j < l.length), j < k → (l[j]).length ≤ 1024) (fun i => n - (intOf i).toNat)
  case atStart => exact ⟨0, by omega, rfl, fun j _ h => by omega⟩
  case round =>
    obtain ⟨k, hk, rfl, hall⟩ := hrel
    have HAL := Lib.hid hall
    clear hall
    by_cases hlt : k < n
    · have hk1 : k < l.length := by rw [HN.out]; exact hlt
      obtain ⟨b', o', rfl, hc⟩ := HL.out k hk1
      have HK : Hid (k < n) := hlt
      have hsz := str_size l[k]
      by_cases hy : (l[k]).length ≤ 1024
      · have HNX : Hid (∀ j (hj : j < l.length), j < k + 1 → (l[j]).length ≤ 1024) := fun j hj h => by
          by_cases e : j = k
          · subst e; exact hy
          · exact HAL.out j hj (by omega)
        generalize str l[k] = y at hc hsz
        have h2 : ¬ (1024 : Int) < (y.size : Int) := by omega
        have h3 : ¬ 1024 < y.size := by omega
        clear hsz hy
        go_wp2
        go_round
        case rel => exact ⟨k + 1, HK.out, by go_num, HNX.out⟩
        case measure => simp [intOf]; have := HK.out; omega
      · have HR : Hid (decide (rightT l) = false) := decide_eq_false (fun h => hy (h.2 _ (List.getElem_mem hk1)))
        generalize str l[k] = y at hc hsz
        have h2 : (1024 : Int) < (y.size : Int) := by omega
        have h3 : 1024 < y.size := by omega
        clear hsz hy
        go_wp2
        go_ret
        exact ⟨congrArg (fun r => Ending.returned (Value.bool r)) HR.out.symm, HREF.out⟩
    · obtain rfl : k = n := by omega
      have hall2 : ∀ x ∈ l, x.length ≤ 1024 := fun x hx => by
        obtain ⟨i, hi, rfl⟩ := List.getElem_of_mem hx
        exact HAL.out i hi (by rw [← HN.out]; exact hi)
      by_cases h4 : k ≤ 4096
      · have HR : Hid (decide (rightT l) = true) := decide_eq_true ⟨by rw [HN.out]; exact h4, hall2⟩
        have h5 : (k : Int) ≤ 4096 := by omega
        clear hall2
        go_wp2
        go_ret
        exact ⟨congrArg (fun r => Ending.returned (Value.bool r)) HR.out.symm, HREF.out⟩
      · have HR : Hid (decide (rightT l) = false) := decide_eq_false (fun h => h4 (by rw [← HN.out]; exact h.1))
        have h5 : ¬ (k : Int) ≤ 4096 := by omega
        clear hall2
        go_wp2
        go_ret
        exact ⟨congrArg (fun r => Ending.returned (Value.bool r)) HR.out.symm, HREF.out⟩

set_option maxRecDepth 100000 in
set_option maxHeartbeats 4000000 in
theorem place_any (A : Option Addr) (cap : Nat) (R : List Tx) (x : Tx) (W : World) (hl : Strs W A R) (hR : Rise R) (hn : R.length ≤ 8192) :
    Calls Tryd.prog 79 #[.slice A R.length cap, .string (str x)] W fun e W' => e = .returned (.tuple #[.int .i64 (plc R x), .bool (decide (x ∈ R))]) ∧ Below W.heap.size W W' := by
  have HL := Lib.hid hl
  obtain ⟨n, hn2⟩ : ∃ n, R.length = n := ⟨_, rfl⟩
  have HN := Lib.hid hn2
  have HREF : Hid (Below W.heap.size W W) := Below.refl _ _
  have hpl : plc R x ≤ n := by rw [← hn2]; exact plc_le R x
  obtain ⟨P, hP⟩ : ∃ P, plc R x = P := ⟨_, rfl⟩
  have hlt1 : ∀ i (h : i < R.length), i < P → Op.bytesLess (str R[i]).toList (str x).toList = true := fun i h hi => by
    obtain ⟨_, h2⟩ := (plc_iff hR x i).1 (by omega)
    rw [ByteArray.toList_eq, ByteArray.toList_eq]
    exact h2
  have hlt2 : ∀ i (h : i < R.length), P ≤ i → Op.bytesLess (str R[i]).toList (str x).toList = false := fun i h hi => by
    cases hh : Op.bytesLess (str R[i]).toList (str x).toList with
    | false => rfl
    | true => rw [ByteArray.toList_eq, ByteArray.toList_eq] at hh; have := (plc_iff hR x i).2 ⟨h, hh⟩; omega
  have hno : ¬ P < n → decide (x ∈ R) = false := fun h => decide_eq_false fun hx => by
    obtain ⟨h2, _⟩ := plc_of hR hx
    omega
  have hye : ∀ h : P < R.length, decide (x ∈ R) = ((str R[P]).toList == (str x).toList) := fun h => by
    subst hP
    have hm := mem_plc hR h
    by_cases e : R[plc R x] = x
    · rw [decide_eq_true (hm.2 e), e]; simp
    · rw [decide_eq_false (fun hx => e (hm.1 hx)), str_ne e]
  rw [hn2] at hn ⊢
  rw [hP] at hpl ⊢
  have H1 := Lib.hid hlt1
  have H2 := Lib.hid hlt2
  have HNO := Lib.hid hno
  have HYE := Lib.hid hye
  generalize decide (x ∈ R) = dd at *
  generalize str x = sx at *
  clear hl hn2 hlt1 hlt2 hP hR hno hye
  go_enter Tryd.func79, Tryd.ntmps79
  go_wp2
  go_loop [6, 7] (fun i j => ∃ p q : Nat, p ≤ P ∧ P ≤ q ∧ q ≤ n ∧ i = .int .i64 p ∧ j = .int .i64 q) (fun i j => (intOf j).toNat - (intOf i).toNat)
  case atStart => exact ⟨0, n, by omega, hpl, Nat.le_refl _, rfl, rfl⟩
  case round =>
    obtain ⟨p, q, hp, hq, hqn, rfl, rfl⟩ := hrel
    by_cases hlt : p < q
    · obtain ⟨m, hm⟩ : ∃ m, (p + q) / 2 = m := ⟨_, rfl⟩
      have hmq : m < q := by omega
      have hpm : p ≤ m := by omega
      have hmn : m < n := by omega
      have hw : IntKind.i64.wrap ((p : Int) + (q : Int)) = (p : Int) + (q : Int) := by rw [IntKind.wrap_i64]; omega
      have hd : ((p : Int) + (q : Int)).tdiv 2 = (m : Int) := by rw [Int.tdiv_eq_ediv_of_nonneg (by omega)]; omega
      have hd2 : ((p : Int) + (q : Int)) / 2 = (m : Int) := by omega
      have hk1 : m < R.length := by rw [HN.out]; exact hmn
      obtain ⟨b', o', rfl, hc⟩ := HL.out m hk1
      have h1 := H1.out m hk1
      have h2 := H2.out m hk1
      generalize str R[m] = y at hc h1 h2
      have HK : Hid (p < q ∧ m < q ∧ p ≤ m ∧ m < n) := ⟨hlt, hmq, hpm, hmn⟩
      have HPQ : Hid (p ≤ P ∧ P ≤ q ∧ q ≤ n) := ⟨hp, hq, hqn⟩
      have hmn2 : (m : Int) < (n : Int) := by omega
      by_cases hlo : m < P
      · have h3 := h1 hlo
        clear h1 h2
        go_wp2
        go_round
        case rel => exact ⟨m + 1, q, hlo, HPQ.out.2.1, HPQ.out.2.2, by go_num, rfl⟩
        case measure => simp [intOf]; have := HK.out; omega
      · have h3 := h2 (by omega)
        clear h1 h2
        go_wp2
        go_round
        case rel => exact ⟨p, m, HPQ.out.1, Nat.le_of_not_lt hlo, Nat.le_of_lt HK.out.2.2.2, rfl, rfl⟩
        case measure => simp [intOf]; have := HK.out; omega
    · obtain rfl : p = q := by omega
      obtain rfl : p = P := by omega
      by_cases hlt2 : p < n
      · have hk1 : p < R.length := by rw [HN.out]; exact hlt2
        have hy := HYE.out hk1
        obtain ⟨b', o', rfl, hc⟩ := HL.out p hk1
        generalize str R[p] = y at hc hy
        have hlt3 : (p : Int) < (n : Int) := by omega
        go_wp2
        go_quiet (fail)
        go_wp2
        go_ret2
        exact ⟨by rw [hy]; rfl, Below.drewN' HREF.out _⟩
      · have hd := HNO.out hlt2
        go_wp2
        go_quiet (fail)
        go_wp2
        go_ret2
        exact ⟨by rw [hd]; rfl, Below.drewN' HREF.out _⟩
end Go.Proofs.YtfgmdaemcaamiaaDoor

/-! The document's rising. -/
namespace Go.Proofs.YtfgmdaemcaamiaaDoor
open Go.RowKit
set_option linter.unusedVariables false

theorem ins_same {R : List Tx} (hR : Rise R) {x : Tx} (h : x ∈ R) : insT R x = R :=
  rise_uniq (insT_rise hR x) hR fun y => by
    rw [insT_mem]
    exact ⟨fun h' => h'.elim (fun e => e ▸ h) id, .inr⟩
theorem ins_split {R : List Tx} (hR : Rise R) {x : Tx} (h : x ∉ R) : insT R x = R.take (plc R x) ++ x :: R.drop (plc R x) := by
  refine rise_uniq (insT_rise hR x) ?_ fun y => ?_
  · have h1 : ∀ a ∈ R.take (plc R x), ltT a x = true := fun a ha => by
      obtain ⟨i, hi, rfl⟩ := List.getElem_of_mem ha
      rw [List.length_take] at hi
      rw [List.getElem_take]
      exact ((plc_iff hR x i).1 (by omega)).2
    have h2 : ∀ b ∈ R.drop (plc R x), ltT x b = true := fun b hb => by
      obtain ⟨i, hi, rfl⟩ := List.getElem_of_mem hb
      rw [List.length_drop] at hi
      rw [List.getElem_drop]
      have hn : ltT R[plc R x + i] x = false := by
        cases hh : ltT R[plc R x + i] x with
        | false => rfl
        | true => have := (plc_iff hR x (plc R x + i)).2 ⟨by omega, hh⟩; omega
      cases hh : ltT x R[plc R x + i] with
      | true => rfl
      | false => exact absurd (by rw [ltT_tri hh hn]; exact List.getElem_mem _) h
    unfold Rise at hR ⊢
    rw [List.pairwise_append, List.pairwise_cons]
    refine ⟨hR.sublist (List.take_sublist _ _), ⟨h2, hR.sublist (List.drop_sublist _ _)⟩, ?_⟩
    intro a ha b hb
    rcases List.mem_cons.1 hb with rfl | hb
    · exact h1 a ha
    · exact ltT_trans (h1 a ha) (h2 b hb)
  · rw [insT_mem, List.mem_append, List.mem_cons]
    have hs : y ∈ R ↔ y ∈ R.take (plc R x) ∨ y ∈ R.drop (plc R x) := by rw [← List.mem_append, List.take_append_drop]
    rw [hs]
    constructor
    · rintro (h | h | h)
      · exact .inr (.inl h)
      · exact .inl h
      · exact .inr (.inr h)
    · rintro (h | h | h)
      · exact .inr (.inl h)
      · exact .inl h
      · exact .inr (.inr h)
theorem OwnS.below {w w' : World} {B : Nat} {v : Value} {l : List Tx} (h : OwnS w B v l) (hb : Below w.heap.size w w') : OwnS w' B v l := by
  refine ⟨h.1, ?_⟩
  rcases h.2 with hn | ⟨g, cap, cur, rfl, hg0, hg, rest⟩
  · exact .inl hn
  · exact .inr ⟨g, cap, cur, rfl, hg0, (hb.block g (lt_of_block hg)).trans hg, rest⟩
theorem OwnS.base {w : World} {B B' : Nat} {v : Value} {l : List Tx} (h : OwnS w B v l) (hB : B' ≤ B) : OwnS w B' v l := by
  refine ⟨h.1, ?_⟩
  rcases h.2 with hn | ⟨g, cap, cur, rfl, hb, rest⟩
  · exact .inl hn
  · exact .inr ⟨g, cap, cur, rfl, by omega, rest⟩
theorem Strs.take {w : World} {A : Option Addr} {l : List Tx} (h : Strs w A l) (p : Nat) : Strs w A (l.take p) := by
  intro k hk
  rw [List.length_take] at hk
  obtain ⟨b, o, e, hc⟩ := h k (by omega)
  exact ⟨b, o, e, by rw [List.getElem_take]; exact hc⟩
/-- Where a slice from some place on lies. -/
def offA : Option Addr → Nat → Option Addr
  | none, _ => none
  | some ⟨b, o, s⟩, p => some ⟨b, o + p, s⟩
theorem Strs.drop {w : World} {A : Option Addr} {l : List Tx} (h : Strs w A l) (p : Nat) : Strs w (offA A p) (l.drop p) := by
  intro k hk
  rw [List.length_drop] at hk
  obtain ⟨b, o, rfl, hc⟩ := h (p + k) (by omega)
  refine ⟨b, o + p, rfl, ?_⟩
  rw [List.getElem_drop, show o + p + k = o + (p + k) by omega]
  exact hc
theorem rise_end (l : List Tx) (k : Nat) (h : k < l.length) : riseL (l.take (k + 1)) = insT (riseL (l.take k)) l[k] := by
  rw [List.take_succ_eq_append_getElem h, riseL_snoc]

set_option maxRecDepth 100000 in
set_option maxHeartbeats 4000000 in
theorem rising_any (A : Option Addr) (cap : Nat) (l : List Tx) (W : World) (hl : Strs W A l) (hr : rightT l) :
    Calls Tryd.prog 77 #[.slice A l.length cap] W fun e W' => ∃ v, e = .returned v ∧ OwnS W' W.heap.size v (riseL l) ∧ Below W.heap.size W W' := by
  have HL := Lib.hid hl
  obtain ⟨RR, hRR⟩ : ∃ RR : Nat → List Tx, RR = fun k => riseL (l.take k) := ⟨_, rfl⟩
  have h0 : RR 0 = [] := by rw [hRR]; rfl
  have hfin : riseL l = RR l.length := by rw [hRR]; simp only [List.take_length]
  have hstep : ∀ k (h : k < l.length), RR (k + 1) = insT (RR k) l[k] := fun k h => by rw [hRR]; exact rise_end l k h
  have hrise : ∀ k, Rise (RR k) := fun k => by rw [hRR]; exact rise_rise _
  have hlen : ∀ k, k ≤ l.length → (RR k).length ≤ k := fun k h => by rw [hRR]; exact Nat.le_trans (rise_len _) (by rw [List.length_take]; omega)
  rw [hfin]
  obtain ⟨n, hn2⟩ : ∃ n, l.length = n := ⟨_, rfl⟩
  have HN := Lib.hid hn2
  have hn96 : n ≤ 4096 := by rw [← hn2]; exact hr.1
  have HREF : Hid (Below W.heap.size W W) := Below.refl _ _
  rw [hn2] at hlen ⊢
  have H0 := Lib.hid h0
  have HSTEP := Lib.hid hstep
  have HRISE := Lib.hid hrise
  have HLEN := Lib.hid hlen
  clear hl hn2 hr hRR h0 hfin hstep hrise hlen
  go_enter Tryd.func77, Tryd.ntmps77
  go_wp2
  go_loopw [3, 4] (fun v i wr => ∃ k : Nat, k ≤ n ∧ i = .int .i64 k ∧ OwnS wr W.heap.size v (RR k) ∧ Below W.heap.size W wr) (fun _ i _ => n - (intOf i).toNat)
  case atStart => exact ⟨0, by omega, rfl, by rw [H0.out]; exact World.ownsRow_nil W _ _ _, HREF.out⟩
  case round =>
    obtain ⟨k, hk, rfl, hown, hbel⟩ := hrel
    obtain ⟨A5, c5, rfl, hi5, hn5, hl5, ha5⟩ := hown.form
    have HA5 := Lib.hid ha5
    clear ha5
    have hlen := HLEN.out k hk
    have hri := HRISE.out k
    have HBEL := Lib.hid hbel
    by_cases hlt : k < n
    · have hk1 : k < l.length := by rw [HN.out]; exact hlt
      have hst := HSTEP.out k hk1
      obtain ⟨b, o, rfl, hca⟩ := HL.out k hk1
      have hcell := cell_lo hbel hca
      obtain ⟨x, hx⟩ : ∃ x, l[k] = x := ⟨_, rfl⟩
      rw [hx] at hst hcell
      obtain ⟨RS, hRS⟩ : ∃ RS, RR k = RS := ⟨_, rfl⟩
      rw [hRS] at hst hri hlen hown hi5 hl5 ⊢
      have hpla := fun (w : World) (h : Strs w A5 RS) => place_any A5 c5 RS x w h hri (by omega)
      obtain ⟨p, hp⟩ : ∃ p, plc RS x = p := ⟨_, rfl⟩
      have hpm := plc_le RS x
      rw [hp] at hpla hpm
      obtain ⟨m, hm⟩ : ∃ m, RS.length = m := ⟨_, rfl⟩
      rw [hm] at hpla hpm hlen hl5 ⊢
      have HM := Lib.hid hm
      have HI5 := Lib.hid hi5
      have HN5 := Lib.hid hn5
      have HK : Hid (k < n) := hlt
      have HST := Lib.hid hst
      have HOWN := Lib.hid hown
      have hm96 : m ≤ 4096 := by omega
      have HM96 := Lib.hid hm96
      have HPM := Lib.hid hpm
      by_cases hxm : x ∈ RS
      · rw [decide_eq_true hxm] at hpla
        have HP := Lib.hid hpla
        have HS2 : Hid (RR (k + 1) = RS) := by show _ = _; rw [hst]; exact ins_same hri hxm
        obtain ⟨sx, hsx⟩ : ∃ sx, str x = sx := ⟨_, rfl⟩
        rw [hsx] at HP hcell
        clear hpla hxm hst hri hRS hx hm hown hi5 hn5 hca hbel hk1 hp hpm
        go_wp2_with (go_at_call 79; refine (HP.out _ HI5.out).mono ?_; rintro e w1 ⟨rfl, hb1⟩; have HB1 := Lib.hid hb1; clear hb1)
        go_roundw
        case rel => exact ⟨k + 1, HK.out, by go_num, by rw [HS2.out, ← HM.out]; exact HOWN.out.below HB1.out, HBEL.out.trans (HB1.out.mono HBEL.out.size)⟩
        case measure => simp [intOf]; have := HK.out; omega
      · rw [decide_eq_false hxm] at hpla
        have HP := Lib.hid hpla
        have HS2 : Hid (RR (k + 1) = RS.take p ++ [x] ++ RS.drop p) := by show _ = _; rw [hst, ← hp, ins_split hri hxm]; simp
        obtain ⟨sx, hsx⟩ : ∃ sx, str x = sx := ⟨_, rfl⟩
        rw [hsx] at HP hcell
        have HSX := Lib.hid hsx.symm
        have hmw : IntKind.i64.wrap ((m : Int) + 1) = (m : Int) + 1 := by rw [IntKind.wrap_i64]; omega
        have hpi : (p : Int) ≤ (m : Int) := by omega
        have hpc : (p : Int) ≤ (c5 : Int) := by omega
        have hpc2 : p ≤ c5 := by omega
        have HBX : Hid (W.cell? ⟨b, o + k, none⟩ = some (.string sx)) := by rw [← hsx, ← hx]; exact hca
        clear hpla hxm hst hri hRS hx hm hown hi5 hn5 hca hbel hk1 hp hsx
        go_upto_region 7 with (go_at_call 79; refine (HP.out _ HI5.out).mono ?_; rintro e w1 ⟨rfl, hb1⟩; have HB1 := Lib.hid hb1; clear hb1)
        refine wpS_start (fun W' => Below wr.heap.size wr W') 9 (by kernel_rfl) rfl (fun RG HR => ?_)
        refine wpS_take HR (i := 0) (v := .slice A5 m c5) rfl (by decide +kernel) (by decide +kernel) (by decide +kernel) (fun _ _ _ h => h) (by rfl) (HB1.out.drew) (fun W' hW => by go_simp) ?_
        go_simp
        refine wpS_take HR (i := 1) (v := .int .i64 (m : Int)) rfl (by decide +kernel) (by decide +kernel) (by decide +kernel) (fun _ _ _ h => h) (by rfl) (HB1.out.drew) (fun W' hW => by go_simp) ?_
        go_simp
        refine wpS_take HR (i := 2) (v := .int .i64 ((m : Int) + 1)) rfl (by decide +kernel) (by decide +kernel) (by decide +kernel) (fun _ _ _ h => h) (by rfl) (HB1.out.drew) (fun W' hW => by go_simp) ?_
        go_simp
        refine wpS_take HR (i := 4) (v := .slice A5 m c5) rfl (by decide +kernel) (by decide +kernel) (by decide +kernel) (fun _ _ _ h => h) (by rfl) (HB1.out.drew) (fun W' hW => by go_simp) ?_
        go_simp
        refine wpS_take HR (i := 5) (v := .int .i64 (p : Int)) rfl (by decide +kernel) (by decide +kernel) (by decide +kernel) (fun _ _ _ h => h) (by rfl) (HB1.out.drew) (fun W' hW => by go_simp) ?_
        go_simp
        refine wpS_take HR (i := 6) (v := .slice A5 p c5) rfl (by decide +kernel) (by decide +kernel) (by decide +kernel) (fun _ _ _ h => h) (by rfl) (HB1.out.drew) (fun W' hW => by go_simp) ?_
        go_simp
        refine wpS_step1 HR (i := 3) (by decide +kernel) ?_
        refine stepS_list HR rfl rfl ?_
        intro K hK
        refine mk_strc wr rfl _ _ rfl _ (m + 1) rfl rfl (by omega) (by have := HM96.out; omega) HB1.out.drew ?_
        intro v2 w2 hown2 hbel2
        have O2 := Lib.hid hown2
        have E2 := Lib.hid hbel2
        clear hown2 hbel2
        refine (hK _ _ (E2.out) ?_)
        clear hK K
        go_simp
        refine wpS_step1 HR (i := 7) (by decide +kernel) ?_
        refine stepS_list HR rfl rfl ?_
        intro K hK
        refine app_strs wr rfl _ _ rfl v2 [] rfl O2.out E2.out A5 p c5 (RS.take p) rfl (by rw [List.length_take, HM.out]; have := HPM.out; omega) ((HI5.out.keep E2.out).take p) HN5.out (by rw [List.length_take]; have := HM96.out; have := HPM.out; simp; omega) ?_
        intro v3 w3 hown3 hbel3
        rw [List.nil_append] at hown3
        have O3 := Lib.hid hown3
        have E3 := Lib.hid hbel3
        clear hown3 hbel3
        refine (hK _ _ (E3.out) ?_)
        clear hK K
        go_simp
        refine wpS_take HR (i := 8) (v := v3) rfl (by decide +kernel) (by decide +kernel) (by decide +kernel) (fun _ _ _ h => h) (by rfl) (E3.out) (fun W' hW => by go_simp) ?_
        go_simp
        refine wpS_done HR (by decide +kernel) ?_
        have hc3 := cell_lo E3.out hcell
        clear hcell
        have HSZ1 : Hid ((RS.take p).length + [x].length ≤ 1700000000000) := by
          show _ ≤ _
          have := HM96.out; have := HPM.out
          rw [List.length_take, List.length_singleton]; omega
        have HSZ2 : Hid ((RS.take p ++ [x]).length + (RS.drop p).length ≤ 1700000000000) := by
          show _ ≤ _
          have := HM96.out; have := HPM.out; have := HM.out
          rw [List.length_append, List.length_take, List.length_singleton, List.length_drop]; omega
        have HDL : Hid (m - p = (RS.drop p).length) := by show _ = _; rw [List.length_drop, HM.out]
        rcases A5 with _ | ⟨b5, o5, s5⟩
        · obtain rfl := HI5.out.nil
          obtain rfl : m = 0 := HM.out.symm
          obtain rfl : p = 0 := by omega
          obtain rfl := HN5.out rfl
          go_upto_region 9 with ((refine app_strs wr rfl _ _ rfl v3 (([] : List Tx).take 0) rfl (World.ownsRow.alloc O3.out _) (E3.out.alloc E3.out.size _) (some ⟨_, 0, none⟩) 1 1 [x] rfl rfl (strs_one _ 9 x sx HSX.out) (by simp) HSZ1.out ?_; intro v4 w4 hown4 hbel4; have O4 := Lib.hid hown4; have E4 := Lib.hid hbel4; clear hown4 hbel4))
          go_wp2_with ((refine app_strs wr rfl _ _ rfl v4 (([] : List Tx).take 0 ++ [x]) rfl O4.out E4.out none _ _ (([] : List Tx).drop 0) rfl (by rw [List.length_drop, HM.out]) ((HI5.out.keep E4.out).drop 0) (fun _ => rfl) HSZ2.out ?_; intro v5 w5 hown5 hbel5; rw [← HS2.out] at hown5; have O5 := Lib.hid hown5; have E5 := Lib.hid hbel5; clear hown5 hbel5))
          go_roundw
          case rel => exact ⟨k + 1, HK.out, by go_num, O5.out.base HBEL.out.size, HBEL.out.trans (E5.out.mono HBEL.out.size)⟩
          case measure => simp [intOf]; have := HK.out; omega
        · have ho5 : o5 = 0 ∧ s5 = none := by
            have e := (HA5.out _ rfl).2
            injection e with _ e2 e3
            exact ⟨e2, e3⟩
          obtain ⟨rfl, rfl⟩ := ho5
          go_upto_region 9 with ((refine app_strs wr rfl _ _ rfl v3 (RS.take p) rfl (World.ownsRow.alloc O3.out _) (E3.out.alloc E3.out.size _) (some ⟨_, 0, none⟩) 1 1 [x] rfl rfl (strs_one _ 9 x sx HSX.out) (by simp) HSZ1.out ?_; intro v4 w4 hown4 hbel4; have O4 := Lib.hid hown4; have E4 := Lib.hid hbel4; clear hown4 hbel4))
          by_cases hpe : p = c5
          · obtain rfl : p = m := by have := HPM.out; omega
            subst hpe
            go_wp2_with ((refine app_strs wr rfl _ _ rfl v4 (RS.take p ++ [x]) rfl O4.out E4.out _ _ _ (RS.drop p) rfl (by have := HDL.out; omega) (fun k hk => absurd hk (by have := HDL.out; omega)) (fun h => by cases h) HSZ2.out ?_; intro v5 w5 hown5 hbel5; rw [← HS2.out] at hown5; have O5 := Lib.hid hown5; have E5 := Lib.hid hbel5; clear hown5 hbel5))
            go_roundw
            case rel => exact ⟨k + 1, HK.out, by go_num, O5.out.base HBEL.out.size, HBEL.out.trans (E5.out.mono HBEL.out.size)⟩
            case measure => simp [intOf]; have := HK.out; omega
          · have hpe2 : ¬ (p : Int) = (c5 : Int) := by omega
            have hpe3 : p < c5 := by omega
            go_wp2_with ((refine app_strs wr rfl _ _ rfl v4 (RS.take p ++ [x]) rfl O4.out E4.out (some ⟨b5, p, none⟩) _ _ (RS.drop p) rfl HDL.out (by have h : Strs w4 (some ⟨b5, 0 + p, none⟩) (RS.drop p) := (HI5.out.keep E4.out).drop p; rwa [Nat.zero_add] at h) (fun h => by cases h) HSZ2.out ?_; intro v5 w5 hown5 hbel5; rw [← HS2.out] at hown5; have O5 := Lib.hid hown5; have E5 := Lib.hid hbel5; clear hown5 hbel5))
            go_roundw
            case rel => exact ⟨k + 1, HK.out, by go_num, O5.out.base HBEL.out.size, HBEL.out.trans (E5.out.mono HBEL.out.size)⟩
            case measure => simp [intOf]; have := HK.out; omega
    · obtain rfl : k = n := by omega
      have HOWN := Lib.hid hown
      clear hown hi5 hn5 hl5 hlen hri hbel
      go_wp2
      go_ret
      exact ⟨_, rfl, HOWN.out, HBEL.out⟩
end Go.Proofs.YtfgmdaemcaamiaaDoor

/-! The document's Encode: what is no list, and form 0. -/
namespace Go.Proofs.YtfgmdaemcaamiaaDoor
open Go.RowKit
set_option linter.unusedVariables false

set_option maxHeartbeats 2000000 in
theorem renc_bad (f : Int) (A : Option Addr) (cap : Nat) (l : List Tx) (W : World) (hl : Strs W A l) (hn : l.length ≤ 9223372036854775807) (hs : ∀ x ∈ l, x.length ≤ 9223372036854775807) (h : (¬ f = 0 ∧ ¬ f = 1) ∨ ¬ rightT l) :
    Calls Tryd.prog 48 #[.int .i64 f, .slice A l.length cap] W fun e W' => e = .returned (.tuple #[.slice none 0 0, .int .i64 2]) ∧ Below W.heap.size W W' := by
  have HIS := Lib.hid (refright7_any A cap l W hl hn hs)
  generalize l.length = n at *
  by_cases h0 : f < 0
  · clear hl hs h
    generalize decide (rightT l) = dd at *
    go_enter Tryd.func48, Tryd.ntmps48
    go_wp2_with (go_at_call 76; refine HIS.out.mono ?_; rintro e w1 ⟨rfl, hb⟩; have HB := Lib.hid hb; clear hb)
    go_ret2
    exact ⟨rfl, HB.out⟩
  · by_cases h1 : 1 < f
    · clear hl hs h
      generalize decide (rightT l) = dd at *
      go_enter Tryd.func48, Tryd.ntmps48
      go_wp2_with (go_at_call 76; refine HIS.out.mono ?_; rintro e w1 ⟨rfl, hb⟩; have HB := Lib.hid hb; clear hb)
      go_ret2
      exact ⟨rfl, HB.out⟩
    · have hr : ¬ rightT l := fun hr' => h.elim (fun ⟨a, b⟩ => by omega) (fun k => k hr')
      rw [decide_eq_false hr] at HIS
      clear hl hs h hr
      go_enter Tryd.func48, Tryd.ntmps48
      go_wp2_with (go_at_call 76; refine HIS.out.mono ?_; rintro e w1 ⟨rfl, hb⟩; have HB := Lib.hid hb; clear hb)
      go_ret2
      exact ⟨rfl, HB.out⟩
theorem rtext_call (x : Tx) (w : World) (h : x.length ≤ 1024) : Calls Tryd.prog 78 #[.slice none 0 0, .string (str x)] w (MadeT w (txt x)) :=
  reftext_any none 0 (str x) [] w (by rw [str_size]; omega) (Byt.empty _ _) (fun _ => rfl) (by simp)

set_option maxRecDepth 100000 in
set_option maxHeartbeats 4000000 in
theorem renc0_any (A : Option Addr) (cap : Nat) (l : List Tx) (W : World) (hl : Strs W A l) (hr : rightT l) :
    Calls Tryd.prog 48 #[.int .i64 0, .slice A l.length cap] W (LaidT W (encT 0 l)) := by
  have his := refright7_any A cap l W hl (by have := hr.1; omega) (fun x hx => by have := hr.2 x hx; omega)
  rw [decide_eq_true hr] at his
  have HIS := Lib.hid his
  obtain ⟨DD, hDD⟩ : ∃ DD : Nat → List UInt8, DD = fun k => [0] ++ (l.take k).flatMap txt := ⟨_, rfl⟩
  have hfin : encT 0 l = DD l.length := by rw [hDD]; simp only [List.take_length]; rfl
  have hd0 : [0] = DD 0 := by rw [hDD]; simp
  have hst : ∀ k (h : k < l.length), DD (k + 1) = DD k ++ txt l[k] := fun k h => by
    rw [hDD]; simp only [List.take_succ_eq_append_getElem h, List.flatMap_append, List.flatMap_cons, List.flatMap_nil, List.append_nil, List.append_assoc]
  have hdl : ∀ k, (DD k).length ≤ 5000000 := fun k => by
    rw [hDD]
    exact own_app_len (by simp) (fun x hx => hr.2 x (List.mem_of_mem_take hx)) (Nat.le_trans (List.length_take_le' _ _) hr.1)
  rw [hfin]
  have HD0 := Lib.hid hd0
  have HL := Lib.hid hl
  have HSTEP := Lib.hid hst
  have HDL := Lib.hid hdl
  have HR := Lib.hid hr
  obtain ⟨n, hln⟩ : ∃ n, l.length = n := ⟨_, rfl⟩
  have HLN := Lib.hid hln
  have hn96 : n ≤ 4096 := by rw [← hln]; exact hr.1
  rw [hln] at HIS ⊢
  clear hDD hfin hd0 hst hdl hl hr hln his
  go_enter Tryd.func48, Tryd.ntmps48
  go_wp2_with (go_at_call 76; refine HIS.out.mono ?_; rintro e w1 ⟨rfl, hb⟩; have HB := Lib.hid hb; clear hb)
  go_loopw [7, 9] (fun v i wr => ∃ k : Nat, k ≤ n ∧ i = .int .i64 k ∧ Own wr W.heap.size v (DD k) ∧ Below W.heap.size W wr) (fun _ i _ => n - (intOf i).toNat)
  case atStart => exact ⟨0, by omega, rfl, by rw [← HD0.out]; exact (own_byte w1 0).base HB.out.size, HB.out.alloc HB.out.size _⟩
  case round =>
    obtain ⟨k, hk, rfl, hown, hbel⟩ := hrel
    obtain ⟨Ab, cb, rfl, _, _, _, _⟩ := hown.form
    obtain ⟨bb, hbb⟩ : ∃ bb, DD k = bb := ⟨_, rfl⟩
    rw [hbb] at hown ⊢
    obtain ⟨nb, hnb⟩ : ∃ nb, bb.length = nb := ⟨_, rfl⟩
    rw [hnb] at hown ⊢
    have HOWN := Lib.hid hown
    have HBEL := Lib.hid hbel
    by_cases hlt : k < n
    · have hk1 : k < l.length := by rw [HLN.out]; exact hlt
      obtain ⟨b, o, rfl, hca⟩ := HL.out k hk1
      have hcell := cell_lo hbel hca
      have hs := HSTEP.out k hk1
      have hbl := HDL.out k
      have hxl := HR.out.2 _ (List.getElem_mem hk1)
      have hcall := fun w => rtext_call l[k] w hxl
      have htl := txt_len hxl
      generalize txt l[k] = tx at hs hcall htl
      generalize str l[k] = sx at hcell hcall
      rw [hbb] at hs hbl
      unfold MadeT at hcall
      have HCALL := Lib.hid hcall
      have HST := Lib.hid hs
      have HLE : Hid (bb.length + tx.length ≤ 140737488355328) := by show _ ≤ _; omega
      have HK : Hid (k < n) := hlt
      clear hs hcall hown hbel hbb hnb hca hk1 hbl hxl htl
      go_wp2_with (first | (go_at_call 78; refine (HCALL.out _).mono ?_; rintro e w1 ⟨v1, rfl, ho1, hb1⟩; obtain ⟨A1, c1, rfl, hy1, hn1, _, _⟩ := ho1.form; have HY1 := Lib.hid hy1; have HN1 := Lib.hid hn1; have O1 := Lib.hid (HOWN.out.below hb1); have E1 := Lib.hid (HBEL.out.trans (hb1.mono HBEL.out.size)); obtain ⟨n1, hn11⟩ : ∃ x, tx.length = x := ⟨_, rfl⟩; have HN11 := Lib.hid hn11; rw [hn11]; clear ho1 hb1 hy1 hn1 hn11) | (refine app_byt W rfl _ _ rfl (.slice Ab nb cb) bb rfl O1.out E1.out A1 n1 c1 tx rfl HN11.out.symm HY1.out HN1.out (by have := HLE.out; omega) ?_; intro v6 w6 hown6 hbel6 _; rw [← HST.out] at hown6; have O6 := Lib.hid hown6; have E6 := Lib.hid hbel6; clear hown6 hbel6))
      go_roundw
      case rel => exact ⟨k + 1, HK.out, by go_num, O6.out, E6.out⟩
      case measure => simp [intOf]; have := HK.out; omega
    · obtain rfl : k = n := by omega
      have HBB := Lib.hid hbb
      clear hown hbel hbb hnb
      go_wp2
      go_ret2
      exact ⟨_, rfl, by rw [HBB.out]; exact HOWN.out, HBEL.out⟩
end Go.Proofs.YtfgmdaemcaamiaaDoor

/-! The document's Encode: form 1. -/
namespace Go.Proofs.YtfgmdaemcaamiaaDoor
open Go.RowKit
set_option linter.unusedVariables false

theorem num_oneD (w : World) (t : TypeId) (x : Int) (s : W64) (hx : x = (s.toNat : Int)) : Num (w.alloc (.cells #[Value.int .u64 x] t)) (some ⟨w.heap.size, 0, none⟩) [s] := by
  subst hx
  intro i hi
  have h0 : i = 0 := by simpa using hi
  subst h0
  exact ⟨w.heap.size, 0, rfl, (Blk.born w t [Value.int .u64 (s.toNat : Int)]).at_ 0⟩

theorem own_below {w w' : World} {B : Nat} {v : Value} {l : List W64} (h : OwnN w B v l) (hb : Below w.heap.size w w') : OwnN w' B v l := by
  refine ⟨h.1, ?_⟩
  rcases h.2 with hn | ⟨g, cap, cur, rfl, hg0, hg, rest⟩
  · exact .inl hn
  · exact .inr ⟨g, cap, cur, rfl, hg0, (hb.block g (lt_of_block hg)).trans hg, rest⟩
set_option maxRecDepth 100000 in
set_option maxHeartbeats 1000000 in
theorem renc1_any (A : Option Addr) (cap : Nat) (l : List Tx) (W : World) (hl : Strs W A l) (hr : rightT l) :
    Calls Tryd.prog 48 #[.int .i64 1, .slice A l.length cap] W (LaidT W (encT 1 l)) := by
  have his := refright7_any A cap l W hl (by have := hr.1; omega) (fun x hx => by have := hr.2 x hx; omega)
  rw [decide_eq_true hr] at his
  have HIS := Lib.hid his
  have HRIS := Lib.hid (fun (w1 : World) (h : Below W.heap.size W w1) => rising_any A cap l w1 (hl.keep h) hr)
  have hrr := rise_right hr
  obtain ⟨R, hR⟩ : ∃ R, riseL l = R := ⟨_, rfl⟩
  obtain ⟨D, hD⟩ : ∃ D, l.map (plW R) = D := ⟨_, rfl⟩
  have hDl : D.length = l.length := by rw [← hD, List.length_map]
  have hDs : ∀ k (h : k < l.length), D.take (k + 1) = D.take k ++ [plW R l[k]] := fun k h => by
    rw [List.take_succ_eq_append_getElem (by rw [hDl]; exact h)]; subst hD; simp
  have hri : Rise R := by rw [← hR]; exact rise_rise l
  have hfin : encT 1 l = (([1] ++ num R.length ++ R.flatMap txt) ++ [UInt8.ofNat (widL D)]) ++ pkB (widL D : Int) D := by
    rw [← hD, ← hR]
    show UInt8.ofNat 1 :: (num (riseL l).length ++ (riseL l).flatMap txt ++ packD (l.map (plW (riseL l)))) = _
    unfold packD
    simp
  have htot := encT_len (f := 1) hr
  rw [hfin] at htot ⊢
  rw [hR] at hrr HRIS
  have hwl := widL_le D
  have hd96 : D.length ≤ 4096 := by rw [hDl]; exact hr.1
  have HWID := Lib.hid (fun (A : Option Addr) (c : Nat) (w1 : World) (h : Num w1 A D) => refwidth_any A c D w1 h (by omega))
  have HPK : Hid (∀ (A : Option Addr) (c : Nat) (w1 : World), Num w1 A D → Calls Tryd.prog 26 #[.int .i64 (widL D : Int), .slice A D.length c] w1 fun e W' => e = .returned (.tuple #[.slice (some ⟨w1.heap.size, 0, none⟩) (pkB (widL D : Int) D).length (pkB (widL D : Int) D).length, .int .i64 0]) ∧ Blk W' w1.heap.size 5 (u8s (pkB (widL D : Int) D)) ∧ Below w1.heap.size w1 W') := fun A c w1 h => by
    have e : pkB (widL D : Int) D = packL ((D.length * widL D + 7) / 8) (bitsP (widL D) D) := if_pos (pkE_zero.1 (packE_self hd96))
    rw [e, packL_len]
    refine (refpack_any (widL D) A c D w1 h hwl hd96).mono ?_
    rintro x W' (⟨_, h1, h2, h3⟩ | ⟨h, _⟩)
    · exact ⟨h1, h2, h3⟩
    · omega
  have hcv : IntKind.u8.wrap ((widL D : Nat) : Int) = ((UInt8.ofNat (widL D)).toNat : Int) := by rw [IntKind.wrap_u8, UInt8.toNat_ofNat']; omega
  obtain ⟨wc, hwc⟩ : ∃ wc, UInt8.ofNat (widL D) = wc := ⟨_, rfl⟩
  rw [hwc] at hcv htot ⊢
  obtain ⟨pk, hpk⟩ : ∃ pk, pkB (widL D : Int) D = pk := ⟨_, rfl⟩
  rw [hpk] at HPK htot ⊢
  generalize widL D = wd at *
  obtain ⟨b1, hb1⟩ : ∃ x, [1] ++ num R.length = x := ⟨_, rfl⟩
  have hb1l : b1.length ≤ 11 := by rw [← hb1, List.length_append]; have := (num_len R.length).2; simp; omega
  have HNUMB := Lib.hid (fun (A0 : Option Addr) (w1 : World) (h : Byt w1 A0 [1]) (hA : A0 = none → (1 : Nat) = 0) => refnumber_any A0 1 R.length [1] w1 h hA (by simp) (by have := hrr.1; omega))
  rw [hb1] at htot HNUMB ⊢
  obtain ⟨DD, hDD⟩ : ∃ DD : Nat → List UInt8, DD = fun k => b1 ++ (R.take k).flatMap txt := ⟨_, rfl⟩
  have hfn : b1 ++ R.flatMap txt = DD R.length := by rw [hDD]; simp only [List.take_length]
  have hd0 : b1 = DD 0 := by rw [hDD]; simp
  have hst : ∀ k (h : k < R.length), DD (k + 1) = DD k ++ txt R[k] := fun k h => by
    rw [hDD]; simp only [List.take_succ_eq_append_getElem h, List.flatMap_append, List.flatMap_cons, List.flatMap_nil, List.append_nil, List.append_assoc]
  have hdl : ∀ k, (DD k).length ≤ 5000000 := fun k => by
    rw [hDD]
    exact own_app_len (by omega) (fun x hx => hrr.2 x (List.mem_of_mem_take hx)) (Nat.le_trans (List.length_take_le' _ _) hrr.1)
  obtain ⟨b2, hb2⟩ : ∃ x, b1 ++ R.flatMap txt = x := ⟨_, rfl⟩
  rw [hb2] at htot hfn ⊢
  obtain ⟨b3, hb3⟩ : ∃ x, b2 ++ [wc] = x := ⟨_, rfl⟩
  rw [hb3] at htot ⊢
  have HTOT : Hid (b2.length + 1 = b3.length ∧ b3.length + pk.length ≤ 5000000) := by
    refine ⟨by rw [← hb3, List.length_append]; rfl, ?_⟩
    rw [List.length_append] at htot
    exact htot
  have HD0 := Lib.hid hd0
  have HSTEP := Lib.hid hst
  have HDL := Lib.hid hdl
  have HFN := Lib.hid hfn
  have HB3 := Lib.hid hb3
  have HCV := Lib.hid hcv
  have HRR := Lib.hid hrr
  have HDS := Lib.hid hDs
  have HRI := Lib.hid hri
  have HL := Lib.hid hl
  obtain ⟨m, hm⟩ : ∃ x, R.length = x := ⟨_, rfl⟩
  obtain ⟨n, hln⟩ : ∃ x, l.length = x := ⟨_, rfl⟩
  rw [hln] at hDl
  rw [hDl] at HPK HWID
  rw [hm] at HNUMB HFN
  rw [hln] at HIS HRIS ⊢
  obtain ⟨np, hnp⟩ : ∃ x, pk.length = x := ⟨_, rfl⟩
  obtain ⟨n2, hn2⟩ : ∃ x, b2.length = x := ⟨_, rfl⟩
  obtain ⟨n3, hn3⟩ : ∃ x, b3.length = x := ⟨_, rfl⟩
  rw [hnp] at HPK
  have HN2 := Lib.hid hn2
  have HN3 := Lib.hid hn3
  have HNP := Lib.hid hnp
  have HM := Lib.hid hm
  have HLN := Lib.hid hln
  have HDLN := Lib.hid hDl
  have hn96 : n ≤ 4096 := by rw [← hln]; exact hr.1
  have hm96 : m ≤ 4096 := by rw [← hm]; exact hrr.1
  have hmu : IntKind.u64.wrap (m : Int) = (m : Int) := by rw [IntKind.wrap_u64]; omega
  unfold Made at HNUMB
  clear hl hr his hrr hR hD hDl hDs hri hfin htot hwl hd96 hcv hwc hpk hb1 hb1l hDD hfn hd0 hst hdl hb2 hb3 hm hln hnp hn2 hn3
  go_enter Tryd.func48, Tryd.ntmps48
  go_wp2_with (first | (go_at_call 76; refine HIS.out.mono ?_; rintro e w1 ⟨rfl, hb⟩; have HB := Lib.hid hb; clear hb) | (go_at_call 77; refine (HRIS.out _ (HB.out.alloc HB.out.size _)).mono ?_; rintro e w2 ⟨vR, rfl, hoR, hbR⟩; obtain ⟨AR, cR, rfl, hSR, hq1, hq2, hq3⟩ := hoR.form; clear hq1 hq2 hq3; rw [HM.out]; have HSR := Lib.hid hSR; have HY1 : Hid (Byt w2 (some ⟨w1.heap.size, 0, none⟩) [1]) := (byt_one w1 1 _ rfl).keep hbR; have E2 : Hid (Below W.heap.size W w2) := (HB.out.alloc HB.out.size _).trans (hbR.mono (HB.out.alloc HB.out.size _).size); clear hoR hbR hSR) | (go_at_call 25; refine (HNUMB.out _ w2 HY1.out (by simp)).mono ?_; rintro e w3 ⟨v3, rfl, ho3, hb3⟩; rw [HD0.out] at ho3; have O3 := Lib.hid ho3; have E3 := Lib.hid hb3; clear ho3 hb3))
  go_loopw [7, 9] (fun v i wr => ∃ k : Nat, k ≤ m ∧ i = .int .i64 k ∧ Own wr w2.heap.size v (DD k) ∧ Below w2.heap.size w2 wr) (fun _ i _ => m - (intOf i).toNat)
  case atStart => exact ⟨0, by omega, rfl, O3.out, E3.out⟩
  case round =>
    obtain ⟨k, hk, rfl, hown, hbel⟩ := hrel
    obtain ⟨Ab, cb, rfl, _, _, _, _⟩ := hown.form
    obtain ⟨bb, hbb⟩ : ∃ bb, DD k = bb := ⟨_, rfl⟩
    rw [hbb] at hown ⊢
    obtain ⟨nb, hnb⟩ : ∃ nb, bb.length = nb := ⟨_, rfl⟩
    rw [hnb] at hown ⊢
    have HOWN := Lib.hid hown
    have HBEL := Lib.hid hbel
    by_cases hlt : k < m
    · have hk1 : k < R.length := by rw [HM.out]; exact hlt
      obtain ⟨b, o, rfl, hca⟩ := (HSR.out.keep hbel) k hk1
      have hcell := hca
      have hs := HSTEP.out k hk1
      have hbl := HDL.out k
      have hxl := HRR.out.2 _ (List.getElem_mem hk1)
      have hcall := fun w => rtext_call R[k] w hxl
      have htl := txt_len hxl
      generalize txt R[k] = tx at hs hcall htl
      generalize str R[k] = sx at hcell hcall
      rw [hbb] at hs hbl
      unfold MadeT at hcall
      have HCALL := Lib.hid hcall
      have HST := Lib.hid hs
      have HLE : Hid (bb.length + tx.length ≤ 140737488355328) := by show _ ≤ _; omega
      have HK : Hid (k < m) := hlt
      clear hs hcall hown hbel hbb hnb hca hk1 hbl hxl htl
      go_wp2_with (first | (go_at_call 78; refine (HCALL.out _).mono ?_; rintro e w1 ⟨v1, rfl, ho1, hb1⟩; obtain ⟨A1, c1, rfl, hy1, hn1, _, _⟩ := ho1.form; have HY1 := Lib.hid hy1; have HN1 := Lib.hid hn1; have O1 := Lib.hid (HOWN.out.below hb1); have E1 := Lib.hid (HBEL.out.trans (hb1.mono HBEL.out.size)); obtain ⟨n1, hn11⟩ : ∃ x, tx.length = x := ⟨_, rfl⟩; have HN11 := Lib.hid hn11; rw [hn11]; clear ho1 hb1 hy1 hn1 hn11) | (refine app_byt w2 rfl _ _ rfl (.slice Ab nb cb) bb rfl O1.out E1.out A1 n1 c1 tx rfl HN11.out.symm HY1.out HN1.out (by have := HLE.out; omega) ?_; intro v6 w6 hown6 hbel6 _; rw [← HST.out] at hown6; have O6 := Lib.hid hown6; have E6 := Lib.hid hbel6; clear hown6 hbel6))
      go_roundw
      case rel => exact ⟨k + 1, HK.out, by go_num, O6.out, E6.out⟩
      case measure => simp [intOf]; have := HK.out; omega
    · obtain rfl : k = m := by omega
      have hb2e : bb = b2 := hbb.symm.trans HFN.out.symm
      subst hb2e
      have hnbe : nb = n2 := hnb.symm.trans HN2.out
      subst hnbe
      have hSR5 := HSR.out.keep hbel
      have HSR5 := Lib.hid hSR5
      have E5 : Hid (Below W.heap.size W wr) := E2.out.trans (hbel.mono E2.out.size)
      have O5 : Hid (Own wr W.heap.size (.slice Ab nb cb) bb) := hown.base E2.out.size
      clear hown hbel hbb hnb hSR5 HOWN HBEL HSTEP HDL HSR hlt hk
      generalize wr = wm at *
      go_wp2
      go_loopw [12, 13] (fun v i wr => ∃ k : Nat, k ≤ n ∧ i = .int .i64 k ∧ OwnN wr wm.heap.size v (D.take k) ∧ Below wm.heap.size wm wr) (fun _ i _ => n - (intOf i).toNat)
      case atStart => exact ⟨0, by omega, rfl, World.ownsRow_nil wm _ _ _, Below.refl _ _⟩
      case round =>
        obtain ⟨j, hj, rfl, hown, hbel⟩ := hrel
        obtain ⟨AN, cN, rfl, hnum, hc5⟩ := hown.form
        have hkl : (D.take j).length = j := by rw [List.length_take, HDLN.out]; omega
        have HOWN5 := Lib.hid hown
        have HBEL5 := Lib.hid hbel
        by_cases hlt : j < n
        · have hj1 : j < l.length := by rw [HLN.out]; exact hlt
          obtain ⟨b, o, rfl, hca⟩ := HL.out j hj1
          have hcell := cell_lo (E5.out.trans (hbel.mono E5.out.size)) hca
          have hs := HDS.out j hj1
          obtain ⟨x, hx⟩ : ∃ x, l[j] = x := ⟨_, rfl⟩
          rw [hx] at hs hcell
          have hpla := fun (w : World) (h : Strs w AR R) => place_any AR cR R x w h HRI.out (by have := HM.out; omega)
          have hz : ((plc R x : Nat) : Int) = ((plW R x).toNat : Int) := by
            have := plc_le R x
            have := HM.out
            unfold plW; rw [BitVec.toNat_ofNat]; omega
          have hpm : plc R x ≤ 4096 := by have := plc_le R x; have := HM.out; omega
          rw [HM.out] at hpla
          obtain ⟨sw, hsw⟩ : ∃ sw, plW R x = sw := ⟨_, rfl⟩
          rw [hsw] at hs hz
          generalize plc R x = p at *
          have hpw : IntKind.u64.wrap (p : Int) = (p : Int) := by rw [IntKind.wrap_u64]; omega
          generalize decide (x ∈ R) = dd at *
          generalize str x = sx at *
          have HP := Lib.hid hpla
          have HS := Lib.hid hs
          have HZ := Lib.hid hz
          have HK : Hid (j < n) := hlt
          have HKL : Hid ((D.take j).length + 1 ≤ 17000000000000) := by show _ ≤ _; omega
          have HSR6 := Lib.hid (HSR5.out.keep hbel)
          rw [hkl] at HOWN5 ⊢
          clear hs hown hbel hnum hc5 hkl hz hsw hx hca hj1 hpla
          go_wp2_with (first | (go_at_call 79; refine (HP.out _ HSR6.out).mono ?_; rintro e w1 ⟨rfl, hb1⟩; have O1 : Hid (OwnN w1 wm.heap.size (.slice AN j cN) (D.take j)) := own_below HOWN5.out hb1; have E1 := Lib.hid (HBEL5.out.trans (hb1.mono HBEL5.out.size)); clear hb1) | (refine app_num wm rfl _ _ rfl (.slice AN j cN) (D.take j) rfl (World.ownsRow.alloc O1.out _) (E1.out.alloc E1.out.size _) (some ⟨_, 0, none⟩) 1 1 [sw] rfl rfl (num_oneD _ _ _ sw HZ.out) (by simp) HKL.out ?_; intro v6 w6 hown6 hbel6; rw [← HS.out] at hown6; have O6 := Lib.hid hown6; have E6 := Lib.hid hbel6; clear hown6 hbel6))
          go_roundw
          case rel => exact ⟨j + 1, HK.out, by go_num, O6.out, E6.out⟩
          case measure => simp [intOf]; have := HK.out; omega
        · obtain rfl : j = n := by omega
          have hDj : D.take j = D := List.take_of_length_le (by rw [HDLN.out]; exact Nat.le_refl _)
          rw [hDj] at hnum hown hkl ⊢
          have HNUM := Lib.hid hnum
          obtain ⟨X, hX⟩ : ∃ X, wr.heap.size = X := ⟨_, rfl⟩
          have o5 := O5.out.below hbel
          have HNX : Hid ((Value.slice Ab nb cb).ownBlock ≠ some X) := (fun e => by have h1 := (World.ownsRow.lt o5 X e).2; omega)
          have OW := Lib.hid o5
          have EW : Hid (Below W.heap.size W wr) := E5.out.trans (hbel.mono E5.out.size)
          have HXX := Lib.hid hX
          rw [hkl]
          clear hDj hnum hown hbel hc5 o5 hX hkl HOWN5 HBEL5 HSR5 HRI HDS HL
          go_wp2_with (first | (go_at_call 80; refine (HWID.out _ _ _ HNUM.out).mono ?_; rintro e w5 ⟨rfl, rfl⟩) | (go_at_call 26; refine (HPK.out _ _ _ HNUM.out).mono ?_; rintro e w6 ⟨rfl, y6, hb6⟩; have O6 := Lib.hid (OW.out.below hb6); have E6 : Hid (Below W.heap.size W w6) := EW.out.trans (hb6.mono EW.out.size); rw [HXX.out] at y6 ⊢; have Y6 := Lib.hid y6; clear y6 hb6) | (refine app_byt W rfl _ _ rfl (.slice Ab nb cb) bb rfl (O6.out.alloc _) (E6.out.alloc E6.out.size _) (some ⟨w6.heap.size, 0, none⟩) 1 1 [wc] rfl rfl (byt_one w6 wc _ HCV.out) (by simp) (by have := HTOT.out; simp; omega) ?_; intro v7 w7 hown7 hbel7 hg7; rw [HB3.out] at hown7; have Y7 := Lib.hid (blk_grown hg7.1 (Y6.out.later _) HNX.out); obtain ⟨A7, c7, rfl, _, _, _, _⟩ := hown7.form; rw [HN3.out] at hown7 ⊢; have O7 := Lib.hid hown7; have E7 := Lib.hid hbel7; clear hown7 hbel7 hg7) | (refine app_byt W rfl _ _ rfl (.slice A7 n3 c7) b3 rfl O7.out E7.out (some ⟨X, 0, none⟩) np np pk rfl HNP.out.symm Y7.out.byt (by simp) (by have := HTOT.out; omega) ?_; intro v8 w8 hown8 hbel8 _; have O8 := Lib.hid hown8; have E8 := Lib.hid hbel8; clear hown8 hbel8))
          go_ret2
          exact ⟨_, rfl, O8.out, E8.out⟩
end Go.Proofs.YtfgmdaemcaamiaaDoor

/-! Best, on both sides; the walk of stackyardlaw07.DictWords. -/
namespace Go.Proofs.YtfgmdaemcaamiaaDoor
open Go.RowKit
set_option linter.unusedVariables false

/-- The form that takes fewer bytes. -/
def bestT (l : List Tx) : Int := if (encT 1 l).length < (encT 0 l).length then 1 else 0

set_option maxHeartbeats 2000000 in
theorem tbest_no (A : Option Addr) (cap : Nat) (l : List Tx) (W : World) (hl : Strs W A l) (hn : l.length ≤ 9223372036854775807) (hs : ∀ x ∈ l, x.length ≤ 9223372036854775807) (hr : ¬ rightT l) :
    Calls Tryd.prog 40 #[.slice A l.length cap] W fun e W' => e = .returned (.tuple #[.int .i64 0, .int .i64 2]) ∧ Below W.heap.size W W' := by
  have HE := Lib.hid (fun (f : Int) (w1 : World) (h : Below W.heap.size W w1) => tenc_bad f A cap l w1 (hl.keep h) hn hs (.inr hr))
  have HREF : Hid (Below W.heap.size W W) := Below.refl _ _
  generalize l.length = n at *
  have tok1 : True := trivial
  clear hl hs hr
  go_enter Tryd.func40, Tryd.ntmps40
  go_wp2_with (first | (go_at_call 41; have _t := tok1; clear tok1; refine (HE.out 0 _ HREF.out).mono ?_; rintro e w1 ⟨rfl, hb⟩; have HB := Lib.hid hb; clear hb) | (go_at_call 41; refine (HE.out 1 _ HB.out).mono ?_; rintro e w2 ⟨rfl, hb2⟩; have HB2 := Lib.hid (HB.out.trans (hb2.mono HB.out.size)); clear hb2))
  go_ret2
  exact ⟨rfl, by first | exact HB2.out | exact HB.out⟩
set_option maxHeartbeats 2000000 in
theorem tbest_yes (A : Option Addr) (cap : Nat) (l : List Tx) (W : World) (hl : Strs W A l) (hr : rightT l) (hT : TabAt W) :
    Calls Tryd.prog 40 #[.slice A l.length cap] W fun e W' => e = .returned (.tuple #[.int .i64 (bestT l), .int .i64 0]) ∧ Below W.heap.size W W' := by
  have HE0 := Lib.hid (fun (w1 : World) (h : Below W.heap.size W w1) => tenc0_any A cap l w1 (hl.keep h) hr)
  have HE1 := Lib.hid (fun (w1 : World) (h : Below W.heap.size W w1) => tenc1_any A cap l w1 (hl.keep h) hr (hT.keep h))
  have HREF : Hid (Below W.heap.size W W) := Below.refl _ _
  unfold LaidT at HE0 HE1
  unfold bestT
  have k0 := encT_len (f := 0) hr
  have k1 := encT_len (f := 1) hr
  generalize encT 0 l = e0 at *
  generalize encT 1 l = e1 at *
  obtain ⟨n0, hn0⟩ : ∃ n, e0.length = n := ⟨_, rfl⟩
  obtain ⟨n1, hn1⟩ : ∃ n, e1.length = n := ⟨_, rfl⟩
  rw [hn0] at k0 ⊢
  rw [hn1] at k1 ⊢
  have HN0 := Lib.hid hn0
  have HN1 := Lib.hid hn1
  generalize l.length = n at *
  have tok1 : True := trivial
  clear hl hr hT hn0 hn1
  obtain ⟨bv, hbv⟩ : ∃ bv : Int, (if n1 < n0 then (1 : Int) else 0) = bv := ⟨_, rfl⟩
  rw [hbv]
  have hb1 : n1 < n0 → bv = 1 ∧ (n1 : Int) < (n0 : Int) := fun h => ⟨by rw [← hbv, if_pos h], by omega⟩
  have hb0 : ¬ n1 < n0 → bv = 0 ∧ ¬ (n1 : Int) < (n0 : Int) := fun h => ⟨by rw [← hbv, if_neg h], by omega⟩
  clear hbv
  by_cases hlt : n1 < n0
  all_goals
    first | (have hq := hb1 hlt) | (have hq := hb0 hlt)
    clear hb1 hb0
    obtain ⟨rfl, hli⟩ := hq
    go_enter Tryd.func40, Tryd.ntmps40
    go_wp2_with (first | (go_at_call 41; have _t := tok1; clear tok1; refine (HE0.out _ HREF.out).mono ?_; rintro e w1 ⟨v1, rfl, ho, hb⟩; obtain ⟨A1, c1, rfl, _, _, _, _⟩ := ho.form; rw [HN0.out]; have HB := Lib.hid hb; clear hb ho) | (go_at_call 41; refine (HE1.out _ HB.out).mono ?_; rintro e w2 ⟨v2, rfl, ho, hb2⟩; obtain ⟨A2, c2, rfl, _, _, _, _⟩ := ho.form; rw [HN1.out]; have HB2 := Lib.hid (HB.out.trans (hb2.mono HB.out.size)); clear hb2 ho))
    go_ret2
    exact ⟨rfl, HB2.out⟩

set_option maxHeartbeats 2000000 in
theorem rbest_no (A : Option Addr) (cap : Nat) (l : List Tx) (W : World) (hl : Strs W A l) (hn : l.length ≤ 9223372036854775807) (hs : ∀ x ∈ l, x.length ≤ 9223372036854775807) (hr : ¬ rightT l) :
    Calls Tryd.prog 47 #[.slice A l.length cap] W fun e W' => e = .returned (.tuple #[.int .i64 0, .int .i64 2]) ∧ Below W.heap.size W W' := by
  have HE := Lib.hid (fun (f : Int) (w1 : World) (h : Below W.heap.size W w1) => renc_bad f A cap l w1 (hl.keep h) hn hs (.inr hr))
  have HREF : Hid (Below W.heap.size W W) := Below.refl _ _
  generalize l.length = n at *
  have tok1 : True := trivial
  clear hl hs hr
  go_enter Tryd.func47, Tryd.ntmps47
  go_wp2_with (first | (go_at_call 48; have _t := tok1; clear tok1; refine (HE.out 0 _ HREF.out).mono ?_; rintro e w1 ⟨rfl, hb⟩; have HB := Lib.hid hb; clear hb) | (go_at_call 48; refine (HE.out 1 _ HB.out).mono ?_; rintro e w2 ⟨rfl, hb2⟩; have HB2 := Lib.hid (HB.out.trans (hb2.mono HB.out.size)); clear hb2))
  go_ret2
  exact ⟨rfl, by first | exact HB2.out | exact HB.out⟩
set_option maxHeartbeats 2000000 in
theorem rbest_yes (A : Option Addr) (cap : Nat) (l : List Tx) (W : World) (hl : Strs W A l) (hr : rightT l) (hT : TabAt W) :
    Calls Tryd.prog 47 #[.slice A l.length cap] W fun e W' => e = .returned (.tuple #[.int .i64 (bestT l), .int .i64 0]) ∧ Below W.heap.size W W' := by
  have HE0 := Lib.hid (fun (w1 : World) (h : Below W.heap.size W w1) => renc0_any A cap l w1 (hl.keep h) hr)
  have HE1 := Lib.hid (fun (w1 : World) (h : Below W.heap.size W w1) => renc1_any A cap l w1 (hl.keep h) hr)
  have HREF : Hid (Below W.heap.size W W) := Below.refl _ _
  unfold LaidT at HE0 HE1
  unfold bestT
  have k0 := encT_len (f := 0) hr
  have k1 := encT_len (f := 1) hr
  generalize encT 0 l = e0 at *
  generalize encT 1 l = e1 at *
  obtain ⟨n0, hn0⟩ : ∃ n, e0.length = n := ⟨_, rfl⟩
  obtain ⟨n1, hn1⟩ : ∃ n, e1.length = n := ⟨_, rfl⟩
  rw [hn0] at k0 ⊢
  rw [hn1] at k1 ⊢
  have HN0 := Lib.hid hn0
  have HN1 := Lib.hid hn1
  generalize l.length = n at *
  have tok1 : True := trivial
  clear hl hr hT hn0 hn1
  obtain ⟨bv, hbv⟩ : ∃ bv : Int, (if n1 < n0 then (1 : Int) else 0) = bv := ⟨_, rfl⟩
  rw [hbv]
  have hb1 : n1 < n0 → bv = 1 ∧ (n1 : Int) < (n0 : Int) := fun h => ⟨by rw [← hbv, if_pos h], by omega⟩
  have hb0 : ¬ n1 < n0 → bv = 0 ∧ ¬ (n1 : Int) < (n0 : Int) := fun h => ⟨by rw [← hbv, if_neg h], by omega⟩
  clear hbv
  by_cases hlt : n1 < n0
  all_goals
    first | (have hq := hb1 hlt) | (have hq := hb0 hlt)
    clear hb1 hb0
    obtain ⟨rfl, hli⟩ := hq
    go_enter Tryd.func47, Tryd.ntmps47
    go_wp2_with (first | (go_at_call 48; have _t := tok1; clear tok1; refine (HE0.out _ HREF.out).mono ?_; rintro e w1 ⟨v1, rfl, ho, hb⟩; obtain ⟨A1, c1, rfl, _, _, _, _⟩ := ho.form; rw [HN0.out]; have HB := Lib.hid hb; clear hb ho) | (go_at_call 48; refine (HE1.out _ HB.out).mono ?_; rintro e w2 ⟨v2, rfl, ho, hb2⟩; obtain ⟨A2, c2, rfl, _, _, _, _⟩ := ho.form; rw [HN1.out]; have HB2 := Lib.hid (HB.out.trans (hb2.mono HB.out.size)); clear hb2 ho))
    go_ret2
    exact ⟨rfl, HB2.out⟩

/-- What encoding hands back: bytes, and whether. -/
def EncRT (W : World) (bs : List UInt8) (er : Int) (e : Ending) (W' : World) : Prop :=
  ∃ A' c', e = .returned (.tuple #[.slice A' bs.length c', .int .i64 er]) ∧ Byt W' A' bs ∧ Below W.heap.size W W'
theorem LaidT.enc {W : World} {bs : List UInt8} {e : Ending} {W' : World} (h : LaidT W bs e W') : EncRT W bs 0 e W' := by
  obtain ⟨v, rfl, ho, hb⟩ := h
  obtain ⟨A, c, rfl, hy, _, _, _⟩ := ho.form
  exact ⟨A, c, rfl, hy, hb⟩
theorem encs7_any (f : Int) (A : Option Addr) (cap : Nat) (l : List Tx) (W0 : World) (hl : Strs W0 A l) (hn : l.length ≤ 9223372036854775807) (hs : ∀ x ∈ l, x.length ≤ 9223372036854775807) (hT : TabAt W0) :
    ∃ bs er, (∀ W : World, Below W0.heap.size W0 W → Calls Tryd.prog 41 #[.int .i64 f, .slice A l.length cap] W (EncRT W bs er)) ∧ (∀ W : World, Below W0.heap.size W0 W → Calls Tryd.prog 48 #[.int .i64 f, .slice A l.length cap] W (EncRT W bs er)) := by
  by_cases hok : (¬ f = 0 ∧ ¬ f = 1) ∨ ¬ rightT l
  · refine ⟨[], 2, fun W hb => ?_, fun W hb => ?_⟩
    · refine (tenc_bad f A cap l W (hl.keep hb) hn hs hok).mono ?_
      rintro e W' ⟨rfl, h⟩
      exact ⟨_, _, rfl, Byt.empty _ _, h⟩
    · refine (renc_bad f A cap l W (hl.keep hb) hn hs hok).mono ?_
      rintro e W' ⟨rfl, h⟩
      exact ⟨_, _, rfl, Byt.empty _ _, h⟩
  · have hr : rightT l := Classical.byContradiction fun h => hok (.inr h)
    by_cases h0 : f = 0
    · subst h0
      exact ⟨encT 0 l, 0, fun W hb => (tenc0_any A cap l W (hl.keep hb) hr).mono fun e W' h => h.enc, fun W hb => (renc0_any A cap l W (hl.keep hb) hr).mono fun e W' h => h.enc⟩
    · obtain rfl : f = 1 := Classical.byContradiction fun h1 => hok (.inl ⟨h0, h1⟩)
      exact ⟨encT 1 l, 0, fun W hb => (tenc1_any A cap l W (hl.keep hb) hr (hT.keep hb)).mono fun e W' h => h.enc, fun W hb => (renc1_any A cap l W (hl.keep hb) hr).mono fun e W' h => h.enc⟩
theorem bests7_any (A : Option Addr) (cap : Nat) (l : List Tx) (W0 : World) (hl : Strs W0 A l) (hn : l.length ≤ 9223372036854775807) (hs : ∀ x ∈ l, x.length ≤ 9223372036854775807) (hT : TabAt W0) :
    ∃ bs er : Int, (∀ W : World, Below W0.heap.size W0 W → Calls Tryd.prog 40 #[.slice A l.length cap] W fun e W' => e = .returned (.tuple #[.int .i64 bs, .int .i64 er]) ∧ Below W.heap.size W W') ∧ (∀ W : World, Below W0.heap.size W0 W → Calls Tryd.prog 47 #[.slice A l.length cap] W fun e W' => e = .returned (.tuple #[.int .i64 bs, .int .i64 er]) ∧ Below W.heap.size W W') := by
  by_cases hr : rightT l
  · exact ⟨bestT l, 0, fun W hb => tbest_yes A cap l W (hl.keep hb) hr (hT.keep hb), fun W hb => rbest_yes A cap l W (hl.keep hb) hr (hT.keep hb)⟩
  · exact ⟨0, 2, fun W hb => tbest_no A cap l W (hl.keep hb) hn hs hr, fun W hb => rbest_no A cap l W (hl.keep hb) hn hs hr⟩

end Go.Proofs.YtfgmdaemcaamiaaDoor
