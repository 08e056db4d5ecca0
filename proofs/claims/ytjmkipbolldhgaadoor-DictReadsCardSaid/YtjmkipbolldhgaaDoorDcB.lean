/- dict.split. -/
import Derived.Test.YtjmkipbolldhgaaDoorDcA
import Derived.Test.YtjmkipbolldhgaaDoorDcK
import Derived.Test.YtjmkipbolldhgaaDoorDcIt
import Derived.Maps.OwnOps
import Derived.Carry
import Derived.StringKeys
namespace Go.Proofs.YtjmkipbolldhgaaDoor
open Go.RowKit Go.Maps
set_option linter.unusedVariables false

theorem keyedS : Keyed Tryd.prog 9 := string_keyed Tryd.underlying9
theorem zeroU (w : World) : (zeroValue 45).run Tryd.prog w = .ok (.int .u64 0) w := Tryd.zeroValue45 w
theorem rdU_mk (v : Nat) (h : v < 18446744073709551616) : plainElem (H := Unit) Tryd.prog 45 (.int .u64 (v : Int)) = some (.lit (.int .u64 (v : Int)), []) := by
  refine plainElem_int Tryd.underlying45 ?_
  simp [Lit.wf, IntKind.min, IntKind.max, IntKind.signed, IntKind.bits]
  omega
theorem keyS (x : Tx) (h : x.length ≤ 1024) : keyOf Tryd.prog 9 (.string (str x)) = some (.string x) := by
  have := Go.WideMaps.keyOf_string_mk (P := Tryd.prog) (k := 9) Tryd.underlying9 (s := str x) (by rw [str_size]; unfold maxLen; omega)
  rwa [str_list] at this
/-- The map block of the call's own. -/
def MapAt (w : World) (b : Nat) (m : Tx → Option Nat) : Prop := ∃ D : DataW Unit, w.ownsMap Tryd.prog 9 (plainElem (H := Unit) Tryd.prog 45) b 8192 D ∧ MapS D m
theorem blk_grown {w w' : World} {row : Option Nat} (h : w.grownBy w' row) {X : Nat} {t : TypeId} {cs : List Value} (hb : Blk w X t cs) (hr : row ≠ some X) : Blk w' X t cs := (h.block X (lt_of_block hb) (Ne.symm hr)).trans hb
theorem below_grown {B : Nat} {w0 w w' : World} {r : Nat} (h : Below B w0 w) (hg : w.grownBy w' (some r)) (hB : B ≤ w.heap.size) (hr : B ≤ r) : Below B w0 w' := h.grown hg hB (fun k hk => by injection hk with hk; omega)
theorem strs_grown {w w' : World} {r : Nat} {g o : Nat} {l : List Tx} (h : Strs w (some ⟨g, o, none⟩) l) (hg : w.grownBy w' (some r)) (hne : g ≠ r) : Strs w' (some ⟨g, o, none⟩) l := by
  intro k hk
  obtain ⟨b, o', e, hc⟩ := h k hk
  injection e with e
  injection e with e1 e2
  subst e1 e2
  refine ⟨g, o, rfl, ?_⟩
  have hlt : g < w.heap.size := World.block_lt_of_cell? w _ hc
  have hb : w'.heap[g]? = w.heap[g]? := hg.block g hlt (fun e => hne (by injection e with e))
  rw [← hc]
  exact World.cell?_of_block hb

theorem map_below {w w' : World} {b n : Nat} {D : DataW Unit} (h : w.ownsMap Tryd.prog 9 (plainElem (H := Unit) Tryd.prog 45) b n D) (hb : Below w.heap.size w w') : w'.ownsMap Tryd.prog 9 (plainElem (H := Unit) Tryd.prog 45) b n D := by
  have hlt := h.lt
  obtain ⟨es, clock, h1, h2⟩ := h
  exact ⟨es, clock, (hb.block b hlt).trans h1, h2⟩
/-- Texts in a row of the call's own. -/
def OwnS (w : World) (B : Nat) (v : Value) (l : List Tx) : Prop := w.ownsRow B 9 1 v l.length (l.map encStr)
theorem OwnS.form {w : World} {B : Nat} {v : Value} {l : List Tx} (h : OwnS w B v l) : ∃ A c, v = .slice A l.length c ∧ Strs w A l ∧ (A = none → c = 0) ∧ l.length ≤ c ∧ ∀ a, A = some a → B ≤ a.block ∧ a = ⟨a.block, 0, none⟩ := by
  rcases h.2 with ⟨rfl, h0⟩ | ⟨g, cap, cur, rfl, hb, hg, hn, hm, hs, ht⟩
  · have : l = [] := List.length_eq_zero_iff.1 h0
    subst this
    exact ⟨none, 0, rfl, fun k hk => by simp at hk, fun _ => rfl, Nat.le_refl _, fun a h => by cases h⟩
  · refine ⟨some ⟨g, 0, none⟩, cap, rfl, ?_, by simp, hn, fun a h => by cases h; exact ⟨hb, rfl⟩⟩
    intro k hk
    refine ⟨g, 0, rfl, ?_⟩
    have := World.ownsRow.cells h (g := g) rfl k (.string (str l[k])) (by simp [hk, encStr, str])
    rwa [Addr.add_lit] at this
theorem strs_but {w w' : World} {A : Option Addr} {r B : Nat} {l : List Tx} (h : Strs w A l) (hA : ∀ a, A = some a → B ≤ a.block) (hr : r < B) (hg : w.grownBy w' (some r)) : Strs w' A l := by
  intro k hk
  obtain ⟨b, o', e, hc⟩ := h k hk
  have h1 := hA _ e
  refine ⟨b, o', e, ?_⟩
  have hlt : b < w.heap.size := World.block_lt_of_cell? w _ hc
  have hb : w'.heap[b]? = w.heap[b]? := hg.block b hlt (fun e => by injection e with e; simp at h1; omega)
  rw [← hc]
  exact World.cell?_of_block hb

theorem n64_put (l : List W64) (k n : Nat) (x : W64) (h : k = l.length) (hk : k < n) : (n64s (l ++ List.replicate (n - k) 0)).set k (.int .u64 (x.toNat : Int)) = n64s ((l ++ [x]) ++ List.replicate (n - (k + 1)) 0) := by
  subst h
  rw [n64s_set, List.set_append_right _ _ (Nat.le_refl _), Nat.sub_self, show n - l.length = (n - (l.length + 1)) + 1 by omega, List.replicate_succ]
  simp
set_option maxRecDepth 100000 in
set_option maxHeartbeats 2000000 in
theorem find_any (b nn : Nat) (D : DataW Unit) (mm : Tx → Option Nat) (x : Tx) (v : Nat) (w : World) (hown : w.ownsMap Tryd.prog 9 (plainElem (H := Unit) Tryd.prog 45) b nn D) (hms : MapS D mm) (hx : x.length ≤ 1024) (hv : mm x = some v) (hbox : w.cell? ⟨b + 1, 0, none⟩ = some (.map (some b))) :
    Calls Tryd.prog 37 #[.string (str x), .pointer (some ⟨b + 1, 0, none⟩)] w fun e w' => e = .returned (.int .u64 (v : Int)) ∧ w = w' := by
  have hkey := keyS x hx
  have HAT := Lib.hid (hms.at_ hv (.lit (.int .u64 0)))
  have HOWN := Lib.hid hown
  have HKEY := Lib.hid hkey
  generalize str x = sx at *
  clear hown hms hkey hv hx
  go_enter Tryd.func37, Tryd.ntmps37
  go_wp2_with (at_lookup; refine wpList_lookup_own_int _ rfl _ _ 60 rfl 9 45 .u64 keyedS Tryd.underlying60 Tryd.underlying45 (zeroU _) b nn D rfl HOWN.out (.string sx) (.string x) rfl HKEY.out ?_; intro c hat _; have hcv : c = (v : Int) := (by rw [HAT.out] at hat; injection hat with hat; injection hat with _ hat; exact hat.symm); rw [hcv]; clear hat hcv)
  go_ret
  exact ⟨rfl, rfl⟩
/-- What split hands back. -/
def SplitR (W0 : World) (l : List Tx) (e : Ending) (W' : World) : Prop := ∃ AR cR N, e = .returned (.tuple #[.slice AR (riseL l).length cR, .slice (some ⟨N, 0, none⟩) l.length l.length]) ∧ Strs W' AR (riseL l) ∧ (riseL l).length ≤ cR ∧ Num W' (some ⟨N, 0, none⟩) (l.map (plW (riseL l))) ∧ Below W0.heap.size W0 W'

set_option maxRecDepth 100000 in
set_option maxHeartbeats 8000000 in
theorem split_any (A : Option Addr) (cap : Nat) (l : List Tx) (W : World) (hl : Strs W A l) (hr : rightT l) :
    Calls Tryd.prog 17 #[.slice A l.length cap] W (SplitR W l) := by
  have HL := Lib.hid hl
  have HR := Lib.hid hr
  obtain ⟨n, hln⟩ : ∃ n, l.length = n := ⟨_, rfl⟩
  have HLN := Lib.hid hln
  have hn96 : n ≤ 4096 := by rw [← hln]; exact hr.1
  rw [hln]
  obtain ⟨b, hb⟩ : ∃ b, W.heap.size = b := ⟨_, rfl⟩
  obtain ⟨W1, hW1⟩ : ∃ x, x = (W.alloc (Obj.map #[] 0)).alloc (Obj.cells #[Value.map (some W.heap.size)] 60) := ⟨_, rfl⟩
  have HM0 : Hid (W1.ownsMap Tryd.prog 9 (plainElem (H := Unit) Tryd.prog 45) b 0 (.map [] : DataW Unit)) := by rw [hW1, ← hb]; exact (World.ownsMap_made W Tryd.prog 9 (plainElem (H := Unit) Tryd.prog 45)).alloc _
  have HX0 : Hid (Blk W1 (b + 1) 60 [.map (some b)]) := by
    rw [hW1, ← hb]
    have := Blk.born (W.alloc (Obj.map #[] 0)) 60 [Value.map (some W.heap.size)]
    have e : (W.alloc (Obj.map #[] 0)).heap.size = W.heap.size + 1 := by simp
    rwa [e] at this
  have HE0 : Hid (Below b W W1) := by rw [hW1, ← hb]; exact ((Below.refl _ _).alloc (Nat.le_refl _) _).alloc (by simp) _
  have HW1 := Lib.hid hW1
  have HBB := Lib.hid hb
  clear hl hr hln hb hW1
  have hmm := @run_makeMap Tryd.prog
  go_enter Tryd.func17, Tryd.ntmps17
  go_wp2
  rw [← HW1.out]
  clear hmm
  rw [HBB.out]
  go_loopw [17] (fun i wr => ∃ k : Nat, k ≤ n ∧ i = .int .i64 k ∧ (∃ D : DataW Unit, wr.ownsMap Tryd.prog 9 (plainElem (H := Unit) Tryd.prog 45) b k D ∧ MapS D (fun y => if y ∈ l.take k then some 0 else none)) ∧ Blk wr (b + 1) 60 [.map (some b)] ∧ Below b W wr) (fun i _ => n - (intOf i).toNat)
  case atStart => exact ⟨0, by omega, rfl, ⟨_, HM0.out, MapS.nil.ext fun x => by simp⟩, HX0.out, HE0.out⟩
  case round =>
    obtain ⟨k, hk, rfl, ⟨D, hown, hms⟩, hbox, hbel⟩ := hrel
    have HBEL := Lib.hid hbel
    have HOWN := Lib.hid hown
    have HMS := Lib.hid hms
    have HBOX := Lib.hid hbox
    by_cases hlt : k < n
    · have hk1 : k < l.length := by rw [HLN.out]; exact hlt
      obtain ⟨bx, ox, rfl, hca⟩ := HL.out k hk1
      have hcell := cell_lo (HBB.out ▸ hbel : Below W.heap.size W wr) hca
      have hcm : wr.cell? ⟨b + 1, 0, none⟩ = some (.map (some b)) := (hbox.at_ 0).trans rfl
      have hxl := HR.out.2 _ (List.getElem_mem hk1)
      have hkey := keyS l[k] hxl
      have hput := hms.put l[k] 0
      have HPUT : Hid (MapS (D.put (.string l[k]) (.lit (.int .u64 0))) (fun y => if y ∈ l.take (k + 1) then some 0 else none)) := hput.ext fun y => by
        simp only [List.take_succ_eq_append_getElem hk1, List.mem_append, List.mem_singleton]
        by_cases h1 : y = l[k]
        · rw [if_pos h1, if_pos (.inr h1)]
        · rw [if_neg h1]
          by_cases h2 : y ∈ l.take k
          · rw [if_pos h2, if_pos (.inl h2)]
          · rw [if_neg h2, if_neg (fun h => h.elim h2 h1)]
      generalize str l[k] = sx at hcell hkey
      generalize l[k] = x at hkey HPUT
      have HKEY := Lib.hid hkey
      have HK : Hid (k < n) := hlt
      clear hbel hown hms hbox hca hk1 hxl hkey hput
      go_wp2_with (at_mapUpdate; refine wpList_mapUpdate_own _ rfl _ _ _ 60 rfl 9 45 keyedS Tryd.underlying60 (plainElem (H := Unit) Tryd.prog 45) b k D rfl HOWN.out (by unfold maxLen; omega) (.string sx) (.int .u64 0) (.string x) rfl rfl HKEY.out (.lit (.int .u64 0)) [] (rdU_mk 0 (by omega)) ?_; intro w6 hown6 hgr6; have O6 := Lib.hid hown6; have X6 := Lib.hid (blk_grown hgr6 HBOX.out (by intro e; injection e with e; omega)); have E6 := Lib.hid (below_grown HBEL.out hgr6 (by have := HBEL.out.size; have := HBB.out; omega) (Nat.le_refl b)); clear hown6 hgr6)
      go_roundw
      case rel => exact ⟨k + 1, HK.out, by go_num, ⟨_, O6.out, HPUT.out⟩, X6.out, E6.out⟩
      case measure => simp [intOf]; have := HK.out; omega
    · obtain rfl : k = n := by omega
      have hms2 : MapS D (fun y => if y ∈ l then some 0 else none) := hms.ext fun y => by rw [List.take_of_length_le (by rw [HLN.out]; exact Nat.le_refl _)]
      have hsz : Maps.size D ≤ k := hown.size_le
      have hnd := hms2.nodup (hown.tidy keyedS)
      have hmem : ∀ y, y ∈ strKeys D ↔ y ∈ l := fun y => by
        rw [hms2.keys y]
        by_cases h : y ∈ l
        · rw [if_pos h]; exact ⟨fun _ => h, fun _ => ⟨0, rfl⟩⟩
        · rw [if_neg h]; exact ⟨fun ⟨v, hv⟩ => (by cases hv), fun h' => absurd h' h⟩
      have HSORT : Hid (∀ ss : List Tx, ss.Perm (strKeys D) → ss.mergeSort (fun x y => decide (x ≤ y)) = riseL l ∧ ss.length = (riseL l).length) := fun ss hp => by
        have e := sort_rise (l := l) (hp.nodup_iff.2 hnd) (fun y => by rw [hp.mem_iff]; exact hmem y)
        exact ⟨e, by rw [← e, List.length_mergeSort]⟩
      have hcm : wr.cell? ⟨b + 1, 0, none⟩ = some (.map (some b)) := (hbox.at_ 0).trans rfl
      have HKS := Lib.hid (callsIn_wide.1 (Tryd.maps_Keys_36 (some b) wr))
      have HSO := Lib.hid (callsIn_wide.1 (Tryd.slices_Sorted_keys_35_36 b k D (plainElem (H := Unit) Tryd.prog 45) wr hown (by unfold maxLen; omega) (by omega)))
      obtain ⟨R, hR⟩ : ∃ R, riseL l = R := ⟨_, rfl⟩
      rw [hR] at HSORT
      have HMS2 := Lib.hid hms2
      clear hbel hms hbox hown hsz hnd hmem hms2
      go_wp2_with (first | (go_at_call 36; refine HKS.out.mono ?_; rintro e w1 ⟨rfl, rfl⟩) | (go_at_call 35; refine HSO.out.mono ?_; rintro e w2 ⟨v2, ss, rfl, hS, hrow, _, hb2⟩; obtain ⟨e1, e2⟩ := HSORT.out ss hS; rw [e1, e2] at hrow; have hrow2 : OwnS w2 (wr.alloc (.cells #[.map (some b)] 60)).heap.size v2 R := hrow; obtain ⟨AR, cR, rfl, hSR, hnR, hcR, hblR⟩ := hrow2.form; have HSR := Lib.hid hSR; have HNR := Lib.hid hnR; have HCR := Lib.hid hcR; have HBLR := Lib.hid hblR; have HB2 := Lib.hid hb2; clear hS hrow hb2 e1 e2 hrow2 hSR hnR hcR hblR))
      have E2 : Hid (Below b W w2) := ((HBEL.out.alloc (by have := HBEL.out.size; have := HBB.out; omega) _).trans (HB2.out.mono (by have h1 := HBEL.out.size; have h2 := HBB.out; simp; omega)))
      have HW12 : Hid (Below wr.heap.size wr w2) := ((Below.refl wr.heap.size wr).alloc (Nat.le_refl _) _).trans (HB2.out.mono (by simp))
      have M2 : Hid (w2.ownsMap Tryd.prog 9 (plainElem (H := Unit) Tryd.prog 45) b k D) := map_below HOWN.out HW12.out
      have X2 : Hid (Blk w2 (b + 1) 60 [.map (some b)]) := HBOX.out.below HW12.out (lt_of_block HBOX.out)
      have HAR : Hid (∀ a, AR = some a → b + 1 ≤ a.block) := fun a ha => by
        have h1 := (HBLR.out a ha).1
        have h2 := HBEL.out.size
        have h3 := HBB.out
        simp at h1
        omega
      have hRl : R.length ≤ 4096 := by rw [← hR]; exact Nat.le_trans (rise_len l) HR.out.1
      have HRR : Hid (Rise R) := by show Rise R; rw [← hR]; exact rise_rise l
      have HRM : Hid (∀ y, y ∈ R ↔ y ∈ l) := fun y => by rw [← hR]; exact rise_mem l y
      obtain ⟨m, hm⟩ : ∃ m, R.length = m := ⟨_, rfl⟩
      have HMM := Lib.hid hm
      rw [hm] at hRl HCR ⊢
      obtain ⟨mj, hmj⟩ : ∃ mj : Nat → Tx → Option Nat, mj = fun j y => if y ∈ R.take j then some (plc R y) else if y ∈ l then some 0 else none := ⟨_, rfl⟩
      have HMJ := Lib.hid hmj
      have HM0' : Hid (MapS D (mj 0)) := HMS2.out.ext fun y => by rw [hmj]; simp
      have HREQ : Hid (SplitR W l = fun e W' => ∃ AR cR N, e = .returned (.tuple #[.slice AR R.length cR, .slice (some ⟨N, 0, none⟩) l.length l.length]) ∧ Strs W' AR R ∧ R.length ≤ cR ∧ Num W' (some ⟨N, 0, none⟩) (l.map (plW R)) ∧ Below W.heap.size W W') := by show _ = _; rw [← hR]; rfl
      clear hR hm hmj HM0 HX0 HE0 HW1 HOWN HBOX HMS HKS HSO HSORT HW12
      go_loopw [29] (fun i wq => ∃ j : Nat, j ≤ m ∧ i = .int .i64 j ∧ (∃ D : DataW Unit, wq.ownsMap Tryd.prog 9 (plainElem (H := Unit) Tryd.prog 45) b (k + j) D ∧ MapS D (mj j)) ∧ Blk wq (b + 1) 60 [.map (some b)] ∧ Below b W wq ∧ Strs wq AR R) (fun i _ => m - (intOf i).toNat)
      case atStart => exact ⟨0, by omega, rfl, ⟨_, M2.out, HM0'.out⟩, X2.out, E2.out, HSR.out⟩
      case round =>
        obtain ⟨j, hj, rfl, ⟨D', hown, hms⟩, hbox, hbel, hsr⟩ := hrel
        have HBEL3 := Lib.hid hbel
        have HOWN3 := Lib.hid hown
        have HMS3 := Lib.hid hms
        have HBOX3 := Lib.hid hbox
        have HSR3 := Lib.hid hsr
        by_cases hlt : j < m
        · have hk1 : j < R.length := by rw [HMM.out]; exact hlt
          obtain ⟨bx, ox, rfl, hca⟩ := hsr j hk1
          have hcm : wr.cell? ⟨b + 1, 0, none⟩ = some (.map (some b)) := (hbox.at_ 0).trans rfl
          have hxl : (R[j]).length ≤ 1024 := HR.out.2 _ ((HRM.out _).1 (List.getElem_mem hk1))
          have hkey := keyS R[j] hxl
          have hput := hms.put R[j] j
          have hpl := plc_at HRR.out j hk1
          have HPUT : Hid (MapS (D'.put (.string R[j]) (.lit (.int .u64 (j : Nat)))) (mj (j + 1))) := hput.ext fun y => by
            rw [HMJ.out]
            simp only [List.take_succ_eq_append_getElem hk1, List.mem_append, List.mem_singleton]
            by_cases h1 : y = R[j]
            · rw [if_pos h1, if_pos (.inr h1), h1, hpl]
            · rw [if_neg h1]
              by_cases h2 : y ∈ R.take j
              · rw [if_pos h2, if_pos (.inl h2)]
              · have hn : ¬ (y ∈ R.take j ∨ y = R[j]) := fun h => h.elim h2 h1
                rw [if_neg h2, if_neg hn]
          generalize str R[j] = sx at hca hkey
          generalize R[j] = x at hkey HPUT
          have HKEY := Lib.hid hkey
          have HK : Hid (j < m) := hlt
          have hcv : IntKind.u64.wrap (j : Int) = (j : Int) := by rw [IntKind.wrap_u64]; omega
          have hb1 : b + 1 ≤ bx := HAR.out _ rfl
          clear hbel hown hms hbox hsr hk1 hxl hkey hput hpl
          go_wp2_with (at_mapUpdate; refine wpList_mapUpdate_own _ rfl _ _ _ 60 rfl 9 45 keyedS Tryd.underlying60 (plainElem (H := Unit) Tryd.prog 45) b (k + j) D' rfl HOWN3.out (by unfold maxLen; omega) (.string sx) (.int .u64 (j : Int)) (.string x) rfl rfl HKEY.out (.lit (.int .u64 (j : Nat))) [] (rdU_mk j (by omega)) ?_; intro w6 hown6 hgr6; have O6 := Lib.hid hown6; have X6 := Lib.hid (blk_grown hgr6 HBOX3.out (by intro e; injection e with e; omega)); have E6 := Lib.hid (below_grown HBEL3.out hgr6 (by have := HBEL3.out.size; have := HBB.out; omega) (Nat.le_refl b)); have S6 := Lib.hid (strs_grown HSR3.out hgr6 (by omega)); clear hown6 hgr6)
          go_roundw
          case rel => exact ⟨j + 1, HK.out, by go_num, ⟨_, O6.out, HPUT.out⟩, X6.out, E6.out, S6.out⟩
          case measure => simp [intOf]; have := HK.out; omega
        · obtain rfl : j = m := by omega
          clear hbel hown hms hbox hsr
          go_wp2_with (refine mk_pl22 rfl _ _ rfl k rfl rfl (by omega) ?_)
          generalize wr = wm at *
          obtain ⟨N, hN⟩ : ∃ N, wm.heap.size = N := ⟨_, rfl⟩
          obtain ⟨W3, hW3⟩ : ∃ x, x = wm.alloc (.cells (n64s (List.replicate k 0#64)).toArray 45) := ⟨_, rfl⟩
          have HBK : Hid (Blk W3 N 45 (n64s ((l.take 0).map (plW R) ++ List.replicate (k - 0) 0))) := by rw [hW3, ← hN]; exact Blk.born wm _ _
          have HE3 : Hid (Below N wm W3) := by rw [hW3, ← hN]; exact (Below.refl _ _).alloc (Nat.le_refl _) _
          have HNN := Lib.hid hN
          have HNB : Hid (b + 1 < N) := by show _ < _; rw [← hN]; exact lt_of_block HBOX3.out
          rw [← hW3]
          clear hN hW3
          rw [HNN.out]
          go_loopw [45] (fun i wq => ∃ t : Nat, t ≤ k ∧ i = .int .i64 t ∧ Blk wq N 45 (n64s ((l.take t).map (plW R) ++ List.replicate (k - t) 0)) ∧ Below N wm wq) (fun i _ => k - (intOf i).toNat)
          case atStart => exact ⟨0, by omega, rfl, HBK.out, HE3.out⟩
          case round =>
            obtain ⟨t, ht, rfl, hblk, hbelq⟩ := hrel
            have HBELQ := Lib.hid hbelq
            have hwq : Below wm.heap.size wm wr := by rw [HNN.out]; exact hbelq
            have hw0q := HBEL3.out.trans (hbelq.mono (by have := HNB.out; omega))
            have HW0Q := Lib.hid hw0q
            by_cases hlt : t < k
            · have hk1 : t < l.length := by rw [HLN.out]; exact hlt
              obtain ⟨bx, ox, rfl, hca⟩ := HL.out t hk1
              have hcell := cell_lo (HBB.out ▸ hw0q : Below W.heap.size W wr) hca
              have hxl := HR.out.2 _ (List.getElem_mem hk1)
              have hxR : l[t] ∈ R := (HRM.out _).2 (List.getElem_mem hk1)
              have hmv : mj j l[t] = some (plc R l[t]) := by
                rw [HMJ.out]
                simp only
                rw [List.take_of_length_le (by rw [HMM.out]; exact Nat.le_refl _), if_pos hxR]
              have hbx : wr.cell? ⟨b + 1, 0, none⟩ = some (.map (some b)) := cell_lo hwq ((HBOX3.out.at_ 0).trans rfl)
              have hfind := find_any b (k + j) D' (mj j) l[t] (plc R l[t]) wr (map_below HOWN3.out hwq) HMS3.out hxl hmv hbx
              have hst : (l.take (t + 1)).map (plW R) = (l.take t).map (plW R) ++ [plW R l[t]] := by
                rw [List.take_succ_eq_append_getElem hk1, List.map_append]; rfl
              have hpn : (plc R l[t] : Int) = ((plW R l[t]).toNat : Int) := by
                have := plc_le R l[t]
                have := HMM.out
                unfold plW
                rw [BitVec.toNat_ofNat]
                omega
              rw [hpn] at hfind
              have hkd : t = ((l.take t).map (plW R)).length := by rw [List.length_map, List.length_take, HLN.out]; omega
              have hkl : t < (n64s ((l.take t).map (plW R) ++ List.replicate (k - t) 0)).length := by rw [n64s_len, List.length_append, List.length_replicate, ← hkd]; omega
              have hcell2 := hblk.at_ t
              rw [List.getElem?_eq_getElem hkl] at hcell2
              have hfr := hblk.free t
              generalize (n64s ((l.take t).map (plW R) ++ List.replicate (k - t) 0))[t] = old at hcell2
              have hput := n64_put ((l.take t).map (plW R)) t k (plW R l[t]) hkd hlt
              rw [← hst] at hput
              generalize str l[t] = sx at hcell hfind
              generalize plW R l[t] = pw at hfind hput
              have hnew : Blk (wr.setCell ⟨N, t, none⟩ (.int .u64 (pw.toNat : Int))) N 45 (n64s ((l.take (t + 1)).map (plW R) ++ List.replicate (k - (t + 1)) 0)) := by rw [← hput]; exact hblk.store t _
              have HNEW := Lib.hid hnew
              have HF := Lib.hid hfind
              have HK : Hid (t < k) := hlt
              clear hblk hbelq hwq hw0q hca hk1 hxl hxR hmv hbx hfind hst hpn hkd hkl hput hnew
              go_wp2_with (go_at_call 37; refine HF.out.mono ?_; rintro e w6 ⟨rfl, rfl⟩)
              go_roundw
              case rel => exact ⟨t + 1, HK.out, by go_num, HNEW.out, HBELQ.out.setCell (by simp) _⟩
              case measure => simp [intOf]; have := HK.out; omega
            · obtain rfl : t = k := by omega
              have hnum : Num wr (some ⟨N, 0, none⟩) (l.map (plW R)) := by
                have hb2 := hblk
                rw [Nat.sub_self, List.replicate_zero, List.append_nil, List.take_of_length_le (by rw [HLN.out]; exact Nat.le_refl _)] at hb2
                intro i hi
                refine ⟨N, 0, rfl, ?_⟩
                rw [Nat.zero_add, hb2.at_]
                simp only [List.length_map] at hi
                simp [n64s, hi]
              have HNUM := Lib.hid hnum
              have HSQ := Lib.hid (HSR3.out.keep hwq)
              clear hblk hbelq hwq hw0q hnum
              go_wp2
              go_ret2
              rw [HREQ.out]
              exact ⟨AR, cR, N, by rw [HMM.out, HLN.out]; rfl, HSQ.out, by rw [HMM.out]; exact HCR.out, HNUM.out, by rw [HBB.out]; exact HW0Q.out⟩
end Go.Proofs.YtjmkipbolldhgaaDoor
