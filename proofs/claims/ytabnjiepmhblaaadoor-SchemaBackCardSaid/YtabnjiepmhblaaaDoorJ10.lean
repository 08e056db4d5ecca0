/- Joined texts: Same: are two lists of columns the same. The head of the statements on schemas. The walk of SchemaLays. Laws: make of bytes with a length, and copy of bytes onto a row of the call's own. What the walks of value's Lay and Take want of value's Right, under the names that they use. -/
import Derived.Test.YtabnjiepmhblaaaDoorJ7
import Derived.Test.YtabnjiepmhblaaaDoorJ4
import Derived.Laws.StructEq
import Derived.Test.YtabnjiepmhblaaaDoorJ27
import Derived.Test.YtabnjiepmhblaaaDoorJ9
import Derived.Laws.CopyOwn
import Derived.Laws.MakeOwn
/-! Same: are two lists of columns the same. -/
namespace Go.Proofs.YtabnjiepmhblaaaDoor
open Go.RowKit Go.Shelf Go.Maps
set_option linter.unusedVariables false

theorem Col.same {c d : Col} (h1 : c.name = d.name) (h2 : c.kind = d.kind) (h3 : c.null = d.null) : c = d := by
  cases c; cases d; simp_all
theorem tol_eq {a b : ByteArray} (h : a.toList = b.toList) : a = b := by
  rw [ByteArray.toList_eq, ByteArray.toList_eq] at h
  cases a; cases b
  simp at h
  rw [h]

set_option maxRecDepth 100000 in
set_option maxHeartbeats 4000000 in
theorem same_any (A B : Option Addr) (cap cap2 : Nat) (l m : List Col) (W : World) (hl : Cols W A l) (hm : Cols W B m) (hn : l.length ≤ 4000000000000000000) (hn2 : m.length ≤ 4000000000000000000) :
    Calls Tryd.prog 10 #[.slice A l.length cap, .slice B m.length cap2] W fun e W' => e = .returned (.bool (decide (l = m))) ∧ Below W.heap.size W W' := by
  by_cases hlen : l.length = m.length
  · obtain ⟨z, hz⟩ : ∃ z, decide (l = m) = z := ⟨_, rfl⟩
    rw [hz]
    have HZ := Lib.hid hz
    have HL := Lib.hid hl
    have HM := Lib.hid hm
    have HLEN := Lib.hid hlen
    rw [← hlen]
    clear hl hm hz hn2
    obtain ⟨n, hn3⟩ : ∃ n, l.length = n := ⟨_, rfl⟩
    rw [hn3] at hn ⊢
    have HN := Lib.hid hn3
    clear hn3 hlen
    go_enter Tryd.func10, Tryd.ntmps10
    go_wp2
    go_loopw [5] (fun i wr => ∃ k : Nat, k ≤ n ∧ i = .int .i64 k ∧ (∀ j (a : j < l.length) (b : j < m.length), j < k → l[j] = m[j]) ∧ Below W.heap.size W wr) (fun i _ => n - (intOf i).toNat)
    case atStart => exact ⟨0, by omega, rfl, fun j _ _ h => by omega, Below.refl _ _⟩
    case round =>
      obtain ⟨k, hk, rfl, hall, hbel⟩ := hrel
      have HALL := Lib.hid hall
      have HBEL := Lib.hid hbel
      clear hall hbel
      by_cases hlt : k < n
      · have h1 : k < l.length := by rw [HN.out]; exact hlt
        have h2 : k < m.length := by rw [← HLEN.out, HN.out]; exact hlt
        obtain ⟨b, o, rfl, hcb⟩ := HL.out k h1
        obtain ⟨b2, o2, rfl, hvb⟩ := HM.out k h2
        obtain ⟨c0, c1, c2⟩ := hcb.keep HBEL.out hcb.lt
        obtain ⟨v0, v1, v2⟩ := hvb.keep HBEL.out hvb.lt
        have HK : Hid (k < n) := hlt
        have HBAD : Hid (l[k] ≠ m[k] → z = false) := fun h => by rw [← HZ.out]; exact decide_eq_false (fun e => h (by simp only [e]))
        have HGD : Hid (l[k] = m[k] → ∀ j (a : j < l.length) (b : j < m.length), j < k + 1 → l[j] = m[j]) := fun h j a b hj => by
          by_cases e : j = k
          · subst e; exact h
          · exact HALL.out j a b (by omega)
        clear hcb hvb
        generalize l[k] = c at c0 c1 c2 HBAD HGD
        generalize m[k] = d at v0 v1 v2 HBAD HGD
        clear h1 h2
        have HEQ : Hid (c.name = d.name → c.kind = d.kind → c.null = d.null → c = d) := fun h1 h2 h3 => Col.same h1 h2 h3
        have HNE : Hid ((c.name ≠ d.name ∨ c.kind ≠ d.kind ∨ c.null ≠ d.null) → c ≠ d) := fun h e => by
          subst e
          rcases h with h | h | h <;> exact h rfl
        generalize c.name = n1 at c0 HEQ HNE
        generalize d.name = n2 at v0 HEQ HNE
        generalize c.kind = k1 at c1 HEQ HNE
        generalize d.kind = k2 at v1 HEQ HNE
        generalize c.null = t1 at c2 HEQ HNE
        generalize d.null = t2 at v2 HEQ HNE
        go_upto_region 6 with (fail)
        by_cases e1 : n1.toList = n2.toList
        · have q1 : (n1.toList == n2.toList) = true := by rw [beq_iff_eq]; exact e1
          by_cases e2 : k1 = k2
          · have q2 : (k1 == k2) = true := by rw [beq_iff_eq]; exact e2
            by_cases e3 : t1 = t2
            · have q3 : (t1 == t2) = true := by rw [beq_iff_eq]; exact e3
              have HX := Lib.hid (HGD.out (HEQ.out (tol_eq e1) e2 e3))
              subst e2 e3
              clear HBAD HGD HEQ HNE
              go_quiet (fail)
              go_wp2
              go_roundw
              case rel => exact ⟨k + 1, HK.out, by go_num, HX.out, Below.drewN' HBEL.out _⟩
              case measure => have := HK.out; simp [intOf]; omega
            · have q3 : (t1 == t2) = false := by rw [beq_eq_false_iff_ne]; exact e3
              have HX : Hid (z = false) := HBAD.out (HNE.out (.inr (.inr e3)))
              clear HBAD HGD HEQ HNE
              go_quiet (fail)
              go_wp2
              go_ret
              exact ⟨congrArg (fun r => Ending.returned (Value.bool r)) HX.out.symm, Below.drewN' HBEL.out _⟩
          · have q2 : (k1 == k2) = false := by rw [beq_eq_false_iff_ne]; exact e2
            have HX : Hid (z = false) := HBAD.out (HNE.out (.inr (.inl e2)))
            clear HBAD HGD HEQ HNE
            go_quiet (fail)
            go_wp2
            go_ret
            exact ⟨congrArg (fun r => Ending.returned (Value.bool r)) HX.out.symm, Below.drewN' HBEL.out _⟩
        · have q1 : (n1.toList == n2.toList) = false := by rw [beq_eq_false_iff_ne]; exact e1
          have HX : Hid (z = false) := HBAD.out (HNE.out (.inl (fun e => e1 (by rw [e]))))
          clear HBAD HGD HEQ HNE
          go_quiet (fail)
          go_wp2
          go_ret
          exact ⟨congrArg (fun r => Ending.returned (Value.bool r)) HX.out.symm, Below.drewN' HBEL.out _⟩
      · obtain rfl : k = n := by omega
        have HX : Hid (z = true) := by show z = true; rw [← HZ.out]; exact decide_eq_true (List.ext_getElem HLEN.out fun i h1 h2 => HALL.out i h1 h2 (by rw [← HN.out]; exact h1))
        go_wp2
        go_ret
        exact ⟨congrArg (fun r => Ending.returned (Value.bool r)) HX.out.symm, HBEL.out⟩
  · rw [decide_eq_false (fun e => hlen (by rw [e]))]
    have hne : ((l.length : Int) == (m.length : Int)) = false := by rw [beq_eq_false_iff_ne]; omega
    have hne2 : ¬ (l.length : Int) = m.length := by omega
    clear hl hm
    generalize l.length = n at *
    generalize m.length = m at *
    go_enter Tryd.func10, Tryd.ntmps10
    go_wp2
    go_ret
    exact ⟨rfl, Below.refl _ _⟩
end Go.Proofs.YtabnjiepmhblaaaDoor

/-! The head of the statements on schemas. -/
namespace Go.Proofs.YtabnjiepmhblaaaDoor
open Go.RowKit Go.Shelf Go.Maps
set_option linter.unusedVariables false

def c1 : Col := ⟨⟨#[97]⟩, 1, false, by decide⟩
def c2 : Col := ⟨⟨#[98]⟩, 3, true, by decide⟩
theorem right12 : rightC [c1, c2] = true := by kernel_rfl
theorem right1 : rightC [c1] = true := by kernel_rfl
theorem show12 : showL [c1, c2] = [97, 32, 105, 110, 116, 44, 32, 98, 32, 116, 101, 120, 116, 32, 110, 117, 108, 108] := by kernel_rfl
theorem lay1 : ([] : List UInt8) ++ layC [c1] = [1, 1, 97, 1, 0] := by kernel_rfl

set_option maxHeartbeats 2000000 in
theorem shown5_any (w : World) : Calls Tryd.prog 5 #[] w fun e w' => e = .returned (.bool true) ∧ Below w.heap.size w w' := by
  obtain ⟨W1, hW1⟩ : ∃ x, x = w.alloc (.cells #[Value.string ⟨#[97]⟩, Value.int .i64 1, Value.bool false, Value.string ⟨#[98]⟩, Value.int .i64 3, Value.bool true] 44) := ⟨_, rfl⟩
  have hbk : Blk W1 w.heap.size 44 [Value.string ⟨#[97]⟩, Value.int .i64 1, Value.bool false, Value.string ⟨#[98]⟩, Value.int .i64 3, Value.bool true] := by rw [hW1]; exact Blk.born w _ _
  have hB1 : Below w.heap.size w W1 := by rw [hW1]; exact (Below.refl _ _).alloc (Nat.le_refl _) _
  have hcol : Cols W1 (some ⟨w.heap.size, 0, none⟩) [c1, c2] := by
    intro k hk
    match k, hk with
    | 0, _ => exact ⟨_, _, rfl, (hbk.at_ 0).trans rfl, (hbk.at_ 1).trans rfl, (hbk.at_ 2).trans rfl⟩
    | 1, _ => exact ⟨_, _, rfl, (hbk.at_ 3).trans rfl, (hbk.at_ 4).trans rfl, (hbk.at_ 5).trans rfl⟩
  have hcol1 : Cols W1 (some ⟨w.heap.size, 0, none⟩) [c1] := by
    intro k hk
    match k, hk with
    | 0, _ => exact ⟨_, _, rfl, (hbk.at_ 0).trans rfl, (hbk.at_ 1).trans rfl, (hbk.at_ 2).trans rfl⟩
  have hs := show_ok (some ⟨w.heap.size, 0, none⟩) 2 [c1, c2] W1 hcol right12
  rw [show12] at hs
  have hl := fun (W2 : World) (h : Cols W2 (some ⟨w.heap.size, 0, none⟩) [c1]) => lay_ok none (some ⟨w.heap.size, 0, none⟩) 0 2 [] [c1] W2 (Byt.empty _ _) (fun _ => rfl) (by decide) h right1
  rw [lay1] at hl
  have HS := Lib.hid hs
  have HL := Lib.hid hl
  have HB := Lib.hid hB1
  have HW1 := Lib.hid hW1
  have HC := Lib.hid hcol1
  clear hs hl hB1 hbk hcol hW1 hcol1
  go_enter Tryd.func5, Tryd.ntmps5
  go_wp2_with (first | (rw [← HW1.out]; go_at_call 6; refine HS.out.mono ?_; rintro e w2 ⟨rfl, hb2⟩; have HB2 := Lib.hid (HB.out.trans (hb2.mono HB.out.size)); have HC2 := Lib.hid (HC.out.keep hb2); clear hb2 HS) | (go_at_call 11; refine (HL.out _ HC2.out).mono ?_; rintro e w3 ⟨v, rfl, hown, hbel⟩; obtain ⟨A, c, rfl, hbyt, _, _, _⟩ := hown.form; have hcv : (convert 32 9 (.slice A 5 c)).run Tryd.prog w3 = .ok (.string ⟨#[1, 1, 97, 1, 0]⟩) w3 := conv hbyt c; have HB3 := Lib.hid (HB2.out.trans (hbel.mono HB2.out.size)); clear hbel hown hbyt HL))
  go_ret
  exact ⟨rfl, HB3.out⟩
end Go.Proofs.YtabnjiepmhblaaaDoor

/-! The walk of SchemaLays. -/
namespace Go.Proofs.YtabnjiepmhblaaaDoor
open Go.RowKit Go.Shelf Go.Maps
set_option linter.unusedVariables false

def LayU (W0 W : World) (D : List UInt8) (ec : Int) (e : Ending) (W' : World) : Prop := ∃ A c, e = .returned (.tuple #[.slice A D.length c, .int .i64 ec]) ∧ Byt W' A D ∧ Below W0.heap.size W0 W' ∧ Below W.heap.size W W'
def TakeU (W0 W : World) (R : List Col) (p ec : Int) (e : Ending) (W' : World) : Prop := ∃ A c, e = .returned (.tuple #[.slice A R.length c, .int .i64 p, .int .i64 ec]) ∧ Cols W' A R ∧ Below W0.heap.size W0 W' ∧ Below W.heap.size W W'
theorem MadeT.u {W0 W : World} {D : List UInt8} {e : Ending} {W' : World} (h0 : Below W0.heap.size W0 W) (h : MadeT W D e W') : LayU W0 W D 0 e W' := by
  obtain ⟨v, he, ho, hb⟩ := h
  obtain ⟨A, c, rfl, hy, _, _, _⟩ := ho.form
  exact ⟨A, c, he, hy, h0.trans (hb.mono h0.size), hb⟩
def takeR (l : List UInt8) (at_ : Int) : List Col := match takeS l at_ with | some (r, _) => r | none => []
def takeP (l : List UInt8) (at_ : Int) : Int := match takeS l at_ with | some (_, p) => p | none => 0
def takeE (l : List UInt8) (at_ : Int) : Int := match takeS l at_ with | some _ => 0 | none => 52
theorem TookSc.u {W0 W : World} {l : List UInt8} {at_ : Int} {e : Ending} {W' : World} (h0 : Below W0.heap.size W0 W) (h : TookSc W l at_ e W') : TakeU W0 W (takeR l at_) (takeP l at_) (takeE l at_) e W' := by
  unfold TookSc at h
  unfold takeR takeP takeE
  cases ht : takeS l at_ with
  | none =>
    rw [ht] at h
    exact ⟨none, 0, h.1, fun k hk => by simp at hk, h0.trans (h.2.mono h0.size), h.2⟩
  | some x =>
    obtain ⟨r, p⟩ := x
    rw [ht] at h
    obtain ⟨A, c, he, hc, _, _, hb⟩ := h
    exact ⟨A, c, he, hc, h0.trans (hb.mono h0.size), hb⟩
theorem takeR_len (l : List UInt8) (at_ : Int) : (takeR l at_).length ≤ 16 := by
  unfold takeR takeS
  cases ht : takeO l at_ with
  | none => simp
  | some x =>
    obtain ⟨n, c⟩ := x
    simp only
    by_cases h16 : 16 < n
    · rw [if_pos h16]; simp
    · rw [if_neg h16]
      have h0 := takeO_in ht
      cases h2 : takeCs l (at_ + c) n with
      | none => simp
      | some y =>
        obtain ⟨r, p⟩ := y
        have := (takeCs_form h0.2 h2).1
        simp only
        cases rightC r
        · simp
        · simp; omega
def layD (b : List UInt8) (l : List Col) : List UInt8 := if rightC l then b ++ layC l else []
def layE (l : List Col) : Int := if rightC l then 0 else 50
theorem lay_u (B A : Option Addr) (bcap cap : Nat) (b : List UInt8) (l : List Col) (W0 W : World) (h0 : Below W0.heap.size W0 W) (hy : Byt W B b) (hB : B = none → bcap = 0) (hbl : b.length + 2000 ≤ 140737488355328) (hl : Cols W A l) (hn : l.length ≤ 4000000000000000000) :
    Calls Tryd.prog 11 #[.slice B b.length bcap, .slice A l.length cap] W (LayU W0 W (layD b l) (layE l)) := by
  unfold layD layE
  cases hr : rightC l with
  | true => exact (lay_ok B A bcap cap b l W hy hB hbl hl hr).mono fun e w' h => by rw [if_pos rfl, if_pos rfl]; exact MadeT.u h0 h
  | false => exact (lay_no B A b.length bcap cap l W hl hn hr).mono fun e w' h => (by rw [if_neg (by simp), if_neg (by simp)]; exact ⟨none, 0, h.1, Byt.empty _ _, h0.trans (h.2.mono h0.size), h.2⟩)
theorem int_le {a : Int} (h : (Lit.int .i64 a).wf = true) : a ≤ 9223372036854775807 := by
  simp [Lit.wf, IntKind.min, IntKind.max, IntKind.signed, IntKind.bits] at h
  omega
end Go.Proofs.YtabnjiepmhblaaaDoor

/-! Laws: make of bytes with a length, and copy of bytes onto a row of the call's own. -/
namespace Go.Proofs.YtabnjiepmhblaaaDoor
open Go.RowKit
set_option linter.unusedVariables false

theorem mk_row {ops : Array Oper} {rest : List Oper} {o : Oper} {a : Act} {Q : Exit → Act → World → Prop} {w : World} (w0 : World) (hgd : o.guard = none) (l c : Operand)
    (hop : o.op = Op.makeSlice 32 l c) (L C : Int) (n m : Nat) (hl : a.eval l = .int .i64 L) (hc : a.eval c = .int .i64 C) (hL : L = (n : Int)) (hC : C = (m : Int)) (hnm : n ≤ m) (hsz : m ≤ 281474976710656) (hbel : Below w0.heap.size w0 w)
    (h : ∀ w', Own w' w0.heap.size (.slice (some ⟨w.heap.size, 0, none⟩) n m) (List.replicate n 0) → Below w0.heap.size w0 w' → wpList Tryd.prog ops Q rest (a.put o.dst (.slice (some ⟨w.heap.size, 0, none⟩) n m)) w') : wpList Tryd.prog ops Q (o :: rest) a w := by
  obtain ⟨i0, hti, hz0, hz1, hz2⟩ := info_parts Tryd.info5
  subst hL hC
  have hr := run_make (P := Tryd.prog) w 32 5 i0 (.int .u8 0) Tryd.underlying32 hti hz0 .i64 .i64 n m (by omega) (by omega) (by rw [hz2]; omega) (by omega)
  simp only [Int.toNat_natCast] at hr
  rw [hz1] at hr
  refine wpList_plain hgd fun K hK' => ?_
  unfold Oper.wp
  simp [execOp, hop, hl, hc, hr, Result.andThen]
  refine hK' _ _ (h _ ?_ (hbel.alloc hbel.size _))
  refine ⟨by simp [u8s], .inr ⟨w.heap.size, m, madeCells (Value.int .u8 0).cells m, by simp, hbel.size, heap_alloc_new w _, by simpa using hnm, by unfold maxLen; omega, by simp [size_madeCells], ?_⟩⟩
  apply List.ext_getElem
  · simp [madeCells, u8s]; omega
  · intro i h1 h2
    have e1 : i % 1 = 0 := Nat.mod_one i
    simp [madeCells, u8s, Value.cells, e1]

theorem cp_byt {ops : Array Oper} {rest : List Oper} {o : Oper} {a : Act} {Q : Exit → Act → World → Prop} {w : World} (w0 : World) (hgd : o.guard = none) (d s : Operand)
    (ho : o.op = .call { callee := .builtin .copy, args := #[d, s], argTypes := #[32, 32] }) (v : Value) (l q : List UInt8) (hd : a.eval d = v) (hown : Own w w0.heap.size v l) (hbel : Below w0.heap.size w0 w)
    (A : Option Addr) (m c : Nat) (hs : a.eval s = .slice A m c) (hm : m = q.length) (hq : Byt w A q) (hle : q.length ≤ l.length)
    (h : ∀ w', Own w' w0.heap.size v (q ++ l.drop q.length) → Below w0.heap.size w0 w' → wpList Tryd.prog ops Q rest (a.put o.dst (goInt q.length)) w') : wpList Tryd.prog ops Q (o :: rest) a w := by
  have hsz : (Tryd.prog.info? 5).map (·.size) = some 1 := by kernel_rfl
  subst hm
  rcases hown.2 with ⟨rfl, h0⟩ | ⟨g, cap, cur, rfl, hg0, hg, hnc, hcm, hcs, ht⟩
  · obtain rfl : l = [] := List.length_eq_zero_iff.1 h0
    obtain rfl : q = [] := List.length_eq_zero_iff.1 (by simpa using hle)
    exact wpList_copy_nothing hgd d s 32 32 ho 5 Tryd.underlying32 hsz none A 0 0 0 c hd hs rfl (h w hown hbel)
  · have hcs' : cur.size = cap := by simpa using hcs
    have ht' : cur.toList.take l.length = u8s l := by simpa using ht
    have hlen : (u8s q).length = q.length := u8s_len q
    have hg' : w.heap[g]? = some (.cells cur.toList.toArray 5 (0, 0)) := by simpa using hg
    refine wpList_copy_splice hgd d s 32 32 ho 5 Tryd.underlying32 hsz (some ⟨g, 0, none⟩) A l.length cap q.length c hd hs g 0 cur.toList 5 hg' (u8s q) (by rw [hlen]; exact (Nat.min_eq_left hle).symm) ?_ (by rw [hlen]; simp; omega) (u8s_one q) w0.heap.size w0 hbel hg0 ?_
    · intro hp
      refine ⟨rfl, ?_⟩
      cases A with
      | none => obtain rfl := hq.nil; simp [u8s] at hp
      | some ad => exact ⟨ad, rfl, hq.news⟩
    · intro w' hw' hb'
      have hw2 : w'.heap[g]? = some (.cells (splice cur.toList 0 (u8s q)).toArray 5 (0, 0)) := hw'
      have := h w' ?_ hb'
      · rw [hlen]; exact this
      · refine ⟨by simp [u8s], .inr ⟨g, cap, _, by simp; omega, hg0, hw2, by simp; omega, hcm, ?_, ?_⟩⟩
        · simp [splice, hlen]; omega
        · apply List.ext_getElem?
          intro i
          have hi := congrArg (fun t : List Value => t[i]?) ht'
          simp only [List.getElem?_take, u8s] at hi
          simp only [splice, List.take_zero, List.nil_append, Nat.zero_add, List.getElem?_take, u8s, List.length_append, List.length_drop, List.getElem?_append, List.length_map, List.getElem?_map, List.getElem?_drop, Nat.mul_one]
          by_cases h1 : i < q.length
          · rw [if_pos (by omega), if_pos h1, if_pos h1]
          · rw [if_neg h1, if_neg h1]
            rw [show q.length + (l.length - q.length) = l.length by omega, show q.length + (i - q.length) = i by omega]
            by_cases h2 : i < l.length
            · rw [if_pos h2] at hi ⊢
              rw [hi, List.getElem?_map]
            · rw [if_neg h2, List.getElem?_eq_none (by omega)]; rfl
end Go.Proofs.YtabnjiepmhblaaaDoor

/-! What the walks of value's Lay and Take want of value's Right, under the names that they use. -/
namespace Go.Proofs.YtabnjiepmhblaaaDoor.V4
open Go.RowKit
theorem right_any (k n : Int) (s : ByteArray) (w : World) (hs : s.size ≤ maxLen) : Calls Tryd.prog 47 #[.agg #[.int .i64 k, .int .i64 n, .string s]] w fun e w' => e = .returned (.bool (rightB k n s.toList)) ∧ Below w.heap.size w w' := vright_any k n s w hs
/-- A block that was made, behind calls that keep what lies below them. -/
theorem one_kept {w w3 : World} (cs : List Value) (hb : Below (w.alloc (.cells cs.toArray 71)).heap.size (w.alloc (.cells cs.toArray 71)) w3) : Blk w3 w.heap.size 71 cs ∧ Below w.heap.size w w3 := by
  have h0 : Below w.heap.size w (w.alloc (.cells cs.toArray 71)) := (Below.refl _ _).alloc (Nat.le_refl _) _
  exact ⟨(Blk.born w _ cs).below hb (by simp), h0.trans (hb.mono h0.size)⟩
theorem tol_inj {a b : ByteArray} (h : a.toList = b.toList) : a = b := by
  rw [ByteArray.toList_eq, ByteArray.toList_eq] at h
  cases a; cases b
  simp at h
  rw [h]
end Go.Proofs.YtabnjiepmhblaaaDoor.V4
