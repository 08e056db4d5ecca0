/- Laws: make of bytes with a length, and copy of bytes onto a row of the call's own. -/
import Derived.Test.YtfgmdaemcaamiaaDoorLaws
import Derived.Laws.CopyOwn
import Derived.Laws.MakeOwn
namespace Go.Proofs.YtfgmdaemcaamiaaDoor
open Go.RowKit
set_option linter.unusedVariables false

theorem mk_row {ops : Array Oper} {rest : List Oper} {o : Oper} {a : Act} {Q : Exit → Act → World → Prop} {w : World} (w0 : World) (hgd : o.guard = none) (l c : Operand)
    (hop : o.op = Op.makeSlice 24 l c) (L C : Int) (n m : Nat) (hl : a.eval l = .int .i64 L) (hc : a.eval c = .int .i64 C) (hL : L = (n : Int)) (hC : C = (m : Int)) (hnm : n ≤ m) (hsz : m ≤ 281474976710656) (hbel : Below w0.heap.size w0 w)
    (h : ∀ w', Own w' w0.heap.size (.slice (some ⟨w.heap.size, 0, none⟩) n m) (List.replicate n 0) → Below w0.heap.size w0 w' → wpList Tryd.prog ops Q rest (a.put o.dst (.slice (some ⟨w.heap.size, 0, none⟩) n m)) w') : wpList Tryd.prog ops Q (o :: rest) a w := by
  obtain ⟨i0, hti, hz0, hz1, hz2⟩ := info_parts Tryd.info5
  subst hL hC
  have hr := run_make (P := Tryd.prog) w 24 5 i0 (.int .u8 0) Tryd.underlying24 hti hz0 .i64 .i64 n m (by omega) (by omega) (by rw [hz2]; omega) (by omega)
  simp only [Int.toNat_natCast] at hr
  rw [hz1] at hr
  refine wpList_plain hgd fun K hK' => ?_
  unfold Oper.wp
  simp [execOp, hop, hl, hc, hr, Result.andThen]
  refine hK' _ _ (h _ ?_ (hbel.alloc hbel.size _))
  refine ⟨by simp [u8s], .inr ⟨w.heap.size, m, madeCells (Value.int .u8 0).cells m, by simp, hbel.size, heap_alloc_new w _, by simpa using hnm, by unfold maxLen; omega, by simp [size_madeCells], ?_⟩⟩
  apply List.ext_getElem
  · simp [madeCells, u8s]; omega
  · intro i h1 h2
    have e1 : i % 1 = 0 := Nat.mod_one i
    simp [madeCells, u8s, Value.cells, e1]

theorem cp_byt {ops : Array Oper} {rest : List Oper} {o : Oper} {a : Act} {Q : Exit → Act → World → Prop} {w : World} (w0 : World) (hgd : o.guard = none) (d s : Operand)
    (ho : o.op = .call { callee := .builtin .copy, args := #[d, s], argTypes := #[24, 24] }) (v : Value) (l q : List UInt8) (hd : a.eval d = v) (hown : Own w w0.heap.size v l) (hbel : Below w0.heap.size w0 w)
    (A : Option Addr) (m c : Nat) (hs : a.eval s = .slice A m c) (hm : m = q.length) (hq : Byt w A q) (hle : q.length ≤ l.length)
    (h : ∀ w', Own w' w0.heap.size v (q ++ l.drop q.length) → Below w0.heap.size w0 w' → wpList Tryd.prog ops Q rest (a.put o.dst (goInt q.length)) w') : wpList Tryd.prog ops Q (o :: rest) a w := by
  have hsz : (Tryd.prog.info? 5).map (·.size) = some 1 := by kernel_rfl
  subst hm
  rcases hown.2 with ⟨rfl, h0⟩ | ⟨g, cap, cur, rfl, hg0, hg, hnc, hcm, hcs, ht⟩
  · obtain rfl : l = [] := List.length_eq_zero_iff.1 h0
    obtain rfl : q = [] := List.length_eq_zero_iff.1 (by simpa using hle)
    exact wpList_copy_nothing hgd d s 24 24 ho 5 Tryd.underlying24 hsz none A 0 0 0 c hd hs rfl (h w hown hbel)
  · have hcs' : cur.size = cap := by simpa using hcs
    have ht' : cur.toList.take l.length = u8s l := by simpa using ht
    have hlen : (u8s q).length = q.length := u8s_len q
    have hg' : w.heap[g]? = some (.cells cur.toList.toArray 5 (0, 0)) := by simpa using hg
    refine wpList_copy_splice hgd d s 24 24 ho 5 Tryd.underlying24 hsz (some ⟨g, 0, none⟩) A l.length cap q.length c hd hs g 0 cur.toList 5 hg' (u8s q) (by rw [hlen]; exact (Nat.min_eq_left hle).symm) ?_ (by rw [hlen]; simp; omega) (u8s_one q) w0.heap.size w0 hbel hg0 ?_
    · intro hp
      refine ⟨rfl, ?_⟩
      cases A with
      | none => obtain rfl := hq.nil; simp [u8s] at hp
      | some ad => exact ⟨ad, rfl, hq.news⟩
    · intro w' hw' hb'
      have hw2 : w'.heap[g]? = some (.cells (splice cur.toList 0 (u8s q)).toArray 5 (0, 0)) := hw'
      have := h w' ?_ hb'
      · rw [hlen]; exact this
      · refine ⟨by simp [u8s], .inr ⟨g, cap, _, by simp; omega, hg0, hw2, by simp; omega, hcm, ?_, ?_⟩⟩
        · simp [splice, hlen]; omega
        · apply List.ext_getElem?
          intro i
          have hi := congrArg (fun t : List Value => t[i]?) ht'
          simp only [List.getElem?_take, u8s] at hi
          simp only [splice, List.take_zero, List.nil_append, Nat.zero_add, List.getElem?_take, u8s, List.length_append, List.length_drop, List.getElem?_append, List.length_map, List.getElem?_map, List.getElem?_drop, Nat.mul_one]
          by_cases h1 : i < q.length
          · rw [if_pos (by omega), if_pos h1, if_pos h1]
          · rw [if_neg h1, if_neg h1]
            rw [show q.length + (l.length - q.length) = l.length by omega, show q.length + (i - q.length) = i by omega]
            by_cases h2 : i < l.length
            · rw [if_pos h2] at hi ⊢
              rw [hi, List.getElem?_map]
            · rw [if_neg h2, List.getElem?_eq_none (by omega)]; rfl
end Go.Proofs.YtfgmdaemcaamiaaDoor
