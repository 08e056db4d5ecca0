/- stackyardlaw04.ValueBack (7) at every value, bytes and text. -/
import Derived.Test.YtlflhigphfnhoaaDoorVBk0
namespace Go.Proofs.YtlflhigphfnhoaaDoor
open Go.RowKit
set_option linter.unusedVariables false

theorem vback_any (A : Option Addr) (c : Nat) (l : List UInt8) (k n : Int) (t s : ByteArray) (w : World) (hb : Byt w A l) (hA : A = none → c = 0) (hc : l.length ≤ c) (hm : c ≤ 140737488351232) (ht : t.size ≤ maxLen) (n0 : -9223372036854775808 ≤ n) (n1 : n ≤ 9223372036854775807) (hs : s.size ≤ 140737488351232) (he : Errs w) (hp : Pow w) :
    Calls Tryd.prog 7 #[.agg #[.int .i64 k, .int .i64 n, .string t], .slice A l.length c, .string s] w fun e w' => e = .returned (.bool true) ∧ Below w.heap.size w w' := by
  cases hr : rightB k n t.toList with
  | false =>
    cases hv : valO l 0 with
    | none =>
      cases hz : parO s with
      | none => exact vback_nnn k n t A c l s w hs he hp hb hA hc hm ht n0 n1 hr hv hz
      | some q => obtain ⟨k3, n3, t3⟩ := q; exact vback_nny k n t A c l s w hs he hp hb hA hc hm ht n0 n1 hr hv k3 n3 t3 hz
    | some r =>
      obtain ⟨k2, n2, t2, p2⟩ := r
      cases hz : parO s with
      | none => exact vback_nyn k n t A c l s w hs he hp hb hA hc hm ht n0 n1 hr k2 n2 p2 t2 hv hz
      | some q => obtain ⟨k3, n3, t3⟩ := q; exact vback_nyy k n t A c l s w hs he hp hb hA hc hm ht n0 n1 hr k2 n2 p2 t2 hv k3 n3 t3 hz
  | true =>
    cases hv : valO l 0 with
    | none =>
      cases hz : parO s with
      | none => exact vback_ynn k n t A c l s w hs he hp hb hA hc hm ht n0 n1 hr hv hz
      | some q => obtain ⟨k3, n3, t3⟩ := q; exact vback_yny k n t A c l s w hs he hp hb hA hc hm ht n0 n1 hr hv k3 n3 t3 hz
    | some r =>
      obtain ⟨k2, n2, t2, p2⟩ := r
      cases hz : parO s with
      | none => exact vback_yyn k n t A c l s w hs he hp hb hA hc hm ht n0 n1 hr k2 n2 p2 t2 hv hz
      | some q => obtain ⟨k3, n3, t3⟩ := q; exact vback_yyy k n t A c l s w hs he hp hb hA hc hm ht n0 n1 hr k2 n2 p2 t2 hv k3 n3 t3 hz
end Go.Proofs.YtlflhigphfnhoaaDoor
