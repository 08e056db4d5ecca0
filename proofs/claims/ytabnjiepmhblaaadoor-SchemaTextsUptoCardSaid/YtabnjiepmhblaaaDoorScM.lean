/- Schemas: the plain model: columns, names, which schemas are right. -/
import Derived.Test.YtabnjiepmhblaaaDoorRows
namespace Go.Proofs.YtabnjiepmhblaaaDoor
set_option linter.unusedVariables false

structure Col where
  name : ByteArray
  kind : Int
  null : Bool
  bound : name.size ≤ 140737488351232
deriving DecidableEq

def letC (c : UInt8) : Bool := decide (97 ≤ c.toNat ∧ c.toNat ≤ 122)
def digC (c : UInt8) : Bool := decide (48 ≤ c.toNat ∧ c.toNat ≤ 57)
/-- What may stand in a name at place i. -/
def nameC (i : Nat) (c : UInt8) : Bool := letC c || (decide (i ≠ 0) && (digC c || decide (c.toNat = 95)))
def nameAll : Nat → List UInt8 → Bool
  | _, [] => true
  | i, c :: t => nameC i c && nameAll (i + 1) t
/-- Names of columns. -/
def nameL (s : List UInt8) : Bool := decide (1 ≤ s.length ∧ s.length ≤ 24) && nameAll 0 s
theorem nameAll_iff : ∀ (s : List UInt8) (i : Nat), nameAll i s = true ↔ ∀ k (h : k < s.length), nameC (i + k) s[k] = true
  | [], i => by simp [nameAll]
  | c :: t, i => by
    rw [nameAll, Bool.and_eq_true, nameAll_iff t (i + 1)]
    constructor
    · rintro ⟨h1, h2⟩ k hk
      cases k with
      | zero => exact h1
      | succ k => have := h2 k (by simpa using hk); rw [show i + (k + 1) = i + 1 + k by omega]; exact this
    · intro h
      refine ⟨h 0 (by simp), fun k hk => ?_⟩
      have := h (k + 1) (by simp; omega)
      rw [show i + 1 + k = i + (k + 1) by omega]; exact this
/-- Schemas that may be. -/
def kindOk (c : Col) : Bool := decide (1 ≤ c.kind ∧ c.kind ≤ 3)
def colOk (c : Col) : Bool := nameL c.name.data.toList && kindOk c
def namesL (l : List Col) : List (List UInt8) := l.map fun c => c.name.data.toList
def rightC (l : List Col) : Bool := decide (1 ≤ l.length ∧ l.length ≤ 16) && (l.all colOk && decide (namesL l).Nodup)
/-- The first column of a name. -/
def findC (l : List Col) (s : List UInt8) : Int := match l.findIdx? (fun c => decide (c.name.data.toList = s)) with | some i => (i : Int) | none => -1
end Go.Proofs.YtabnjiepmhblaaaDoor
