/- What the bound on what came in says of bytes. -/
import Derived.Test.YtmjhimbjnmgklaaRows
import Derived.Test.YtmjhimbjnmgklaaReach
namespace Go.Proofs.Ytmjhimbjnmgklaa
open Go.RowKit Go.ChangeShapes Go.WideShapes

theorem bulk_one {H : Type} (d : DataW H) : 1 ≤ Rows.uptoBulk d := by
  cases d with
  | lit l => cases l <;> simp [Rows.uptoBulk]
  | _ => simp [Rows.uptoBulk]
theorem bulk_len {H : Type} : ∀ l : List (DataW H), l.length ≤ Rows.uptoBulkAll l
  | [] => Nat.zero_le _
  | d :: r => by
      have h1 := bulk_one d
      have h2 := bulk_len r
      simp only [List.length_cons, Rows.uptoBulkAll]
      omega
theorem bulk_part {H : Type} {d : DataW H} : ∀ {l : List (DataW H)}, d ∈ l → Rows.uptoBulk d ≤ Rows.uptoBulkAll l
  | x :: r, h => by
      simp only [Rows.uptoBulkAll]
      rcases List.mem_cons.1 h with rfl | h
      · omega
      · have := bulk_part h
        omega
theorem bulk_all {H : Type} {l : List (DataW H)} (h : Rows.uptoSmall H l = true) : Rows.uptoBulkAll l ≤ 1048576 := of_decide_eq_true h
/-- A slice of bytes that came in is no longer than what came in. -/
theorem bulk_u8 {H : Type} {enc : TypeId × Value → H} {W : World} {ds : List (DataW H)} {a : Option Addr} {len cap : Nat} {d : DataW H} {p : List MemPlace} (hk : Rows.uptoSmall H ds = true) (hd : d ∈ ds)
    (h : DataW.Trod enc Try.prog W 0 (fun _ => true) true 22 (.slice a len cap) d p) : cap ≤ 1048576 := by
  have hb := Nat.le_trans (bulk_part hd) (bulk_all hk)
  obtain ⟨fuel, hf⟩ := h
  rcases open_ints Try.underlying22 Try.underlying5 (by kernel_rfl) hf with ⟨hcs, _⟩ | ⟨x, l, c, zs, hcs, _, hl, hm, hz, hx, _, _⟩
  · simp [Value.cells] at hcs
    omega
  · simp [Value.cells] at hcs
    obtain ⟨rfl, rfl, rfl⟩ := hcs
    simp only [Prod.mk.injEq] at hx
    obtain ⟨rfl, _⟩ := hx
    simp only [Rows.uptoBulk] at hb
    have h1 := bulk_len (lits (H := H) .u8 (zs.take len))
    have h2 := bulk_len (lits (H := H) .u8 (zs.drop len))
    simp only [lits, List.length_map, List.length_take, List.length_drop] at h1 h2
    simp only [if_true] at hz
    simp only [lits] at hb
    omega
end Go.Proofs.Ytmjhimbjnmgklaa
