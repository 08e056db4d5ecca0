/- Words for memory that all walks of this seat use: slices of bytes that read as a list, and rows that the call made itself. -/
import Derived.Test.YtfgmdaemcaamiaaDoorRows
import Derived.WalkKit
import Derived.WalkSpells
import Derived.WalkLawsBesides
import Derived.LoopTactic
import Derived.Laws.AppendOwnNone
import Derived.Lib.AppendZeros
namespace Go.Proofs.YtfgmdaemcaamiaaDoor
open Go.RowKit

/-- The slice at A holds the bytes l. -/
def Byt (w : World) (A : Option Addr) (l : List UInt8) : Prop :=
  ∀ k (h : k < l.length), ∃ b o, A = some ⟨b, o, none⟩ ∧ w.cell? ⟨b, o + k, none⟩ = some (.int .u8 ((l[k]).toNat : Int))

/-- The slice at A holds slices of bytes, ps. -/
def Parts (w : World) (A : Option Addr) (ps : List (List UInt8)) : Prop :=
  ∀ k (h : k < ps.length), ∃ b o a c, A = some ⟨b, o, none⟩ ∧ w.cell? ⟨b, o + k, none⟩ = some (.slice a (ps[k]).length c) ∧ Byt w a ps[k] ∧ (ps[k]).length ≤ maxLen ∧ (a = none → c = 0)

def u8s (l : List UInt8) : List Value := l.map fun c => .int .u8 (c.toNat : Int)
/-- The slice v lies in a row of the call's own, from block B on, and holds the bytes l. -/
def Own (w : World) (B : Nat) (v : Value) (l : List UInt8) : Prop := w.ownsRow B 5 1 v l.length (u8s l)

theorem u8s_app (l m : List UInt8) : u8s (l ++ m) = u8s l ++ u8s m := by simp [u8s]
theorem u8s_len (l : List UInt8) : (u8s l).length = l.length := by simp [u8s]
theorem u8s_one (l : List UInt8) : ∀ u ∈ u8s l, u.oneCell' = true := by
  intro u hu
  obtain ⟨c, _, rfl⟩ := List.mem_map.1 hu
  rfl
theorem u8s_get {l : List UInt8} {j : Nat} {u : Value} (h : (u8s l)[j]? = some u) : ∃ hj : j < l.length, u = .int .u8 ((l[j]).toNat : Int) := by
  have hj : j < l.length := by
    have := (List.getElem?_eq_some_iff.1 h).1
    rwa [u8s_len] at this
  refine ⟨hj, ?_⟩
  have h2 := (List.getElem?_eq_some_iff.1 h).2
  rw [← h2]
  simp [u8s]
theorem flat_snoc (ps : List (List UInt8)) (k : Nat) (h : k < ps.length) : (ps.take (k + 1)).flatten = (ps.take k).flatten ++ ps[k] := by
  rw [List.take_succ_eq_append_getElem h, List.flatten_append]; simp
theorem flat_le (ps : List (List UInt8)) (k : Nat) : (ps.take k).flatten.length ≤ ps.flatten.length := by
  have h : ps.flatten = (ps.take k).flatten ++ (ps.drop k).flatten := by rw [← List.flatten_append, List.take_append_drop]
  rw [h, List.length_append]; omega

theorem Byt.keep {w w' : World} {A : Option Addr} {l : List UInt8} (h : Byt w A l) (hb : Below w.heap.size w w') : Byt w' A l := by
  intro k hk
  obtain ⟨b, o, e, hc⟩ := h k hk
  exact ⟨b, o, e, (hb.cell (World.block_lt_of_cell? w _ hc)).trans hc⟩
theorem Parts.keep {w w' : World} {A : Option Addr} {ps : List (List UInt8)} (h : Parts w A ps) (hb : Below w.heap.size w w') : Parts w' A ps := by
  intro k hk
  obtain ⟨b, o, a, c, e, hc, hy, hm, hn⟩ := h k hk
  exact ⟨b, o, a, c, e, (hb.cell (World.block_lt_of_cell? w _ hc)).trans hc, hy.keep hb, hm, hn⟩
/-- What the cells of a source are, in the form that the law on append asks. -/
theorem Byt.news {w : World} {ad : Addr} {l : List UInt8} (h : Byt w (some ad) l) : ∀ j u, (u8s l)[j]? = some u → w.cell? (ad.add j) = some u := by
  intro j u hu
  obtain ⟨hj, rfl⟩ := u8s_get hu
  obtain ⟨b, o, e, hc⟩ := h j hj
  injection e with e
  subst e
  rw [Addr.add_lit]
  exact hc
theorem Byt.nil {w : World} {l : List UInt8} (h : Byt w none l) : l = [] := by
  cases l with
  | nil => rfl
  | cons c t => obtain ⟨b, o, e, _⟩ := h 0 (by simp); cases e
theorem Byt.empty (w : World) (A : Option Addr) : Byt w A [] := fun k h => absurd h (by simp)

theorem Own.form {w : World} {B : Nat} {v : Value} {l : List UInt8} (h : Own w B v l) : ∃ A c, v = .slice A l.length c ∧ Byt w A l ∧ (A = none → c = 0) ∧ l.length ≤ c ∧ c ≤ maxLen := by
  rcases h.2 with ⟨rfl, h0⟩ | ⟨g, cap, cur, rfl, hb, hg, hn, hm, hs, ht⟩
  · have : l = [] := List.length_eq_zero_iff.1 h0
    subst this
    exact ⟨none, 0, rfl, Byt.empty _ _, fun _ => rfl, Nat.le_refl _, Nat.zero_le _⟩
  · refine ⟨some ⟨g, 0, none⟩, cap, rfl, ?_, by simp, hn, hm⟩
    intro k hk
    refine ⟨g, 0, rfl, ?_⟩
    have := World.ownsRow.cells h (g := g) rfl k (.int .u8 ((l[k]).toNat : Int)) (by simp [u8s, hk])
    rwa [Addr.add_lit] at this
theorem Own.nil (w : World) (B : Nat) : Own w B (.slice none 0 0) [] := World.ownsRow_nil w B 5 1
theorem Own.lt {w : World} {B : Nat} {v : Value} {l : List UInt8} (h : Own w B v l) : ∀ k, v.ownBlock = some k → B ≤ k := fun k hk => (World.ownsRow.lt h k hk).1

/-- A byte of a row of the call's own: it is read, it may be written, and what the row then holds. -/
theorem Own.at_ {w : World} {B i : Nat} {v : Value} {l : List UInt8} (h : Own w B v l) (hi : i < l.length) : ∃ g c, v = .slice (some ⟨g, 0, none⟩) l.length c ∧ B ≤ g ∧ l.length ≤ c ∧ c ≤ maxLen ∧
    w.cell? ⟨g, i, none⟩ = some (.int .u8 ((l[i]).toNat : Int)) ∧ w.frozen? ⟨g, i, none⟩ = false ∧ ∀ x : UInt8, Own (w.setCell ⟨g, i, none⟩ (.int .u8 (x.toNat : Int))) B v (l.set i x) := by
  rcases h.2 with ⟨_, h0⟩ | ⟨g, cap, cur, rfl, hb, hg, hn, hm, hs, ht⟩
  · omega
  · refine ⟨g, cap, rfl, hb, hn, hm, ?_, World.ownsRow.frozenAt h i, fun x => ?_⟩
    · rw [World.ownsRow.cellAt h i (by omega)]
      simp [u8s, hi]
    · have := (World.ownsRow.stored h i (.int .u8 (x.toNat : Int))).1
      have e : (u8s l).set i (.int .u8 (x.toNat : Int)) = u8s (l.set i x) := by simp [u8s, List.map_set]
      rw [e] at this
      show World.ownsRow _ B 5 1 _ (l.set i x).length _
      rw [List.length_set]
      exact this

theorem Own.base {w : World} {B B' : Nat} {v : Value} {l : List UInt8} (h : Own w B v l) (hB : B' ≤ B) : Own w B' v l := by
  refine ⟨h.1, ?_⟩
  rcases h.2 with hn | ⟨g, cap, cur, rfl, hb, rest⟩
  · exact .inl hn
  · exact .inr ⟨g, cap, cur, rfl, by omega, rest⟩

/-- What a call that hands back new bytes leaves. -/
def Made (w : World) (l : List UInt8) (e : Ending) (w' : World) : Prop := ∃ v, e = .returned v ∧ Own w' w.heap.size v l ∧ Below w.heap.size w w'
theorem Made.up {w w1 w' : World} {l : List UInt8} {e : Ending} (hb : Below w.heap.size w w1) (h : Made w1 l e w') : Made w l e w' := by
  obtain ⟨v, he, ho, hw⟩ := h
  exact ⟨v, he, ho.base hb.size, hb.trans (hw.mono hb.size)⟩

/-- Block g holds just the cells cs. -/
def Blk (w : World) (g : Nat) (t : TypeId) (cs : List Value) : Prop := w.heap[g]? = some (.cells cs.toArray t (0, 0))
theorem Blk.at_ {w : World} {g : Nat} {t : TypeId} {cs : List Value} (h : Blk w g t cs) (i : Nat) : w.cell? ⟨g, i, none⟩ = cs[i]? := by
  rw [cell_of_row w g i cs.toArray t (0, 0) h]; simp
theorem Blk.free {w : World} {g : Nat} {t : TypeId} {cs : List Value} (h : Blk w g t cs) (i : Nat) : w.frozen? ⟨g, i, none⟩ = false := by
  unfold Blk at h
  simp [World.frozen?, h]
theorem Blk.store {w : World} {g : Nat} {t : TypeId} {cs : List Value} (h : Blk w g t cs) (i : Nat) (u : Value) : Blk (w.setCell ⟨g, i, none⟩ u) g t (cs.set i u) := by
  unfold Blk at h ⊢
  simp [World.setCell, Array.getElem?_modify, h]
theorem Blk.later {w : World} {g : Nat} {t : TypeId} {cs : List Value} (h : Blk w g t cs) (o : Obj) : Blk (w.alloc o) g t cs :=
  (Below.heap_alloc w o g (lt_of_block h)).trans h
theorem Blk.below {w w' : World} {B g : Nat} {t : TypeId} {cs : List Value} (h : Blk w g t cs) (hb : Below B w w') (hg : g < B) : Blk w' g t cs := (hb.block g hg).trans h
theorem Blk.born (w : World) (t : TypeId) (cs : List Value) : Blk (w.alloc (.cells cs.toArray t)) w.heap.size t cs := heap_alloc_new w _

/-- What is known of a slice of numbers that came in: it is nil, or leads to a row of 'cap' cells, the numbers zs. -/
def IsRow (k : IntKind) (w : World) (a : Option Addr) (len cap : Nat) (zs : List Int) : Prop :=
  (a = none ∧ len = 0 ∧ cap = 0 ∧ zs = []) ∨
  ∃ x, a = some x ∧ len ≤ cap ∧ cap ≤ maxLen ∧ zs.length = cap ∧ (∀ i, i < zs.length → w.cell? (x.add i) = some (.int k (zs.getD i 0))) ∧ ∀ n ∈ zs, (Lit.int k n).wf = true

theorem u8_wf {n : Int} (h : (Lit.int .u8 n).wf = true) : 0 ≤ n ∧ n < 256 := by
  simp [Lit.wf, IntKind.min, IntKind.max, IntKind.signed, IntKind.bits] at h
  omega
theorem u8_of {n : Int} (h : (Lit.int .u8 n).wf = true) : ∃ c : UInt8, n = (c.toNat : Int) := by
  have := u8_wf h
  exact ⟨UInt8.ofNat n.toNat, by rw [UInt8.toNat_ofNat']; omega⟩
/-- A slice of bytes that came in, as a list of bytes. -/
theorem row_byt {w : World} {a : Option Addr} {len cap : Nat} {zs : List Int} (h : IsRow .u8 w a len cap zs) : ∃ l : List UInt8, len = l.length ∧ Byt w a l ∧ (a = none → cap = 0) ∧ l.length ≤ cap ∧ cap ≤ maxLen := by
  rcases h with ⟨rfl, rfl, rfl, rfl⟩ | ⟨x, rfl, hl, hm, hz, hc, hw⟩
  · exact ⟨[], rfl, Byt.empty _ _, fun _ => rfl, Nat.le_refl _, Nat.zero_le _⟩
  · refine ⟨(zs.take len).map fun n => UInt8.ofNat n.toNat, by simp; omega, ?_, by simp, by simp; omega, hm⟩
    intro k hk
    have hk' : k < len ∧ k < zs.length := by simp at hk; omega
    have h0 := hc 0 (by omega)
    obtain ⟨b, o, sp⟩ := x
    have hsp : sp = none := by simpa [Addr.add] using World.cell?_spot h0
    subst hsp
    refine ⟨b, o, rfl, ?_⟩
    have h1 := hc k hk'.2
    rw [Addr.add_lit] at h1
    rw [h1]
    have hwf := u8_wf (hw zs[k] (List.getElem_mem _))
    have e : zs.getD k 0 = zs[k]'hk'.2 := by simp [List.getD, hk'.2]
    rw [e]
    congr 2
    simp only [List.getElem_map, List.getElem_take]
    rw [UInt8.toNat_ofNat']
    omega
theorem Byt.cut {w : World} {A : Option Addr} {l : List UInt8} (h : Byt w A l) (n : Nat) : Byt w A (l.take n) := by
  intro k hk
  have hk' : k < l.length := by simp at hk; omega
  obtain ⟨b, o, e, hc⟩ := h k hk'
  exact ⟨b, o, e, by rw [hc]; simp⟩

/-- The text whose bytes are l. -/
def str (l : List UInt8) : ByteArray := ⟨l.toArray⟩
theorem str_list (l : List UInt8) : (str l).data.toList = l := rfl
theorem str_size (l : List UInt8) : (str l).size = l.length := by simp [str, ByteArray.size]
/-- A slice of bytes as a text. -/
theorem conv {w : World} {A : Option Addr} {l : List UInt8} (h : Byt w A l) (c : Nat) : (convert 24 9 (.slice A l.length c)).run Tryd.prog w = .ok (.string (str l)) w := by
  cases A with
  | none =>
    obtain rfl := h.nil
    exact run_convert_bytes_nil w 24 5 Tryd.underlying24 Tryd.underlying5 0 c 9 Tryd.underlying9
  | some a =>
    refine run_convert_bytes_back w 24 9 5 a c l Tryd.underlying24 Tryd.underlying5 Tryd.underlying9 fun j hj => ?_
    exact h.news j _ (by simp [u8s, hj])
/-- One slice of bytes in a block of its own, as a call with one part is handed it. -/
theorem parts_one {w : World} {X : Nat} {A : Option Addr} {c : Nat} {l : List UInt8} (h0 : w.cell? ⟨X, 0, none⟩ = some (.slice A l.length c)) (hb : Byt w A l) (hl : l.length ≤ maxLen) (hn : A = none → c = 0) : Parts w (some ⟨X, 0, none⟩) [l] := by
  intro k hk
  match k, hk with
  | 0, _ => exact ⟨X, 0, A, c, rfl, h0, hb, hl, hn⟩

/-- One append of the second loop: what was gathered, and one part more. -/
theorem own_step {w0 wr w' : World} {v v' : Value} {d q : List UInt8} (hb : Below w0.heap.size w0 wr) (ho : Own wr w0.heap.size v d)
    (h1 : w'.ownsRow w0.heap.size 5 1 v' (d.length + q.length) (u8s d ++ u8s q)) (h2 : wr.grownBy w' v.ownBlock) : Own w' w0.heap.size v' (d ++ q) ∧ Below w0.heap.size w0 w' := by
  constructor
  · show w'.ownsRow w0.heap.size 5 1 v' (d ++ q).length (u8s (d ++ q))
    rw [List.length_append, u8s_app]; exact h1
  · exact hb.grown h2 hb.size (fun k hk => ho.lt k hk)

theorem Tryd.info5 : (Tryd.prog.info? 5).map (fun i => (i.zero, i.size, i.bytes)) = some (some (.int .u8 0), 1, 1) := by kernel_rfl

end Go.Proofs.YtfgmdaemcaamiaaDoor
