/- The walk of NetOrder (4). -/
import Derived.Test.YtplfigikjlfmjaaNetL
import Derived.BigQuiet
import Derived.BigRegion
namespace Go.Proofs.Ytplfigikjlfmjaa
open Go.RowKit Go.Lib
set_option linter.unusedVariables false

set_option maxHeartbeats 30000000 in
set_option maxRecDepth 100000 in
theorem order_any (a : Option Addr) (c : Nat) (xs : List ByteArray) (a2 : Option Addr) (c2 : Nat) (ys : List Bool) (w : World) (hx : Strs w a xs) (hy : Bools w a2 ys) (hlx : xs.length ≤ maxLen) (hly : ys.length ≤ maxLen) :
    Calls Try.prog 4 #[.slice a xs.length c, .slice a2 ys.length c2] w fun e w' => e = .returned (.bool true) ∧ Below w.heap.size w w' := by
  have hsh := shown20_any w
  have hnew := fun w => new_any 3 w (by decide) (by decide)
  unfold maxLen at hlx hly
  go_enter Try.func4, Try.ntmps4
  go_wp2_with (first | (go_at_call 5; refine hsh.mono ?_; rintro e w1 ⟨rfl, hb⟩) | (go_at_call 6; refine (hnew _).mono ?_; rintro e w2 ⟨rfl, hb2, hB2⟩))
  have hN0 : St w1 w2 w1.heap.size (.slice none 0 0) (.slice none 0 0) xs ys 0 cut0 := ⟨isnet_new w1 w2 3 hb2 hB2, World.ownsRow_nil _ _ _ _, fun b hb => by cases hb⟩
  go_loopw [8, 9, 10] (fun u l i wr => ∃ (j : Nat) (v : Value) (cut : List Value), j ≤ xs.length ∧ j ≤ 100 ∧ i = .int .i64 j ∧ l = .int .i64 ((j - cnt ys j : Nat) : Int) ∧ St w1 wr w1.heap.size v u xs ys j cut) (fun _ _ i _ => 100 - (intOf i).toNat)
  case atStart => exact ⟨0, _, _, by omega, by omega, rfl, rfl, hN0⟩
  case round =>
    obtain ⟨j, v, cut, hj, hj100, rfl, rfl, hS⟩ := hrel
    by_cases hlt : j < xs.length ∧ j < 100
    · obtain ⟨h1, h2⟩ := hlt
      obtain ⟨b, o, rfl, hc0, hm0⟩ := hx j h1
      unfold maxLen at hm0
      have hmc : mC xs j = msgC (1 + (j : Int) % 3) (1 + ((j : Int) + 1) % 3) (cut1000 xs[j]) := by
        unfold mC
        rw [List.getD_eq_getElem?_getD, List.getElem?_eq_getElem h1]
        rfl
      generalize xs[j] = s at hc0 hm0 hmc
      have hbw := World.block_lt_of_cell? w _ hc0
      have hww : Below w.heap.size w wr := hb.trans (hS.net.bel.mono hb.size)
      have hcr : wr.cell? ⟨b, o + j, none⟩ = some (.string s) := (hww.cell (p := ⟨b, o + j, none⟩) hbw).trans hc0
      clear hc0
      have i1 : (0 : Int) ≤ (j : Int) := by omega
      have i2 : (j : Int) < (xs.length : Int) := by omega
      have hgr := lt_of_block hS.net.blk
      have hcnt := cnt_le ys j
      have hT := cut1000_size s
      have hbr : b < wr.heap.size := World.block_lt_of_cell? wr _ hcr
      have hcr2 : (wr.alloc (Obj.cells #[Value.int IntKind.i64 0, Value.int IntKind.i64 0, Value.string { data := #[] }] 41)).cell? ⟨b, o + j, none⟩ = some (.string s) := cell_later ((Below.refl _ _).alloc (Nat.le_refl _) _) hcr
      by_cases hs : s.size ≤ 1000
      · have tm : ¬ (1000 : Int) < (s.size : Int) := by omega
        have hsT : cut1000 s = s := if_pos hs
        rw [hsT] at hmc hT
        go_wp2_with fail
        go_region
        have hbA : Below wr.heap.size wr (wr.alloc (Obj.cells #[.int .i64 (1 + (j : Int) % 3), .int .i64 (1 + ((j : Int) + 1) % 3), .string s] 41)).drew := ((Below.refl _ _).alloc (Nat.le_refl _) _).drew
        have hbl : Blk (wr.alloc (Obj.cells #[.int .i64 (1 + (j : Int) % 3), .int .i64 (1 + ((j : Int) + 1) % 3), .string s] 41)).drew wr.heap.size 41 (msgC (1 + (j : Int) % 3) (1 + ((j : Int) + 1) % 3) s) := Blk.born wr 41 (msgC (1 + (j : Int) % 3) (1 + ((j : Int) + 1) % 3) s)
        have hnA := hS.net.later hbA
        have hcut := fun cc => cutL j w1 w1.heap.size v (cnt ys j) (wants xs ys j) 3 _ cut cc _ hnA (by decide)
        by_cases hcy : j < ys.length
        · obtain ⟨b2, o2, rfl, hc2⟩ := hy j hcy
          have hcl : isCut ys j = ys[j] := by
            unfold isCut
            rw [List.getD_eq_getElem?_getD, List.getElem?_eq_getElem hcy]
            rfl
          have hbw2 := World.block_lt_of_cell? w _ hc2
          have hcr3 : wr.cell? ⟨b2, o2 + j, none⟩ = some (.bool ys[j]) := (hww.cell (p := ⟨b2, o2 + j, none⟩) hbw2).trans hc2
          have hbr2 : b2 < wr.heap.size := World.block_lt_of_cell? wr _ hcr3
          have i3 : (j : Int) < (ys.length : Int) := by omega
          generalize ys[j] = cc at hcr3 hcl hc2
          have hne : wr.heap.size ≠ w1.heap.size := by omega
          have hvn : v.ownBlock ≠ some wr.heap.size := fun e => by have := (own_lt hS.net.own e).2; omega
          have hrA := own_below hS.row hbA
          have hapA := hS.apart
          have hug := own_ne hS.net.blk hS.row
          have hbz : w1.heap.size ≤ wr.heap.size := hS.net.bel.size
          have hsz := hnA.len
          have hd3 : (3 : Int) ≤ 3 := by decide
          have hset0 : ∀ cc : Bool, (cut.set (lineI j) (.bool cc))[lineI j]? = some (.bool cc) := fun cc => List.getElem?_set_self (by rw [hsz]; exact line_lt j)
          have hlk : cnt ys j < 2000 := by omega
          have hk5 : cnt ys j ≤ 100000 := by omega
          have hp0 : (0 : Int) ≤ ((j - cnt ys j : Nat) : Int) := by omega
          have hp1 : ((j - cnt ys j : Nat) : Int) ≤ 1000000 := by omega
          cases cc
          · have hset := hset0 false
            go_wp2_with (first | (go_at_call 12; refine (hcut _).mono ?_; rintro e w5 ⟨rfl, hN5, hF5⟩; have hB5 := blk_fr hbl hF5 hne hvn; have p0 : w5.cell? ⟨wr.heap.size, 0, none⟩ = some (.int .i64 (1 + (j : Int) % 3)) := hB5.at_ 0; have p1 : w5.cell? ⟨wr.heap.size, 1, none⟩ = some (.int .i64 (1 + ((j : Int) + 1) % 3)) := hB5.at_ 1; have p2 : w5.cell? ⟨wr.heap.size, 2, none⟩ = some (.string s) := hB5.at_ 2) | (go_at_call 13; refine (sendoL j w1 w1.heap.size v (cnt ys j) (wants xs ys j) 3 _ _ s w5 hN5 hd3 hset hlk hT).mono ?_; rintro e w6 ⟨rfl, v6, hN6, hF6⟩; have hB6 := blk_fr hB5 hF6 hne hvn; have hr5 := own_fr hrA hF5 hug hapA; have hr6 := own_fr hr5 hF6 hug hapA; have hap6 := apart_left hapA hr5 hF6.fresh; have hbz6 : w1.heap.size ≤ w6.heap.size := hN6.bel.size; have q0 : w6.cell? ⟨wr.heap.size, 0, none⟩ = some (.int .i64 (1 + (j : Int) % 3)) := hB6.at_ 0; have q1 : w6.cell? ⟨wr.heap.size, 1, none⟩ = some (.int .i64 (1 + ((j : Int) + 1) % 3)) := hB6.at_ 1; have q2 : w6.cell? ⟨wr.heap.size, 2, none⟩ = some (.string s) := hB6.at_ 2) | (at_builtin; have hb7 : Below w6.heap.size w6 (w6.alloc (Obj.cells #[.int .i64 (1 + (j : Int) % 3), .int .i64 (1 + ((j : Int) + 1) % 3), .string s] 41)) := (Below.refl _ _).alloc (Nat.le_refl _) _; have hr7 := own_below hr6 hb7; have hN7 := hN6.later hb7; have hB7 := Blk.born w6 41 (msgC (1 + (j : Int) % 3) (1 + ((j : Int) + 1) % 3) s); refine app_msg w1.heap.size rfl _ _ rfl _ (cnt ys j) (wants xs ys j) rfl hr7 (Nat.le_trans hbz6 hb7.size) ⟨w6.heap.size, 0, none⟩ 1 (1 + (j : Int) % 3) (1 + ((j : Int) + 1) % 3) s rfl (hB7.at_ 0) (hB7.at_ 1) (hB7.at_ 2) hk5 ?_; intro u2 w8 hown8 hgr8 hfr8))
            have hN8 := isnet_beside hN7 hr7 hgr8 hap6
            have hap8 := apart_right hap6 hN7.own hfr8
            rw [← hmc] at hN8 hown8
            have hS8 := st_open hN8 hown8 hap8 hcl rfl
            go_round
            case rel => exact ⟨j + 1, v6, _, by omega, by omega, by go_num, by simp only [cnt, hcl]; congr 2; simp, hS8⟩
            case measure => simp [intOf]; omega
          · have hset := hset0 true
            go_wp2_with (first | (go_at_call 12; refine (hcut _).mono ?_; rintro e w5 ⟨rfl, hN5, hF5⟩; have hB5 := blk_fr hbl hF5 hne hvn; have p0 : w5.cell? ⟨wr.heap.size, 0, none⟩ = some (.int .i64 (1 + (j : Int) % 3)) := hB5.at_ 0; have p1 : w5.cell? ⟨wr.heap.size, 1, none⟩ = some (.int .i64 (1 + ((j : Int) + 1) % 3)) := hB5.at_ 1; have p2 : w5.cell? ⟨wr.heap.size, 2, none⟩ = some (.string s) := hB5.at_ 2) | (go_at_call 13; refine (sendcL j w1 w1.heap.size v (cnt ys j) (wants xs ys j) 3 _ _ s w5 hN5 hd3 hset hT hp0 hp1).mono ?_; rintro e w6 ⟨rfl, hN6, hF6⟩; have hB6 := blk_fr hB5 hF6 hne hvn; have hr5 := own_fr hrA hF5 hug hapA; have hr6 := own_fr hr5 hF6 hug hapA; have hap6 := apart_left hapA hr5 hF6.fresh; have hbz6 : w1.heap.size ≤ w6.heap.size := hN6.bel.size; have q0 : w6.cell? ⟨wr.heap.size, 0, none⟩ = some (.int .i64 (1 + (j : Int) % 3)) := hB6.at_ 0; have q1 : w6.cell? ⟨wr.heap.size, 1, none⟩ = some (.int .i64 (1 + ((j : Int) + 1) % 3)) := hB6.at_ 1; have q2 : w6.cell? ⟨wr.heap.size, 2, none⟩ = some (.string s) := hB6.at_ 2))
            have hS8 := st_shut hN6 hr6 hap6 hcl (by omega)
            go_round
            case rel => exact ⟨j + 1, v, _, by omega, by omega, by go_num, by simp only [cnt, hcl]; congr 2; simp; omega, hS8⟩
            case measure => simp [intOf]; omega
        · have hcl : isCut ys j = false := by
            unfold isCut
            rw [List.getD_eq_getElem?_getD, List.getElem?_eq_none (by omega)]
            rfl
          have i3 : ¬ (j : Int) < (ys.length : Int) := by omega
          have hne : wr.heap.size ≠ w1.heap.size := by omega
          have hvn : v.ownBlock ≠ some wr.heap.size := fun e => by have := (own_lt hS.net.own e).2; omega
          have hrA := own_below hS.row hbA
          have hapA := hS.apart
          have hug := own_ne hS.net.blk hS.row
          have hbz : w1.heap.size ≤ wr.heap.size := hS.net.bel.size
          have hsz := hnA.len
          have hd3 : (3 : Int) ≤ 3 := by decide
          have hset0 : ∀ cc : Bool, (cut.set (lineI j) (.bool cc))[lineI j]? = some (.bool cc) := fun cc => List.getElem?_set_self (by rw [hsz]; exact line_lt j)
          have hlk : cnt ys j < 2000 := by omega
          have hk5 : cnt ys j ≤ 100000 := by omega
          have hp0 : (0 : Int) ≤ ((j - cnt ys j : Nat) : Int) := by omega
          have hp1 : ((j - cnt ys j : Nat) : Int) ≤ 1000000 := by omega
          have hset := hset0 false
          go_wp2_with (first | (go_at_call 12; refine (hcut _).mono ?_; rintro e w5 ⟨rfl, hN5, hF5⟩; have hB5 := blk_fr hbl hF5 hne hvn; have p0 : w5.cell? ⟨wr.heap.size, 0, none⟩ = some (.int .i64 (1 + (j : Int) % 3)) := hB5.at_ 0; have p1 : w5.cell? ⟨wr.heap.size, 1, none⟩ = some (.int .i64 (1 + ((j : Int) + 1) % 3)) := hB5.at_ 1; have p2 : w5.cell? ⟨wr.heap.size, 2, none⟩ = some (.string s) := hB5.at_ 2) | (go_at_call 13; refine (sendoL j w1 w1.heap.size v (cnt ys j) (wants xs ys j) 3 _ _ s w5 hN5 hd3 hset hlk hT).mono ?_; rintro e w6 ⟨rfl, v6, hN6, hF6⟩; have hB6 := blk_fr hB5 hF6 hne hvn; have hr5 := own_fr hrA hF5 hug hapA; have hr6 := own_fr hr5 hF6 hug hapA; have hap6 := apart_left hapA hr5 hF6.fresh; have hbz6 : w1.heap.size ≤ w6.heap.size := hN6.bel.size; have q0 : w6.cell? ⟨wr.heap.size, 0, none⟩ = some (.int .i64 (1 + (j : Int) % 3)) := hB6.at_ 0; have q1 : w6.cell? ⟨wr.heap.size, 1, none⟩ = some (.int .i64 (1 + ((j : Int) + 1) % 3)) := hB6.at_ 1; have q2 : w6.cell? ⟨wr.heap.size, 2, none⟩ = some (.string s) := hB6.at_ 2) | (at_builtin; have hb7 : Below w6.heap.size w6 (w6.alloc (Obj.cells #[.int .i64 (1 + (j : Int) % 3), .int .i64 (1 + ((j : Int) + 1) % 3), .string s] 41)) := (Below.refl _ _).alloc (Nat.le_refl _) _; have hr7 := own_below hr6 hb7; have hN7 := hN6.later hb7; have hB7 := Blk.born w6 41 (msgC (1 + (j : Int) % 3) (1 + ((j : Int) + 1) % 3) s); refine app_msg w1.heap.size rfl _ _ rfl _ (cnt ys j) (wants xs ys j) rfl hr7 (Nat.le_trans hbz6 hb7.size) ⟨w6.heap.size, 0, none⟩ 1 (1 + (j : Int) % 3) (1 + ((j : Int) + 1) % 3) s rfl (hB7.at_ 0) (hB7.at_ 1) (hB7.at_ 2) hk5 ?_; intro u2 w8 hown8 hgr8 hfr8))
          have hN8 := isnet_beside hN7 hr7 hgr8 hap6
          have hap8 := apart_right hap6 hN7.own hfr8
          rw [← hmc] at hN8 hown8
          have hS8 := st_open hN8 hown8 hap8 hcl rfl
          go_round
          case rel => exact ⟨j + 1, v6, _, by omega, by omega, by go_num, by simp only [cnt, hcl]; congr 2; simp, hS8⟩
          case measure => simp [intOf]; omega
      · have tm : (1000 : Int) < (s.size : Int) := by omega
        obtain ⟨t, hxt⟩ : ∃ t, s.extract 0 1000 = t := ⟨_, rfl⟩
        have hsT : cut1000 s = t := (if_neg hs).trans hxt
        rw [hsT] at hmc hT
        go_wp2_with fail
        go_region
        have hbA : Below wr.heap.size wr (wr.alloc (Obj.cells #[.int .i64 (1 + (j : Int) % 3), .int .i64 (1 + ((j : Int) + 1) % 3), .string t] 41)).drew := ((Below.refl _ _).alloc (Nat.le_refl _) _).drew
        have hbl : Blk (wr.alloc (Obj.cells #[.int .i64 (1 + (j : Int) % 3), .int .i64 (1 + ((j : Int) + 1) % 3), .string t] 41)).drew wr.heap.size 41 (msgC (1 + (j : Int) % 3) (1 + ((j : Int) + 1) % 3) t) := Blk.born wr 41 (msgC (1 + (j : Int) % 3) (1 + ((j : Int) + 1) % 3) t)
        have hnA := hS.net.later hbA
        have hcut := fun cc => cutL j w1 w1.heap.size v (cnt ys j) (wants xs ys j) 3 _ cut cc _ hnA (by decide)
        by_cases hcy : j < ys.length
        · obtain ⟨b2, o2, rfl, hc2⟩ := hy j hcy
          have hcl : isCut ys j = ys[j] := by
            unfold isCut
            rw [List.getD_eq_getElem?_getD, List.getElem?_eq_getElem hcy]
            rfl
          have hbw2 := World.block_lt_of_cell? w _ hc2
          have hcr3 : wr.cell? ⟨b2, o2 + j, none⟩ = some (.bool ys[j]) := (hww.cell (p := ⟨b2, o2 + j, none⟩) hbw2).trans hc2
          have hbr2 : b2 < wr.heap.size := World.block_lt_of_cell? wr _ hcr3
          have i3 : (j : Int) < (ys.length : Int) := by omega
          generalize ys[j] = cc at hcr3 hcl hc2
          have hne : wr.heap.size ≠ w1.heap.size := by omega
          have hvn : v.ownBlock ≠ some wr.heap.size := fun e => by have := (own_lt hS.net.own e).2; omega
          have hrA := own_below hS.row hbA
          have hapA := hS.apart
          have hug := own_ne hS.net.blk hS.row
          have hbz : w1.heap.size ≤ wr.heap.size := hS.net.bel.size
          have hsz := hnA.len
          have hd3 : (3 : Int) ≤ 3 := by decide
          have hset0 : ∀ cc : Bool, (cut.set (lineI j) (.bool cc))[lineI j]? = some (.bool cc) := fun cc => List.getElem?_set_self (by rw [hsz]; exact line_lt j)
          have hlk : cnt ys j < 2000 := by omega
          have hk5 : cnt ys j ≤ 100000 := by omega
          have hp0 : (0 : Int) ≤ ((j - cnt ys j : Nat) : Int) := by omega
          have hp1 : ((j - cnt ys j : Nat) : Int) ≤ 1000000 := by omega
          cases cc
          · have hset := hset0 false
            go_wp2_with (first | (go_at_call 12; refine (hcut _).mono ?_; rintro e w5 ⟨rfl, hN5, hF5⟩; have hB5 := blk_fr hbl hF5 hne hvn; have p0 : w5.cell? ⟨wr.heap.size, 0, none⟩ = some (.int .i64 (1 + (j : Int) % 3)) := hB5.at_ 0; have p1 : w5.cell? ⟨wr.heap.size, 1, none⟩ = some (.int .i64 (1 + ((j : Int) + 1) % 3)) := hB5.at_ 1; have p2 : w5.cell? ⟨wr.heap.size, 2, none⟩ = some (.string t) := hB5.at_ 2) | (go_at_call 13; refine (sendoL j w1 w1.heap.size v (cnt ys j) (wants xs ys j) 3 _ _ t w5 hN5 hd3 hset hlk hT).mono ?_; rintro e w6 ⟨rfl, v6, hN6, hF6⟩; have hB6 := blk_fr hB5 hF6 hne hvn; have hr5 := own_fr hrA hF5 hug hapA; have hr6 := own_fr hr5 hF6 hug hapA; have hap6 := apart_left hapA hr5 hF6.fresh; have hbz6 : w1.heap.size ≤ w6.heap.size := hN6.bel.size; have q0 : w6.cell? ⟨wr.heap.size, 0, none⟩ = some (.int .i64 (1 + (j : Int) % 3)) := hB6.at_ 0; have q1 : w6.cell? ⟨wr.heap.size, 1, none⟩ = some (.int .i64 (1 + ((j : Int) + 1) % 3)) := hB6.at_ 1; have q2 : w6.cell? ⟨wr.heap.size, 2, none⟩ = some (.string t) := hB6.at_ 2) | (at_builtin; have hb7 : Below w6.heap.size w6 (w6.alloc (Obj.cells #[.int .i64 (1 + (j : Int) % 3), .int .i64 (1 + ((j : Int) + 1) % 3), .string t] 41)) := (Below.refl _ _).alloc (Nat.le_refl _) _; have hr7 := own_below hr6 hb7; have hN7 := hN6.later hb7; have hB7 := Blk.born w6 41 (msgC (1 + (j : Int) % 3) (1 + ((j : Int) + 1) % 3) t); refine app_msg w1.heap.size rfl _ _ rfl _ (cnt ys j) (wants xs ys j) rfl hr7 (Nat.le_trans hbz6 hb7.size) ⟨w6.heap.size, 0, none⟩ 1 (1 + (j : Int) % 3) (1 + ((j : Int) + 1) % 3) t rfl (hB7.at_ 0) (hB7.at_ 1) (hB7.at_ 2) hk5 ?_; intro u2 w8 hown8 hgr8 hfr8))
            have hN8 := isnet_beside hN7 hr7 hgr8 hap6
            have hap8 := apart_right hap6 hN7.own hfr8
            rw [← hmc] at hN8 hown8
            have hS8 := st_open hN8 hown8 hap8 hcl rfl
            go_round
            case rel => exact ⟨j + 1, v6, _, by omega, by omega, by go_num, by simp only [cnt, hcl]; congr 2; simp, hS8⟩
            case measure => simp [intOf]; omega
          · have hset := hset0 true
            go_wp2_with (first | (go_at_call 12; refine (hcut _).mono ?_; rintro e w5 ⟨rfl, hN5, hF5⟩; have hB5 := blk_fr hbl hF5 hne hvn; have p0 : w5.cell? ⟨wr.heap.size, 0, none⟩ = some (.int .i64 (1 + (j : Int) % 3)) := hB5.at_ 0; have p1 : w5.cell? ⟨wr.heap.size, 1, none⟩ = some (.int .i64 (1 + ((j : Int) + 1) % 3)) := hB5.at_ 1; have p2 : w5.cell? ⟨wr.heap.size, 2, none⟩ = some (.string t) := hB5.at_ 2) | (go_at_call 13; refine (sendcL j w1 w1.heap.size v (cnt ys j) (wants xs ys j) 3 _ _ t w5 hN5 hd3 hset hT hp0 hp1).mono ?_; rintro e w6 ⟨rfl, hN6, hF6⟩; have hB6 := blk_fr hB5 hF6 hne hvn; have hr5 := own_fr hrA hF5 hug hapA; have hr6 := own_fr hr5 hF6 hug hapA; have hap6 := apart_left hapA hr5 hF6.fresh; have hbz6 : w1.heap.size ≤ w6.heap.size := hN6.bel.size; have q0 : w6.cell? ⟨wr.heap.size, 0, none⟩ = some (.int .i64 (1 + (j : Int) % 3)) := hB6.at_ 0; have q1 : w6.cell? ⟨wr.heap.size, 1, none⟩ = some (.int .i64 (1 + ((j : Int) + 1) % 3)) := hB6.at_ 1; have q2 : w6.cell? ⟨wr.heap.size, 2, none⟩ = some (.string t) := hB6.at_ 2))
            have hS8 := st_shut hN6 hr6 hap6 hcl (by omega)
            go_round
            case rel => exact ⟨j + 1, v, _, by omega, by omega, by go_num, by simp only [cnt, hcl]; congr 2; simp; omega, hS8⟩
            case measure => simp [intOf]; omega
        · have hcl : isCut ys j = false := by
            unfold isCut
            rw [List.getD_eq_getElem?_getD, List.getElem?_eq_none (by omega)]
            rfl
          have i3 : ¬ (j : Int) < (ys.length : Int) := by omega
          have hne : wr.heap.size ≠ w1.heap.size := by omega
          have hvn : v.ownBlock ≠ some wr.heap.size := fun e => by have := (own_lt hS.net.own e).2; omega
          have hrA := own_below hS.row hbA
          have hapA := hS.apart
          have hug := own_ne hS.net.blk hS.row
          have hbz : w1.heap.size ≤ wr.heap.size := hS.net.bel.size
          have hsz := hnA.len
          have hd3 : (3 : Int) ≤ 3 := by decide
          have hset0 : ∀ cc : Bool, (cut.set (lineI j) (.bool cc))[lineI j]? = some (.bool cc) := fun cc => List.getElem?_set_self (by rw [hsz]; exact line_lt j)
          have hlk : cnt ys j < 2000 := by omega
          have hk5 : cnt ys j ≤ 100000 := by omega
          have hp0 : (0 : Int) ≤ ((j - cnt ys j : Nat) : Int) := by omega
          have hp1 : ((j - cnt ys j : Nat) : Int) ≤ 1000000 := by omega
          have hset := hset0 false
          go_wp2_with (first | (go_at_call 12; refine (hcut _).mono ?_; rintro e w5 ⟨rfl, hN5, hF5⟩; have hB5 := blk_fr hbl hF5 hne hvn; have p0 : w5.cell? ⟨wr.heap.size, 0, none⟩ = some (.int .i64 (1 + (j : Int) % 3)) := hB5.at_ 0; have p1 : w5.cell? ⟨wr.heap.size, 1, none⟩ = some (.int .i64 (1 + ((j : Int) + 1) % 3)) := hB5.at_ 1; have p2 : w5.cell? ⟨wr.heap.size, 2, none⟩ = some (.string t) := hB5.at_ 2) | (go_at_call 13; refine (sendoL j w1 w1.heap.size v (cnt ys j) (wants xs ys j) 3 _ _ t w5 hN5 hd3 hset hlk hT).mono ?_; rintro e w6 ⟨rfl, v6, hN6, hF6⟩; have hB6 := blk_fr hB5 hF6 hne hvn; have hr5 := own_fr hrA hF5 hug hapA; have hr6 := own_fr hr5 hF6 hug hapA; have hap6 := apart_left hapA hr5 hF6.fresh; have hbz6 : w1.heap.size ≤ w6.heap.size := hN6.bel.size; have q0 : w6.cell? ⟨wr.heap.size, 0, none⟩ = some (.int .i64 (1 + (j : Int) % 3)) := hB6.at_ 0; have q1 : w6.cell? ⟨wr.heap.size, 1, none⟩ = some (.int .i64 (1 + ((j : Int) + 1) % 3)) := hB6.at_ 1; have q2 : w6.cell? ⟨wr.heap.size, 2, none⟩ = some (.string t) := hB6.at_ 2) | (at_builtin; have hb7 : Below w6.heap.size w6 (w6.alloc (Obj.cells #[.int .i64 (1 + (j : Int) % 3), .int .i64 (1 + ((j : Int) + 1) % 3), .string t] 41)) := (Below.refl _ _).alloc (Nat.le_refl _) _; have hr7 := own_below hr6 hb7; have hN7 := hN6.later hb7; have hB7 := Blk.born w6 41 (msgC (1 + (j : Int) % 3) (1 + ((j : Int) + 1) % 3) t); refine app_msg w1.heap.size rfl _ _ rfl _ (cnt ys j) (wants xs ys j) rfl hr7 (Nat.le_trans hbz6 hb7.size) ⟨w6.heap.size, 0, none⟩ 1 (1 + (j : Int) % 3) (1 + ((j : Int) + 1) % 3) t rfl (hB7.at_ 0) (hB7.at_ 1) (hB7.at_ 2) hk5 ?_; intro u2 w8 hown8 hgr8 hfr8))
          have hN8 := isnet_beside hN7 hr7 hgr8 hap6
          have hap8 := apart_right hap6 hN7.own hfr8
          rw [← hmc] at hN8 hown8
          have hS8 := st_open hN8 hown8 hap8 hcl rfl
          go_round
          case rel => exact ⟨j + 1, v6, _, by omega, by omega, by go_num, by simp only [cnt, hcl]; congr 2; simp, hS8⟩
          case measure => simp [intOf]; omega
    · obtain ⟨net, row, hap⟩ := hS
      have hX := msgs_wants xs ys j
      have hKle := cnt_le ys j
      generalize hL : ((j - cnt ys j : Nat) : Int) = L at net
      generalize cnt ys j = K at net row hX hKle
      generalize wants xs ys j = X at net row hX
      have g1 : ¬ ((j : Int) < (xs.length : Int) ∧ (j : Int) < 100) := by omega
      obtain ⟨A, cu, rfl⟩ := own_form row
      have g3 : (j : Int) < (xs.length : Int) → ¬ (j : Int) < 100 := by omega
      by_cases g2 : (j : Int) < (xs.length : Int)
      · have g4 := g3 g2
        clear g3
        go_wp2_with fail
        go_loopw [15] (fun i w3 => ∃ (q : Nat) (v3 : Value), q ≤ K ∧ i = .int .i64 q ∧ IsNet w1 w3 w1.heap.size v3 (K - q) (X.drop (q * 3)) 3 L cut ∧ w3.ownsRow w1.heap.size 41 3 (.slice A K cu) K X ∧ Apart v3 (.slice A K cu)) (fun i _ => K - (intOf i).toNat)
        case atStart => exact ⟨0, v, by omega, rfl, by simpa using net, row, hap⟩
        case round =>
          obtain ⟨q, v3, hq, rfl, net3, row3, ap3⟩ := hrel
          by_cases hqK : q < K
          · obtain ⟨x, y, s, e0, e1, e2⟩ := hX.2 q hqK
            have htk := take_left hX hqK net3 (by decide) e0 e1 e2
            have hbx : ∀ w4 : World, Below w4.heap.size w4 (w4.alloc (Obj.cells #[Value.int IntKind.i64 x, Value.int IntKind.i64 y, Value.string s] 41)) := fun w4 => (Below.refl _ _).alloc (Nat.le_refl _) _
            have hug := own_ne net3.blk row3
            go_wp2_with (go_at_call 14; refine htk.mono ?_; rintro e w4 ⟨rfl, v4, net4, fr4⟩; have row4 := own_below (own_fr row3 fr4 hug ap3) (hbx w4); have net5 := net4.later (hbx w4); have ap4 := apart_left ap3 row3 fr4.fresh)
            clear hbx hug htk
            obtain ⟨ga, capa, cura, hae, hga, hgc, hkc, hcm, hcs, hct⟩ : ∃ g' cap cur, Value.slice A K cu = .slice (some ⟨g', 0, none⟩) K cap ∧ w1.heap.size ≤ g' ∧ (w4.alloc (Obj.cells #[Value.int IntKind.i64 x, Value.int IntKind.i64 y, Value.string s] 41)).heap[g']? = some (.cells cur 41 (0, 0)) ∧ K ≤ cap ∧ cap ≤ maxLen ∧ cur.size = cap * 3 ∧ cur.toList.take (K * 3) = X := by
              rcases row4.2 with ⟨_, hk⟩ | hr
              · omega
              · exact hr
            injection hae with hae _ hce
            subst hae hce
            have hBa : Blk (w4.alloc (Obj.cells #[Value.int IntKind.i64 x, Value.int IntKind.i64 y, Value.string s] 41)) ga 41 cura.toList := by simpa [Blk] using hgc
            have hge : ∀ t u, t < K * 3 → X[t]? = some u → cura.toList[t]? = some u := by
              intro t u ht hu
              rw [← hct, List.getElem?_take, if_pos ht] at hu
              exact hu
            have a0 : (w4.alloc (Obj.cells #[Value.int IntKind.i64 x, Value.int IntKind.i64 y, Value.string s] 41)).cell? ⟨ga, q * 3, none⟩ = some (.int .i64 x) := by rw [hBa.at_]; exact hge _ _ (by omega) e0
            have a1 : (w4.alloc (Obj.cells #[Value.int IntKind.i64 x, Value.int IntKind.i64 y, Value.string s] 41)).cell? ⟨ga, q * 3 + 1, none⟩ = some (.int .i64 y) := by rw [hBa.at_]; exact hge _ _ (by omega) e1
            have a2 : (w4.alloc (Obj.cells #[Value.int IntKind.i64 x, Value.int IntKind.i64 y, Value.string s] 41)).cell? ⟨ga, q * 3 + 2, none⟩ = some (.string s) := by rw [hBa.at_]; exact hge _ _ (by omega) e2
            have q0 : (0 : Int) ≤ (q : Int) := by omega
            have q1 : (q : Int) < (K : Int) := by omega
            have HH := Lib.hid (And.intro row4 (And.intro net5 ap4))
            clear row4 net5 ap4 hge hct hBa hgc hcs net4 fr4
            go_quiet (fail)
            go_wp2_with fail
            go_roundw
            case rel =>
              obtain ⟨row4, net5, ap4⟩ := HH.out
              exact ⟨q + 1, v4, by omega, by go_num, net5.later ((Below.refl _ _).drewN' _), own_below row4 ((Below.refl _ _).drewN' _), ap4⟩
            case measure => simp [intOf]; omega
          · obtain rfl : q = K := by omega
            obtain ⟨A5, c5, rfl⟩ := own_form net3.own
            rw [Nat.sub_self] at net3
            have htn := take_no w1.heap.size c5 3 A5 wr (by rw [net3.blk.at_]; rfl) (by rw [net3.blk.at_]; rfl) (by decide)
            go_wp2_with (first | (go_at_call 14; refine htn.mono ?_; rintro e w4 ⟨rfl, hb4⟩; have hbx : Below w4.heap.size w4 (w4.alloc (Obj.cells #[Value.int IntKind.i64 0, Value.int IntKind.i64 0, Value.string ⟨#[]⟩] 41)) := (Below.refl _ _).alloc (Nat.le_refl _) _; have hN5 := net3.later (hb4.trans (hbx.mono hb4.size)); have hlo := isnet_lostn hN5 (by decide)) | (go_at_call 10; refine hlo.mono ?_; rintro e w5 ⟨rfl, rfl⟩))
            go_ret
            exact ⟨rfl, hb.trans (hN5.bel.mono hb.size)⟩
      · clear g3
        go_wp2_with fail
        go_loopw [15] (fun i w3 => ∃ (q : Nat) (v3 : Value), q ≤ K ∧ i = .int .i64 q ∧ IsNet w1 w3 w1.heap.size v3 (K - q) (X.drop (q * 3)) 3 L cut ∧ w3.ownsRow w1.heap.size 41 3 (.slice A K cu) K X ∧ Apart v3 (.slice A K cu)) (fun i _ => K - (intOf i).toNat)
        case atStart => exact ⟨0, v, by omega, rfl, by simpa using net, row, hap⟩
        case round =>
          obtain ⟨q, v3, hq, rfl, net3, row3, ap3⟩ := hrel
          by_cases hqK : q < K
          · obtain ⟨x, y, s, e0, e1, e2⟩ := hX.2 q hqK
            have htk := take_left hX hqK net3 (by decide) e0 e1 e2
            have hbx : ∀ w4 : World, Below w4.heap.size w4 (w4.alloc (Obj.cells #[Value.int IntKind.i64 x, Value.int IntKind.i64 y, Value.string s] 41)) := fun w4 => (Below.refl _ _).alloc (Nat.le_refl _) _
            have hug := own_ne net3.blk row3
            go_wp2_with (go_at_call 14; refine htk.mono ?_; rintro e w4 ⟨rfl, v4, net4, fr4⟩; have row4 := own_below (own_fr row3 fr4 hug ap3) (hbx w4); have net5 := net4.later (hbx w4); have ap4 := apart_left ap3 row3 fr4.fresh)
            clear hbx hug htk
            obtain ⟨ga, capa, cura, hae, hga, hgc, hkc, hcm, hcs, hct⟩ : ∃ g' cap cur, Value.slice A K cu = .slice (some ⟨g', 0, none⟩) K cap ∧ w1.heap.size ≤ g' ∧ (w4.alloc (Obj.cells #[Value.int IntKind.i64 x, Value.int IntKind.i64 y, Value.string s] 41)).heap[g']? = some (.cells cur 41 (0, 0)) ∧ K ≤ cap ∧ cap ≤ maxLen ∧ cur.size = cap * 3 ∧ cur.toList.take (K * 3) = X := by
              rcases row4.2 with ⟨_, hk⟩ | hr
              · omega
              · exact hr
            injection hae with hae _ hce
            subst hae hce
            have hBa : Blk (w4.alloc (Obj.cells #[Value.int IntKind.i64 x, Value.int IntKind.i64 y, Value.string s] 41)) ga 41 cura.toList := by simpa [Blk] using hgc
            have hge : ∀ t u, t < K * 3 → X[t]? = some u → cura.toList[t]? = some u := by
              intro t u ht hu
              rw [← hct, List.getElem?_take, if_pos ht] at hu
              exact hu
            have a0 : (w4.alloc (Obj.cells #[Value.int IntKind.i64 x, Value.int IntKind.i64 y, Value.string s] 41)).cell? ⟨ga, q * 3, none⟩ = some (.int .i64 x) := by rw [hBa.at_]; exact hge _ _ (by omega) e0
            have a1 : (w4.alloc (Obj.cells #[Value.int IntKind.i64 x, Value.int IntKind.i64 y, Value.string s] 41)).cell? ⟨ga, q * 3 + 1, none⟩ = some (.int .i64 y) := by rw [hBa.at_]; exact hge _ _ (by omega) e1
            have a2 : (w4.alloc (Obj.cells #[Value.int IntKind.i64 x, Value.int IntKind.i64 y, Value.string s] 41)).cell? ⟨ga, q * 3 + 2, none⟩ = some (.string s) := by rw [hBa.at_]; exact hge _ _ (by omega) e2
            have q0 : (0 : Int) ≤ (q : Int) := by omega
            have q1 : (q : Int) < (K : Int) := by omega
            have HH := Lib.hid (And.intro row4 (And.intro net5 ap4))
            clear row4 net5 ap4 hge hct hBa hgc hcs net4 fr4
            go_quiet (fail)
            go_wp2_with fail
            go_roundw
            case rel =>
              obtain ⟨row4, net5, ap4⟩ := HH.out
              exact ⟨q + 1, v4, by omega, by go_num, net5.later ((Below.refl _ _).drewN' _), own_below row4 ((Below.refl _ _).drewN' _), ap4⟩
            case measure => simp [intOf]; omega
          · obtain rfl : q = K := by omega
            obtain ⟨A5, c5, rfl⟩ := own_form net3.own
            rw [Nat.sub_self] at net3
            have htn := take_no w1.heap.size c5 3 A5 wr (by rw [net3.blk.at_]; rfl) (by rw [net3.blk.at_]; rfl) (by decide)
            go_wp2_with (first | (go_at_call 14; refine htn.mono ?_; rintro e w4 ⟨rfl, hb4⟩; have hbx : Below w4.heap.size w4 (w4.alloc (Obj.cells #[Value.int IntKind.i64 0, Value.int IntKind.i64 0, Value.string ⟨#[]⟩] 41)) := (Below.refl _ _).alloc (Nat.le_refl _) _; have hN5 := net3.later (hb4.trans (hbx.mono hb4.size)); have hlo := isnet_lostn hN5 (by decide)) | (go_at_call 10; refine hlo.mono ?_; rintro e w5 ⟨rfl, rfl⟩))
            go_ret
            exact ⟨rfl, hb.trans (hN5.bel.mono hb.size)⟩
end Go.Proofs.Ytplfigikjlfmjaa
