/- Package find: New, unhang. slices.Backward over the joins. Package find: Undo. Package find: the contracts, over one state. The document's Eval. Package decide: pairs in memory: slices.Contains, addPairs. Package decide: newStep. -/
import Derived.Test.YtlehlgipbhfioaaGreatP01
import Derived.RangeFuncNested
import Derived.RangeFuncBound
import Derived.RangeFuncCalls
import Derived.RangeFuncLeaves
import Derived.Shelf.Abstract
import Derived.Shelf.RegionOpen
import Derived.OwnWalkIn
import Derived.TacticsInMore
import Derived.LoopNIn
import Derived.LoopIn
import Derived.Test.YtlehlgipbhfioaaGreatP00
import Derived.WalkKit
import Derived.WalkSpells
import Derived.WalkLawsBesides
import Derived.Deep.OwnRows
import Derived.Deep.LoopGhost
import Derived.Deep.QuietTactic
import Derived.BigRegion
import Derived.BigQuiet
import Derived.Deep.RegionWith
import Derived.Below
import Derived.Test.YtlehlgipbhfioaaGreatP02
import Derived.Shelf.SlicesQ.Contains
import Derived.Laws.StructEq
import Derived.Maps.AppendAt
import Derived.Laws.CopyRow
import Derived.Laws.IdiomCopy
import Derived.Deep.WholeRow
namespace Go.Proofs.YtlehlgipbhfioaaGreat
open Go.RowKit

set_option maxHeartbeats 400000 in
theorem New_no (w : World) (n : Int) (h : n < 0 ∨ 100000 < n) :
    Calls Tryz.prog 32 #[.int .i64 n] w fun e w' => e = .returned (.pointer none) ∧ w = w' := by
  rcases h with h | h
  · go_enter Tryz.func32, Tryz.ntmps32
    go_wp2
    go_ret
    exact ⟨rfl, rfl⟩
  · have h' : ¬ n < 0 := by omega
    go_enter Tryz.func32, Tryz.ntmps32
    go_wp2
    go_ret
    exact ⟨rfl, rfl⟩

theorem infoNode : (Tryz.prog.info? 150).map (fun i => (i.zero, i.size, i.bytes)) = some (some (.agg #[.int .i64 0, .int .i64 0, .int .i64 0, .int .i64 0]), 4, 32) := by kernel_rfl

theorem made_row (w : World) (C : Array Value) (t : TypeId) : (w.alloc (.cells C t)).rowIs w.heap.size t C.size (fun i => C[i]?.getD undef) :=
  World.rowIs_alloc w C t _ (fun i hi => by rw [Array.getElem?_eq_getElem hi]; rfl)

theorem box_row (w : World) (x y : Value) (t : TypeId) : (w.alloc (.cells #[x, y] t)).rowIs w.heap.size t 2 (fun j => if j = 0 then x else y) :=
  (made_row w #[x, y] t).congr fun i hi => match i, hi with
    | 0, _ => rfl
    | 1, _ => rfl

theorem new_cells (k : Nat) (f : Nat → Value) (hf : ∀ j, j < k * 4 → f j = nodeC Uf.g0 j) : ∀ j, j < (k + 1) * 4 →
    (if j = k * 4 + 3 then Value.int .i64 (k : Int) else if j = k * 4 + 2 then .int .i64 1 else if j = k * 4 + 1 then .int .i64 (k : Int) else if j = k * 4 then .int .i64 (k : Int) else f j) = nodeC Uf.g0 j := by
  intro j hj
  by_cases h3 : j = k * 4 + 3
  · rw [if_pos h3, h3, nodeC_lst]; rfl
  · by_cases h2 : j = k * 4 + 2
    · rw [if_neg h3, if_pos h2, h2, nodeC_siz]; rfl
    · by_cases h1 : j = k * 4 + 1
      · rw [if_neg h3, if_neg h2, if_pos h1, h1, nodeC_nxt]; rfl
      · by_cases h0 : j = k * 4
        · rw [if_neg h3, if_neg h2, if_neg h1, if_pos h0, h0, nodeC_par]; rfl
        · rw [if_neg h3, if_neg h2, if_neg h1, if_neg h0]; exact hf j (by omega)

set_option maxHeartbeats 400000 in
theorem New_in (w : World) (n : Nat) (hn : n ≤ 100000) :
    Calls Tryz.prog 32 #[.int .i64 n] w fun e w' => e = .returned (.pointer (some ⟨w.heap.size + 1, 0, none⟩)) ∧ Lies w' w.heap.size (w.heap.size + 1) w.heap.size n Uf.g0 (.slice none 0 0) [] ∧ Below w.heap.size w w' := by
  obtain ⟨i0, hi0, hz0, hz1, hz2⟩ := info_parts infoNode
  obtain ⟨C, hC, hm1⟩ : ∃ C : Array Value, C.size = n * 4 ∧ (Instr.makeSlice 145 (.int .i64 (n : Int)) (.int .i64 (n : Int))).run Tryz.prog w = .ok (.slice (some ⟨w.heap.size, 0, none⟩) n n) (w.alloc (.cells C 150)) := by
    have hmk := run_make (P := Tryz.prog) w 145 150 i0 _ Tryz.underlying145 hi0 hz0 .i64 .i64 (n : Int) (n : Int) (by omega) (Int.le_refl _) (by rw [hz2]; omega) (by omega)
    simp only [Int.toNat_natCast] at hmk
    exact ⟨_, by rw [size_madeCells, hz1], hmk⟩
  clear hi0 hz0 hz1 hz2 
  have h0 : ¬ (n : Int) < 0 := by omega
  have h1 : ¬ (100000 : Int) < (n : Int) := by omega
  have HC : Hid (C.size = n * 4) := hC
  clear hC
  go_enter Tryz.func32, Tryz.ntmps32
  go_wp2
  clear hm1 h0 h1
  go_loopw [20] (fun t wr => ∃ k : Nat, k ≤ n ∧ t = .int .i64 k ∧ (∃ f, wr.rowIs w.heap.size 150 (n * 4) f ∧ Hid (∀ j, j < k * 4 → f j = nodeC Uf.g0 j)) ∧ wr.rowIs (w.heap.size + 1) 148 2 (setsC w.heap.size n (.slice none 0 0)) ∧ Hid (Below w.heap.size w wr)) (fun t _ => n - (intOf t).toNat)
  case atStart =>
    refine ⟨0, Nat.zero_le _, rfl, ⟨(fun i => C[i]?.getD undef), ?_, (fun j hj => absurd hj (by omega))⟩, ?_, ?_⟩
    · have := made_row w C 150
      rw [HC.out] at this
      exact this.alloc _
    · have := made_row (w.alloc (.cells C 150)) #[.slice (some ⟨w.heap.size, 0, none⟩) n n, .slice none 0 0] 148
      rw [World.size_alloc] at this
      refine this.congr ?_
      intro i hi
      match i, hi with
      | 0, _ => rfl
      | 1, _ => rfl
    · exact ((Below.refl _ _).alloc (Nat.le_refl _) _).alloc (by simp) _
  case round =>
    obtain ⟨k, hk, rfl, ⟨f, hf, hfk⟩, hs, hB⟩ := hrel
    have c0 : wr.cell? ⟨w.heap.size + 1, 0, none⟩ = some (.slice (some ⟨w.heap.size, 0, none⟩) n n) := hs.cell (by omega)
    have hHf : Hid (wr.rowIs w.heap.size 150 (n * 4) f) := hf
    by_cases hlt : k < n
    · have x0 : wr.cell? ⟨w.heap.size, k * 4, none⟩ = some (f (k * 4)) := hf.cell (by omega)
      have x1 : wr.cell? ⟨w.heap.size, k * 4 + 1, none⟩ = some (f (k * 4 + 1)) := hf.cell (by omega)
      have x2 : wr.cell? ⟨w.heap.size, k * 4 + 2, none⟩ = some (f (k * 4 + 2)) := hf.cell (by omega)
      have x3 : wr.cell? ⟨w.heap.size, k * 4 + 3, none⟩ = some (f (k * 4 + 3)) := hf.cell (by omega)
      have y0 := hf.frozen (k * 4)
      have y1 := hf.frozen (k * 4 + 1)
      have y2 := hf.frozen (k * 4 + 2)
      have y3 := hf.frozen (k * 4 + 3)
      have Hs : Hid (wr.rowIs (w.heap.size + 1) 148 2 (setsC w.heap.size n (.slice none 0 0))) := hs
      clear hf hs
      go_wp2
      go_roundw
      case rel =>
        exact ⟨k + 1, by omega, by go_num, ⟨_, (((hHf.out.set _ _).set _ _).set _ _).set _ _, new_cells k f hfk.out⟩, (((Hs.out.setOther (by show _ ≠ w.heap.size; omega) _).setOther (by show _ ≠ w.heap.size; omega) _).setOther (by show _ ≠ w.heap.size; omega) _).setOther (by show _ ≠ w.heap.size; omega) _, (((hB.out.setCell (Nat.le_refl _) _).setCell (Nat.le_refl _) _).setCell (Nat.le_refl _) _).setCell (Nat.le_refl _) _⟩
      case measure => simp [intOf]; omega
    · clear hf
      go_wp2
      go_ret
      obtain rfl : k = n := by omega
      exact ⟨rfl, ⟨hs, hHf.out.congr hfk.out, World.ownsRow_nil _ _ _ _, by omega, by simp [Value.ownBlock], by simp [Value.ownBlock], by omega, Nat.le_refl _, hn⟩, hB.out⟩

theorem Lies.alloc {w : World} {base p nb n : Nat} {g : Uf.G} {jv : Value} {js : List (Nat × Nat)} (h : Lies w base p nb n g jv js) (O : Obj) : Lies (w.alloc O) base p nb n g jv js :=
  ⟨h.sets.alloc O, h.nodes.alloc O, h.joins.alloc O, h.ne, h.jp, h.jn, h.bp, h.bn, h.small⟩

/-- Nodes whose cells are just integers. -/
def intC (F : Nat → Int) (j : Nat) : Value := .int .i64 (F j)

def cutF (F : Nat → Int) (c r : Nat) (l : Int) (j : Nat) : Int :=
  if j = r * 4 + 3 then l else if j = r * 4 + 2 then wrap64 (F (r * 4 + 2) - F (c * 4 + 2)) else if j = r * 4 + 1 then F (c * 4 + 1) else if j = c * 4 + 1 then F (r * 4 + 1) else if j = c * 4 then (c : Int) else F j

set_option maxHeartbeats 1000000 in
theorem unhang_gen (w : World) (p nb n : Nat) (F : Nat → Int) (c0 : w.cell? ⟨p, 0, none⟩ = some (.slice (some ⟨nb, 0, none⟩) n n)) (hN : w.rowIs nb 150 (n * 4) (intC F)) (_hn : n ≤ 100000) (c r : Nat) (hc : c < n) (hr : r < n) (hne : c ≠ r) (hF : F (c * 4) = (r : Int)) (l : Int) :
    Calls Tryz.prog 115 #[.pointer (some ⟨p, 0, none⟩), .agg #[.int .i64 c, .int .i64 l]] w fun e w' => e = .returned (.tuple #[]) ∧ w'.rowIs nb 150 (n * 4) (intC (cutF F c r l)) ∧ Kept1 nb w w' := by
  have plt := World.block_lt_of_cell? _ _ c0
  simp only at plt
  have nlt := hN.lt
  have x0 : w.cell? ⟨nb, c * 4, none⟩ = some (.int .i64 (r : Int)) := by rw [← hF]; exact hN.cell (by omega)
  have x1 : w.cell? ⟨nb, c * 4 + 1, none⟩ = some (.int .i64 (F (c * 4 + 1))) := hN.cell (by omega)
  have y1 : w.cell? ⟨nb, r * 4 + 1, none⟩ = some (.int .i64 (F (r * 4 + 1))) := hN.cell (by omega)
  have fx0 := hN.frozen (c * 4)
  have fx1 := hN.frozen (c * 4 + 1)
  have fy1 := hN.frozen (r * 4 + 1)
  have e1 : ¬ (c * 4 = r * 4 + 1) := by omega
  have e2 : ¬ (c * 4 + 1 = r * 4 + 1) := by omega
  have e3 : ¬ (c = r) := hne
  have HF : Hid (F (c * 4) = (r : Int)) := hF
  have HN : Hid (w.rowIs nb 150 (n * 4) (intC F)) := hN
  clear hF hN
  obtain ⟨cx, hcx⟩ : ∃ z, F (c * 4 + 1) = z := ⟨_, rfl⟩
  obtain ⟨rx, hrx⟩ : ∃ z, F (r * 4 + 1) = z := ⟨_, rfl⟩
  rw [hcx] at x1
  rw [hrx] at y1
  have HX : Hid (F (c * 4 + 1) = cx ∧ F (r * 4 + 1) = rx) := ⟨hcx, hrx⟩
  clear hcx hrx
  go_enter Tryz.func115, Tryz.ntmps115
  go_wp2_with fail
  go_quiet (fail)
  generalize nq = nq1
  go_wp2_with fail
  go_quiet (fail)
  go_wp2_with fail
  go_region
  have h' := HN.out.alloc (.cells #[.int .i64 (c : Int), .int .i64 l] 220)
  have hbox := box_row w (.int .i64 (c : Int)) (.int .i64 l) 220
  have K0 : Kept1 nb w (w.alloc (.cells #[.int .i64 (c : Int), .int .i64 l] 220)) := (Kept.refl _ w).alloc _
  have hbn : w.heap.size ≠ nb := by omega
  generalize (w.alloc (.cells #[.int .i64 (c : Int), .int .i64 l] 220)) = w0 at *
  generalize hw1 : (((w0.drewN (nq1 + nq + 1)).setCell ⟨nb, c * 4, none⟩ (.int .i64 (c : Int))).setCell ⟨nb, c * 4 + 1, none⟩ (.int .i64 rx)).setCell ⟨nb, r * 4 + 1, none⟩ (.int .i64 cx) = w1
  have R1 : w1.rowIs nb 150 (n * 4) (fun j => if j = r * 4 + 1 then .int .i64 cx else if j = c * 4 + 1 then .int .i64 rx else if j = c * 4 then .int .i64 (c : Int) else intC F j) := by
    rw [← hw1]; exact ((World.rowIs.set (w := w0.drewN (nq1 + nq + 1)) h' _ _).set _ _).set _ _
  have K1 : Kept1 nb w w1 := by
    rw [← hw1]; exact Kept1.set (Kept1.set (Kept1.set (K0.drewN _) _ _) _ _) _ _
  have B1 : w1.rowIs w.heap.size 220 2 (fun j => if j = 0 then .int .i64 (c : Int) else .int .i64 l) := by
    rw [← hw1]; exact ((World.rowIs.setOther (w := w0.drewN (nq1 + nq + 1)) hbox hbn _).setOther hbn _).setOther hbn _
  obtain ⟨cs, hcs⟩ : ∃ z, F (c * 4 + 2) = z := ⟨_, rfl⟩
  obtain ⟨rs, hrs⟩ : ∃ z, F (r * 4 + 2) = z := ⟨_, rfl⟩
  have x2 : w1.cell? ⟨nb, c * 4 + 2, none⟩ = some (.int .i64 cs) := by
    rw [R1.cell (i := c * 4 + 2) (by omega), if_neg (by omega), if_neg (by omega), if_neg (by omega), intC, hcs]
  have y2 : w1.cell? ⟨nb, r * 4 + 2, none⟩ = some (.int .i64 rs) := by
    rw [R1.cell (i := r * 4 + 2) (by omega), if_neg (by omega), if_neg (by omega), if_neg (by omega), intC, hrs]
  have HS : Hid (F (c * 4 + 2) = cs ∧ F (r * 4 + 2) = rs) := ⟨hcs, hrs⟩
  have fy2 := R1.frozen (r * 4 + 2)
  clear x0 x1 y1 fx0 fx1 fy1 hw1 e1 e2 c0 hbox h' K0 hcs hrs HN
  go_wp2_with fail
  go_region
  generalize hw2 : (w1.setCell ⟨nb, r * 4 + 2, none⟩ (.int .i64 (wrap64 (rs - cs)))).drew = w2
  have R2 := (R1.set (r * 4 + 2) (.int .i64 (wrap64 (rs - cs)))).drew
  have K2 := (Kept1.set K1 (r * 4 + 2) (.int .i64 (wrap64 (rs - cs)))).drew
  have B2 := (B1.setOther (a := ⟨nb, r * 4 + 2, none⟩) hbn (.int .i64 (wrap64 (rs - cs)))).drew
  rw [hw2] at R2 K2 B2
  have bl : w2.cell? ⟨w.heap.size, 1, none⟩ = some (.int .i64 l) := B2.cell (i := 1) (by omega)
  have y3 : w2.cell? ⟨nb, r * 4 + 3, none⟩ = some (.int .i64 (F (r * 4 + 3))) := by
    rw [R2.cell (i := r * 4 + 3) (by omega), if_neg (by omega), if_neg (by omega), if_neg (by omega), if_neg (by omega)]; rfl
  have fy3 := R2.frozen (r * 4 + 3)
  clear x2 y2 fy2 hw2 K1 R1 B1 B2
  go_wp2
  have R3 := R2.set (r * 4 + 3) (.int .i64 l)
  have K3 := Kept1.set K2 (r * 4 + 3) (.int .i64 l)
  go_end0
  refine ⟨rfl, R3.congr fun j _ => ?_, K3⟩
  unfold intC cutF
  rw [HX.out.1, HX.out.2, HS.out.1, HS.out.2]
  repeat' split
  all_goals rfl

set_option maxHeartbeats 1000000 in
theorem unhang_self (w : World) (p nb n : Nat) (F : Nat → Int) (c0 : w.cell? ⟨p, 0, none⟩ = some (.slice (some ⟨nb, 0, none⟩) n n)) (hN : w.rowIs nb 150 (n * 4) (intC F)) (_hn : n ≤ 100000) (c : Nat) (hc : c < n) (hF : F (c * 4) = (c : Int)) (l : Int) :
    Calls Tryz.prog 115 #[.pointer (some ⟨p, 0, none⟩), .agg #[.int .i64 c, .int .i64 l]] w fun e w' => e = .returned (.tuple #[]) ∧ (∃ F' : Nat → Int, w'.rowIs nb 150 (n * 4) (intC F') ∧ ∀ i, F' (i * 4) = F (i * 4)) ∧ Kept1 nb w w' := by
  have plt := World.block_lt_of_cell? _ _ c0
  simp only at plt
  have nlt := hN.lt
  have x0 : w.cell? ⟨nb, c * 4, none⟩ = some (.int .i64 (c : Int)) := by rw [← hF]; exact hN.cell (by omega)
  have x1 : w.cell? ⟨nb, c * 4 + 1, none⟩ = some (.int .i64 (F (c * 4 + 1))) := hN.cell (by omega)
  have fx0 := hN.frozen (c * 4)
  have fx1 := hN.frozen (c * 4 + 1)
  have e1 : ¬ (c * 4 = c * 4 + 1) := by omega
  have HF : Hid (F (c * 4) = (c : Int)) := hF
  have HN : Hid (w.rowIs nb 150 (n * 4) (intC F)) := hN
  clear hF hN
  obtain ⟨cx, hcx⟩ : ∃ z, F (c * 4 + 1) = z := ⟨_, rfl⟩
  rw [hcx] at x1
  have HX : Hid (F (c * 4 + 1) = cx) := hcx
  clear hcx
  go_enter Tryz.func115, Tryz.ntmps115
  go_wp2_with fail
  go_quiet (fail)
  generalize nq = nq1
  go_wp2_with fail
  go_quiet (fail)
  go_wp2_with fail
  go_region
  have h' := HN.out.alloc (.cells #[.int .i64 (c : Int), .int .i64 l] 220)
  have hbox := box_row w (.int .i64 (c : Int)) (.int .i64 l) 220
  have K0 : Kept1 nb w (w.alloc (.cells #[.int .i64 (c : Int), .int .i64 l] 220)) := (Kept.refl _ w).alloc _
  have hbn : w.heap.size ≠ nb := by omega
  generalize (w.alloc (.cells #[.int .i64 (c : Int), .int .i64 l] 220)) = w0 at *
  generalize hw1 : (((w0.drewN (nq1 + nq + 1)).setCell ⟨nb, c * 4, none⟩ (.int .i64 (c : Int))).setCell ⟨nb, c * 4 + 1, none⟩ (.int .i64 cx)).setCell ⟨nb, c * 4 + 1, none⟩ (.int .i64 cx) = w1
  have R1 : w1.rowIs nb 150 (n * 4) (fun j => if j = c * 4 + 1 then .int .i64 cx else if j = c * 4 + 1 then .int .i64 cx else if j = c * 4 then .int .i64 (c : Int) else intC F j) := by
    rw [← hw1]; exact ((World.rowIs.set (w := w0.drewN (nq1 + nq + 1)) h' _ _).set _ _).set _ _
  have K1 : Kept1 nb w w1 := by
    rw [← hw1]; exact Kept1.set (Kept1.set (Kept1.set (K0.drewN _) _ _) _ _) _ _
  have B1 : w1.rowIs w.heap.size 220 2 (fun j => if j = 0 then .int .i64 (c : Int) else .int .i64 l) := by
    rw [← hw1]; exact ((World.rowIs.setOther (w := w0.drewN (nq1 + nq + 1)) hbox hbn _).setOther hbn _).setOther hbn _
  have x2 : w1.cell? ⟨nb, c * 4 + 2, none⟩ = some (.int .i64 (F (c * 4 + 2))) := by
    rw [R1.cell (i := c * 4 + 2) (by omega), if_neg (by omega), if_neg (by omega), if_neg (by omega), intC]
  have fy2 := R1.frozen (c * 4 + 2)
  clear x0 x1 fx0 fx1 hw1 e1 c0 hbox h' K0 HN
  go_wp2_with fail
  go_region
  generalize hw2 : (w1.setCell ⟨nb, c * 4 + 2, none⟩ (.int .i64 0)).drew = w2
  have R2 := (R1.set (c * 4 + 2) (.int .i64 0)).drew
  have K2 := (Kept1.set K1 (c * 4 + 2) (.int .i64 0)).drew
  have B2 := (B1.setOther (a := ⟨nb, c * 4 + 2, none⟩) hbn (.int .i64 0)).drew
  rw [hw2] at R2 K2 B2
  have bl : w2.cell? ⟨w.heap.size, 1, none⟩ = some (.int .i64 l) := B2.cell (i := 1) (by omega)
  have y3 : w2.cell? ⟨nb, c * 4 + 3, none⟩ = some (.int .i64 (F (c * 4 + 3))) := by
    rw [R2.cell (i := c * 4 + 3) (by omega), if_neg (by omega), if_neg (by omega), if_neg (by omega), if_neg (by omega)]; rfl
  have fy3 := R2.frozen (c * 4 + 3)
  clear x2 fy2 hw2 K1 R1 B1 B2
  go_wp2
  have R3 := R2.set (c * 4 + 3) (.int .i64 l)
  have K3 := Kept1.set K2 (c * 4 + 3) (.int .i64 l)
  go_end0
  refine ⟨rfl, ⟨fun j => if j = c * 4 + 3 then l else if j = c * 4 + 2 then 0 else if j = c * 4 + 1 then cx else if j = c * 4 + 1 then cx else if j = c * 4 then (c : Int) else F j, R3.congr fun j _ => ?_, fun i => ?_⟩, K3⟩
  · unfold intC
    dsimp only
    repeat' split
    all_goals rfl
  · dsimp only
    by_cases e : i = c
    · subst e; simp only [if_neg (show ¬ i * 4 = i * 4 + 3 by omega), if_neg (show ¬ i * 4 = i * 4 + 2 by omega), if_neg (show ¬ i * 4 = i * 4 + 1 by omega), if_true]; exact HF.out.symm
    · rw [if_neg (by omega), if_neg (by omega), if_neg (by omega), if_neg (by omega), if_neg (by omega)]

theorem unhang_cells (g : Uf.G) (c r : Nat) (hne : c ≠ r) (hc : (g.N c).par = c) (j : Nat) :
    (if j = r * 4 + 3 then .int .i64 ((g.N r).lst : Int) else if j = r * 4 + 2 then .int .i64 ((g.N r).siz : Int) else if j = r * 4 + 1 then .int .i64 ((g.N r).nxt : Int) else if j = c * 4 + 1 then .int .i64 ((g.N c).nxt : Int) else if j = c * 4 then .int .i64 (c : Int) else nodeC (Uf.hang g c r) j) = nodeC g j := by
  rw [← hang_cells g c r hne j]
  by_cases h1 : j = r * 4 + 3
  · rw [if_pos h1, h1, nodeC_lst]
  · by_cases h2 : j = r * 4 + 2
    · rw [if_neg h1, if_pos h2, h2, nodeC_siz]
    · by_cases h3 : j = r * 4 + 1
      · rw [if_neg h1, if_neg h2, if_pos h3, h3, nodeC_nxt]
      · by_cases h4 : j = c * 4 + 1
        · rw [if_neg h1, if_neg h2, if_neg h3, if_pos h4, h4, nodeC_nxt]
        · by_cases h5 : j = c * 4
          · rw [if_neg h1, if_neg h2, if_neg h3, if_neg h4, if_pos h5, h5, nodeC_par, hc]
          · rw [if_neg h1, if_neg h2, if_neg h3, if_neg h4, if_neg h5, if_neg h1, if_neg h2, if_neg h3, if_neg h4, if_neg h5]

theorem wrap64_small (a : Int) (h0 : -1000000 ≤ a) (h1 : a ≤ 1000000) : wrap64 a = a := by unfold wrap64; omega

/-- What a take-back makes of the nodes, whatever they are; and of a join's. -/
structure Cut (n : Nat) (F F' : Nat → Int) (c : Nat) (l : Int) : Prop where
  par : ∀ i, i < n → ∃ q : Nat, q < n ∧ F' (i * 4) = (q : Int)
  good : ∀ (g : Uf.G) (r : Nat), c ≠ r → r < n → (g.N c).par = c → l = ((g.N r).lst : Int) → (g.N r).siz + (g.N c).siz ≤ 100000 → (∀ j, j < n * 4 → intC F j = nodeC (Uf.hang g c r) j) → ∀ j, j < n * 4 → intC F' j = nodeC g j

theorem unhang_any (w : World) (p nb n : Nat) (F : Nat → Int) (c0 : w.cell? ⟨p, 0, none⟩ = some (.slice (some ⟨nb, 0, none⟩) n n)) (hN : w.rowIs nb 150 (n * 4) (intC F)) (hn : n ≤ 100000) (hpar : ∀ i, i < n → ∃ q : Nat, q < n ∧ F (i * 4) = (q : Int)) (c : Nat) (hc : c < n) (l : Int) :
    Calls Tryz.prog 115 #[.pointer (some ⟨p, 0, none⟩), .agg #[.int .i64 c, .int .i64 l]] w fun e w' => e = .returned (.tuple #[]) ∧ (∃ F', w'.rowIs nb 150 (n * 4) (intC F') ∧ Cut n F F' c l) ∧ Kept1 nb w w' := by
  obtain ⟨q, hq, hFq⟩ := hpar c hc
  by_cases e : c = q
  · subst e
    refine (unhang_self w p nb n F c0 hN hn c hc hFq l).mono ?_
    rintro e w' ⟨he, ⟨F', h1, h2⟩, hk⟩
    refine ⟨he, ⟨F', h1, ⟨fun i hi => by rw [h2]; exact hpar i hi, ?_⟩⟩, hk⟩
    intro g r hne hr hcc hl hsz hall
    have := hall (c * 4) (by omega)
    rw [nodeC_par] at this
    simp [intC, hFq, Uf.hang] at this
    omega
  · refine (unhang_gen w p nb n F c0 hN hn c q hc hq e hFq l).mono ?_
    rintro e' w' ⟨he, h1, hk⟩
    refine ⟨he, ⟨_, h1, ⟨?_, ?_⟩⟩, hk⟩
    · intro i hi
      by_cases ei : i = c
      · subst ei
        refine ⟨i, hi, ?_⟩
        unfold cutF
        rw [if_neg (by omega), if_neg (by omega), if_neg (by omega), if_neg (by omega), if_pos rfl]
      · unfold cutF
        rw [if_neg (by omega), if_neg (by omega), if_neg (by omega), if_neg (by omega), if_neg (by omega)]
        exact hpar i hi
    · intro g r hne hr hcc hl hsz hall j hj
      have e0 := hall (c * 4) (by omega)
      rw [nodeC_par] at e0
      simp [intC, hFq, Uf.hang] at e0
      obtain rfl : q = r := by omega
      have e1 := hall (c * 4 + 1) (by omega)
      rw [nodeC_nxt] at e1
      have e2 := hall (c * 4 + 2) (by omega)
      rw [nodeC_siz] at e2
      have f1 := hall (q * 4 + 1) (by omega)
      rw [nodeC_nxt] at f1
      have f2 := hall (q * 4 + 2) (by omega)
      rw [nodeC_siz] at f2
      simp [intC, Uf.hang] at e1 e2
      simp [intC, Uf.hang, Ne.symm hne] at f1 f2
      rw [← unhang_cells g c q hne hcc j, ← hall j hj]
      unfold intC cutF
      rw [e1, e2, f1, f2, hl, wrap64_small _ (by omega) (by omega)]
      rw [show ((g.N q).siz + (g.N c).siz : Int) - ((g.N c).siz : Int) = ((g.N q).siz : Int) from by omega]
      repeat' split
      all_goals rfl

end Go.Proofs.YtlehlgipbhfioaaGreat

namespace Go.Proofs.YtlehlgipbhfioaaGreat
open Go.RowKit Go.Shelf

attribute [local go_sem] Oper.semAt_some

set_option maxHeartbeats 1000000 in
theorem Backward_in (F : Fence) (n : Nat) (h5 : F.fn 114) (hro : F.round = none) (a : Option Addr) (len cap : Nat) (w : World) :
    CallsIn F n Tryz.prog 114 #[.slice a len cap] w fun e w' => e = .returned (.func (.func 154) #[] #[.pointer (some ⟨w.heap.size, 0, none⟩)]) ∧ w' = w.alloc (.cells #[.slice a len cap] 146) := by
  refine callsIn_of_wp Tryz.func114 rfl h5 ?_ hro
  simp only [Tryz.ntmps114, List.size_toArray, List.length_cons, List.length_nil, Nat.reduceAdd, Nat.reduceSub, Array.replicate_succ, Array.replicate_zero, List.push_toArray, List.append_toArray, List.nil_append, List.cons_append]
  gi_wp2
  go_ret
  exact ⟨rfl, rfl⟩

/-- What has come, from the last one down. -/
def Down (len : Nat) (pre : List { i : Nat // i < len }) : Prop := ∀ r (h : r < pre.length), (pre[r]).1 + r + 1 = len
theorem Down.nil (len : Nat) : Down len [] := fun r h => by simp at h
theorem Down.snoc {len : Nat} {pre : List { i : Nat // i < len }} (h : Down len pre) (x : { i : Nat // i < len }) (hx : x.1 + pre.length + 1 = len) : Down len (pre ++ [x]) := by
  intro r hr
  by_cases e : r < pre.length
  · rw [List.getElem_append_left e]; exact h r e
  · have : r = pre.length := by simp at hr; omega
    subst this
    simpa using hx

/-- What a round keeps: what lay below n₀, but for the nodes. -/
abbrev KeptN (n₀ nb : Nat) (w w' : World) : Prop := Kept (fun k => k = nb ∨ n₀ ≤ k) w w'

def encJ (js : Nat → Nat × Nat) (x : Nat) : Array Value := #[.int .i64 (x : Int), .agg #[.int .i64 ((js x).1 : Int), .int .i64 ((js x).2 : Int)]]

set_option maxRecDepth 100000 in
set_option maxHeartbeats 2000000 in
theorem Back1_in (F : Fence) (n : Nat) (h7 : F.fn 154) (hro : F.round = none) (hn : 1 ≤ n) (l Bs n₀ nb b off len cap : Nat) (js : Nat → Nat × Nat) (hreach : len ≤ 100000) (hb : b < n₀) (hB : Bs < n₀) (hbn : b ≠ nb) (hBn : Bs ≠ nb) (J Jx : List { i : Nat // i < len } → World → Prop)
    (hY : ∀ pre x W, J pre W → pre.length < len → YieldAt F (n - 1) Tryz.prog l (encJ js x.1) W fun e W' =>
      (e = .returned (.bool true) ∧ J (pre ++ [x]) W' ∧ KeptN n₀ nb W W') ∨ (e = .returned (.bool false) ∧ Jx (pre ++ [x]) W'))
    (W : World) (hn₀ : n₀ ≤ W.heap.size) (hBs : W.cell? ⟨Bs, 0, none⟩ = some (.slice (some ⟨b, off, none⟩) len cap))
    (hc : ∀ j, j < len → W.cell? ⟨b, off + j * 2, none⟩ = some (.int .i64 ((js j).1 : Int)) ∧ W.cell? ⟨b, off + j * 2 + 1, none⟩ = some (.int .i64 ((js j).2 : Int))) (h0 : J [] W) :
    CallsIn F n Tryz.prog 154 #[.func (.yield l) #[] #[], .pointer (some ⟨Bs, 0, none⟩)] W fun e W' => (∃ v, e = .returned v) ∧
      ((∃ ys, (Down len ys ∧ ys.length = len) ∧ J ys W') ∨ (∃ pre, True ∧ Jx pre W')) := by
  refine callsIn_of_wp Tryz.func154 rfl h7 ?_ hro
  simp only [Tryz.ntmps154, List.size_toArray, List.length_cons, List.length_nil, Nat.reduceAdd, Nat.reduceSub, Array.replicate_succ, Array.replicate_zero, List.push_toArray, List.append_toArray, List.nil_append, List.cons_append]
  gi_wp2
  gi_loopw [3] (fun i wr => ∃ pre : List { i : Nat // i < len }, pre.length ≤ len ∧ Down len pre ∧ i = .int .i64 ((len : Int) - 1 - pre.length) ∧ J pre wr ∧ KeptN n₀ nb W wr)
    (fun i _ => (intOf i + 1).toNat)
  case atStart => exact ⟨[], Nat.zero_le _, Down.nil _, by simp, h0, Kept.refl _ _⟩
  case round =>
    obtain ⟨pre, hp, hd, rfl, hJs, hnx⟩ := hrel
    have hBs' : wr.cell? ⟨Bs, 0, none⟩ = some (.slice (some ⟨b, off, none⟩) len cap) := (World.cell?_of_block (a := ⟨Bs, 0, none⟩) (hnx.block Bs (by omega) (by omega))).trans hBs
    by_cases hlt : pre.length < len
    · obtain ⟨k, hk⟩ : ∃ k : Nat, k + pre.length + 1 = len := ⟨len - 1 - pre.length, by omega⟩
      have hkl : k < len := by omega
      obtain ⟨fn, tmps, assign, body, hy, hR⟩ := hY pre ⟨k, hkl⟩ wr hJs hlt
      have e1 : ((len : Int) - 1 - pre.length) = (k : Int) := by omega
      rw [e1]
      have hcx := hc k hkl
      have c1 : wr.cell? ⟨b, off + k * 2, none⟩ = some (.int .i64 ((js k).1 : Int)) := (World.cell?_of_block (a := ⟨b, off + k * 2, none⟩) (hnx.block b (by omega) (by omega))).trans hcx.1
      have c2 : wr.cell? ⟨b, off + k * 2 + 1, none⟩ = some (.int .i64 ((js k).2 : Int)) := (World.cell?_of_block (a := ⟨b, off + k * 2 + 1, none⟩) (hnx.block b (by omega) (by omega))).trans hcx.2
      have HK : Hid (k + pre.length + 1 = len) := hk
      clear hk e1 hcx hc hY hBs
      unfold encJ at hy
      gi_wp2
      refine hR.mono ?_
      rintro e W3 (⟨rfl, hJ3, hk3⟩ | ⟨rfl, hJx3⟩)
      · gi_wp2
        go_roundw
        case rel => exact ⟨pre ++ [⟨k, hkl⟩], by simp; omega, hd.snoc _ HK.out, by have := HK.out; simp; omega, hJ3, hnx.trans (hk3.mono fun x _ hx => hx)⟩
        case measure => simp [intOf]
      · gi_wp2
        refine bodyPost_ret (results_none rfl _ _ _) rfl ?_
        exact ⟨⟨_, rfl⟩, .inr ⟨_, trivial, hJx3⟩⟩
    · have e1 : ((len : Int) - 1 - pre.length) = -1 := by omega
      rw [e1]
      have HE : Hid (pre.length = len) := by show pre.length = len; omega
      clear e1
      gi_wp2
      go_end0
      exact ⟨⟨_, rfl⟩, .inl ⟨_, ⟨hd, HE.out⟩, hJs⟩⟩

set_option maxRecDepth 100000 in
set_option maxHeartbeats 1000000 in
/-- .. at the nil slice: no round. -/
theorem Back1_nil (F : Fence) (n : Nat) (h7 : F.fn 154) (hro : F.round = none) (l Bs : Nat) (J : List { i : Nat // i < 0 } → World → Prop) (W : World) (hBs : W.cell? ⟨Bs, 0, none⟩ = some (.slice none 0 0)) (h0 : J [] W) :
    CallsIn F n Tryz.prog 154 #[.func (.yield l) #[] #[], .pointer (some ⟨Bs, 0, none⟩)] W fun e W' => (∃ v, e = .returned v) ∧ J [] W' := by
  refine callsIn_of_wp Tryz.func154 rfl h7 ?_ hro
  simp only [Tryz.ntmps154, List.size_toArray, List.length_cons, List.length_nil, Nat.reduceAdd, Nat.reduceSub, Array.replicate_succ, Array.replicate_zero, List.push_toArray, List.append_toArray, List.nil_append, List.cons_append]
  gi_wp2
  gi_loopw [3] (fun i wr => i = .int .i64 (-1) ∧ J [] wr) (fun _ _ => 0)
  case atStart => exact ⟨rfl, h0⟩
  case round =>
    obtain ⟨rfl, hJs⟩ := hrel
    gi_wp2
    go_end0
    exact ⟨⟨_, rfl⟩, hJs⟩

/-- The slice value sv holds the joins js, in a block below n₀; or it is nil and there are none. -/
def JoinsAt (n₀ nb : Nat) (W : World) (sv : Value) (len : Nat) (js : Nat → Nat × Nat) : Prop :=
  (sv = .slice none 0 0 ∧ len = 0) ∨ ∃ b off cap, sv = .slice (some ⟨b, off, none⟩) len cap ∧ b < n₀ ∧ b ≠ nb ∧
    ∀ j, j < len → W.cell? ⟨b, off + j * 2, none⟩ = some (.int .i64 ((js j).1 : Int)) ∧ W.cell? ⟨b, off + j * 2 + 1, none⟩ = some (.int .i64 ((js j).2 : Int))

theorem JoinsAt.below {n₀ nb : Nat} {A B : World} (h : Below n₀ A B) {sv : Value} {len : Nat} {js : Nat → Nat × Nat} : JoinsAt n₀ nb A sv len js → JoinsAt n₀ nb B sv len js
  | .inl e => .inl e
  | .inr ⟨b, off, cap, e, hb, hn, hc⟩ => .inr ⟨b, off, cap, e, hb, hn, fun j hj => ⟨(h.cell (p := ⟨b, off + j * 2, none⟩) hb).trans (hc j hj).1, (h.cell (p := ⟨b, off + j * 2 + 1, none⟩) hb).trans (hc j hj).2⟩⟩

theorem Backward_stops (F : Fence) (n : Nat) (h7 : F.fn 154) (hro : F.round = none) (hn : 1 ≤ n) (Bs n₀ nb : Nat) (sv : Value) (len : Nat) (js : Nat → Nat × Nat) (hreach : len ≤ 100000) (w : World) (hBs : Bs < n₀) (hBn : Bs ≠ nb) (hn₀ : n₀ ≤ w.heap.size)
    (hc : w.cell? ⟨Bs, 0, none⟩ = some sv) (hI : JoinsAt n₀ nb w sv len js) :
    SeqStopsK F n Tryz.prog 154 #[.pointer (some ⟨Bs, 0, none⟩)] (fun x : { i : Nat // i < len } => encJ js x.1) (KeptN n₀ nb) (fun ys => Down len ys ∧ ys.length = len) (fun _ => True) len w := fun l J Jx W hW _ _ hY h0 => by
  have hc' := (hW.cell (p := ⟨Bs, 0, none⟩) (by show Bs < _; omega)).trans hc
  rcases hI.below (hW.mono hn₀) with ⟨rfl, rfl⟩ | ⟨b, off, cap, rfl, hb, hbn, hcs⟩
  · exact (Back1_nil F n h7 hro l Bs J W hc' h0).mono fun e W' ⟨he, hj⟩ => ⟨he, .inl ⟨[], ⟨Down.nil _, rfl⟩, hj⟩⟩
  · exact Back1_in F n h7 hro hn l Bs n₀ nb b off len cap js hreach hb hBs hbn hBn J Jx hY W (Nat.le_trans hn₀ hW.size) hc' hcs h0

end Go.Proofs.YtlehlgipbhfioaaGreat

namespace Go.Proofs.YtlehlgipbhfioaaGreat
open Go.RowKit Go.Shelf

attribute [local go_sem] Oper.semAt_some

/-- The nodes' cells as integers. -/
def nodeF (g : Uf.G) (j : Nat) : Int := if j % 4 = 0 then ((g.N (j / 4)).par : Int) else if j % 4 = 1 then ((g.N (j / 4)).nxt : Int) else if j % 4 = 2 then ((g.N (j / 4)).siz : Int) else ((g.N (j / 4)).lst : Int)
theorem nodeF_eq (g : Uf.G) (j : Nat) : intC (nodeF g) j = nodeC g j := rfl

theorem rowIs_own {W W' : World} {b : Nat} {t : TypeId} {n : Nat} {f : Nat → Value} {row : Option Nat} (h : W.rowIs b t n f) (hg : W.grownBy W' row) (hr : ∀ r, row = some r → ∃ o : Obj, W.heap[r]? = some o ∧ o.isCells = false) : W'.rowIs b t n f := by
  refine h.of_block (hg.block b h.lt ?_)
  intro e
  obtain ⟨o, ho, hc⟩ := hr b e.symm
  obtain ⟨c, hb, _⟩ := h
  rw [hb] at ho
  cases ho
  cases hc

theorem joinC_get (js : List (Nat × Nat)) : ∀ i, i < js.length → (joinC js)[i * 2]? = some (.int .i64 ((js[i]?.getD (0, 0)).1 : Int)) ∧ (joinC js)[i * 2 + 1]? = some (.int .i64 ((js[i]?.getD (0, 0)).2 : Int)) := by
  induction js with
  | nil => intro i hi; simp at hi
  | cons x t ih =>
    intro i hi
    cases i with
    | zero => simp [joinC]
    | succ i =>
      have := ih i (by simpa using hi)
      simp only [joinC, List.flatMap_cons] at this ⊢
      rw [show (i + 1) * 2 = i * 2 + 1 + 1 from by omega]
      simpa using this

theorem joinsAt_of {W0 : World} {base p nb n jb cap : Nat} {g : Uf.G} {t : List Uf.Rec} (L2 : Lies W0 base p nb n g (.slice (some ⟨jb, 0, none⟩) t.length cap) (Uf.recs t)) (m off c : Nat) (hm : m ≤ t.length) (hoff : m < t.length → off = m * 2) :
    JoinsAt W0.heap.size nb W0 (.slice (some ⟨jb, off, none⟩) (t.length - m) c) (t.length - m) (fun j => (Uf.recs t)[m + j]?.getD (0, 0)) := by
  have hL := Uf.recs_length t
  have hj0 := L2.joins
  rw [hL] at hj0
  refine .inr ⟨jb, off, c, rfl, (L2.joins.lt jb rfl).2, fun e => L2.jn (by rw [e]; rfl), fun j hj => ?_⟩
  rw [hoff (by omega)]
  have hg := joinC_get (Uf.recs t) (m + j) (by omega)
  have h1 := hj0.cellAt ((m + j) * 2) (by omega)
  have h2 := hj0.cellAt ((m + j) * 2 + 1) (by omega)
  rw [hg.1] at h1
  rw [hg.2] at h2
  rw [show m * 2 + j * 2 = (m + j) * 2 from by omega]
  exact ⟨h1, h2⟩

/-- Between two rounds of Undo. -/
structure Mid (W0 : World) (p nb n Bp len : Nat) (g : Uf.G) (t : List Uf.Rec) (pre : List { i : Nat // i < len }) (W : World) : Prop where
  box : W.rowIs Bp 66 1 (fun _ => .pointer (some ⟨p, 0, none⟩))
  nodes : ∃ F : Nat → Int, W.rowIs nb 150 (n * 4) (intC F) ∧ (∀ i, i < n → ∃ q : Nat, q < n ∧ F (i * 4) = (q : Int)) ∧ (Down len pre → ∀ j, j < n * 4 → intC F j = nodeC (Uf.back g t pre.length) j)
  kept : KeptN W0.heap.size nb W0 W

theorem mid_own (W0 : World) (p nb n Bp len : Nat) (g : Uf.G) (t : List Uf.Rec) : OwnFrom W0.heap.size (Mid W0 p nb n Bp len g t) := by
  intro pre A B row hs hg hr
  have hr' := fun r e => (hr r e).2
  obtain ⟨F, f1, f2, f3⟩ := hs.nodes
  exact ⟨rowIs_own hs.box hg hr', ⟨F, rowIs_own f1 hg hr', f2, f3⟩, hs.kept.grown hg (fun k e => Or.inr (hr k e).1)⟩

theorem keeps_of_kept {nb B : Nat} {W W' : World} (h : Kept1 nb W W') (hb : nb < B) : KeepsFrom B W W' :=
  KeepsFrom.of_grownBy h.grownBy (fun j e => by cases e; exact hb)

theorem keptN_alloc {n₀ nb : Nat} (W : World) (o : Obj) : KeptN n₀ nb W (W.alloc o) := (Kept.refl _ W).alloc o

theorem keptN_b {n₀ nb : Nat} {w : World} (hn : n₀ ≤ w.heap.size) (W : World) (l : Nat) (o o' : Obj) (hl : w.heap.size ≤ l) (_ : W.heap[l]? = some o) (_ : o.isCells = false) (_ : o.isWalk = false) : KeptN n₀ nb W (W.putObj l o') :=
  (Kept.refl _ W).grown (grownBy_putObj' W l o') (fun k e => by cases e; exact Or.inr (by omega))

/-- A round, on what it is handed. -/
theorem mid_step {W0 : World} {p nb n Bp len : Nat} {g : Uf.G} {t : List Uf.Rec} {pre : List { i : Nat // i < len }} {W W' : World} {m : Nat} (hh : Uf.Hist n g t) (hn : n ≤ 100000) (hlen : m + len = t.length) (x : { i : Nat // i < len })
    (hM : Mid W0 p nb n Bp len g t pre W) (F F' : Nat → Int) (c : Nat) (l : Int) (hx : ((Uf.recs t)[m + x.1]?.getD (0, 0)) = (c, l.toNat)) (hl : 0 ≤ l)
    (f3 : Down len pre → ∀ j, j < n * 4 → intC F j = nodeC (Uf.back g t pre.length) j) (hR : W'.rowIs nb 150 (n * 4) (intC F')) (hC : Cut n F F' c l) (hk : Kept1 nb W W') (hB : Bp ≠ nb) :
    Mid W0 p nb n Bp len g t (pre ++ [x]) W' := by
  refine ⟨hM.box.of_block (hk.block Bp hM.box.lt hB), ⟨F', hR, hC.par, ?_⟩, hM.kept.trans (hk.mono fun k _ e => Or.inl e)⟩
  intro hd
  have hpre : Down len pre := by
    intro r hr
    have := hd r (by simp; omega)
    rwa [List.getElem_append_left hr] at this
  have hxr : x.1 + pre.length + 1 = len := by simpa using hd pre.length (by simp)
  have hlt : pre.length < t.length := by omega
  have hget := Uf.recs_get t pre.length hlt
  rw [show t.length - 1 - pre.length = m + x.1 from by omega] at hget
  rw [hget] at hx
  simp at hx
  have hb := Uf.hist_back n pre.length t g hh
  rw [List.drop_eq_getElem_cons hlt] at hb
  have hsucc := Uf.back_succ pre.length t g t[pre.length] (List.getElem?_eq_getElem hlt)
  generalize t[pre.length] = y at hb hsucc hx
  obtain ⟨r, hr, hc, hne, cc, rr, hle, hback, ht⟩ := hb
  have hok := Uf.ok_hist n _ _ ht
  have hf := f3 hpre
  rw [hback] at hf
  rw [List.length_append, List.length_singleton, hsucc]
  obtain ⟨rfl, hl2⟩ := hx
  have hsz := hok.sizes y.child r hc hr hne cc rr
  exact hC.good y.was r hne hr (hok.parroot _ hc cc) (by rw [← hle, hl2]; omega) (by omega) hf

theorem joinC_take (js : List (Nat × Nat)) (m : Nat) : joinC (js.take m) = (joinC js).take (m * 2) := by
  induction js generalizing m with
  | nil => simp [joinC]
  | cons x t ih =>
    cases m with
    | zero => simp [joinC]
    | succ m =>
      have := ih m
      simp only [joinC, List.take_succ_cons, List.flatMap_cons] at this ⊢
      rw [this, show (m + 1) * 2 = m * 2 + 1 + 1 from by omega]
      simp

theorem ownsRow_cut {w w' : World} {base : Nat} {e : TypeId} {size jb cap L m : Nat} {xs : List Value} (h : w.ownsRow base e size (.slice (some ⟨jb, 0, none⟩) L cap) L xs) (hb : w'.heap[jb]? = w.heap[jb]?) (hm : m ≤ L) :
    w'.ownsRow base e size (.slice (some ⟨jb, 0, none⟩) m cap) m (xs.take (m * size)) := by
  refine ⟨by rw [List.length_take, h.1]; exact Nat.min_eq_left (Nat.mul_le_mul_right _ hm), ?_⟩
  rcases h.2 with ⟨e', _⟩ | ⟨g, c, cur, e', h1, h2, h3, h4, h5, h6⟩
  · cases e'
  · simp only [Value.slice.injEq, Option.some.injEq, Addr.mk.injEq, and_true, true_and] at e'
    obtain ⟨rfl, rfl⟩ := e'
    refine .inr ⟨jb, cap, cur, rfl, h1, hb.trans h2, by omega, h4, h5, ?_⟩
    rw [← h6, List.take_take, Nat.min_eq_left (Nat.mul_le_mul_right _ hm)]

theorem undo_fin {w W0 W : World} {base p nb n Bp len jb cap m : Nat} {g : Uf.G} {t : List Uf.Rec} {ys : List { i : Nat // i < len }} (L2 : Lies W0 base p nb n g (.slice (some ⟨jb, 0, none⟩) t.length cap) (Uf.recs t)) (K2 : Kept (fun _ => False) w W0) (hM : Mid W0 p nb n Bp len g t ys W)
    (hd : Down len ys) (hlen : ys.length = len) (hml : m + len = t.length) (D : Nat) (hD : W0.heap.size ≤ D) :
    Lies ((W.setCell ⟨p, 1, none⟩ (.slice (some ⟨jb, 0, none⟩) m cap)).drew.putObj D (.deferred none)) base p nb n (Uf.back g t len) (.slice (some ⟨jb, 0, none⟩) m cap) (Uf.recs (t.drop len)) ∧
      Kept (Foot p nb (.slice (some ⟨jb, 0, none⟩) t.length cap)) w ((W.setCell ⟨p, 1, none⟩ (.slice (some ⟨jb, 0, none⟩) m cap)).drew.putObj D (.deferred none)) := by
  have hjl : jb < W0.heap.size := (L2.joins.lt jb rfl).2
  have hjp : jb ≠ p := fun e => L2.jp (by rw [e]; rfl)
  have hjn : jb ≠ nb := fun e => L2.jn (by rw [e]; rfl)
  have hpl := L2.sets.lt
  have hnl := L2.nodes.lt
  have hG := grownBy_putObj' (W.setCell ⟨p, 1, none⟩ (.slice (some ⟨jb, 0, none⟩) m cap)).drew D (.deferred none)
  have hz : (W.setCell ⟨p, 1, none⟩ (.slice (some ⟨jb, 0, none⟩) m cap)).drew.heap.size = W.heap.size := by simp [World.setCell, World.drew]
  have hWs := hM.kept.size
  have blk : ∀ k, k < W0.heap.size → ((W.setCell ⟨p, 1, none⟩ (.slice (some ⟨jb, 0, none⟩) m cap)).drew.putObj D (.deferred none)).heap[k]? = (W.setCell ⟨p, 1, none⟩ (.slice (some ⟨jb, 0, none⟩) m cap)).heap[k]? := fun k hk =>
    hG.block k (by rw [hz]; omega) (fun e => by cases e; omega)
  have RP : W.rowIs p 148 2 (setsC nb n (.slice (some ⟨jb, 0, none⟩) t.length cap)) := L2.sets.of_block (hM.kept.block p hpl (by have := L2.ne; omega))
  obtain ⟨F, f1, _, f3⟩ := hM.nodes
  have KW : Kept (Foot p nb (.slice (some ⟨jb, 0, none⟩) t.length cap)) w W :=
    (K2.mono fun _ _ e => e.elim).trans (b := W0) ⟨hM.kept.os, hM.kept.tape, hM.kept.output, hM.kept.size, fun k hk hs => hM.kept.block k hk (fun e => by
      rcases e with e | e
      · exact hs (Or.inr (Or.inl e))
      · omega)⟩
  refine ⟨⟨?_, ?_, ?_, L2.ne, ?_, ?_, L2.bp, L2.bn, L2.small⟩, ?_⟩
  · refine ((RP.set 1 _).of_block (blk p hpl)).congr ?_
    intro i hi
    unfold setsC
    by_cases e : i = 0
    · simp [e]
    · rw [if_pos (by omega), if_neg e]
  · refine ((f1.setOther (Ne.symm L2.ne) _).of_block (blk nb hnl)).congr ?_
    intro j hj
    rw [f3 hd j hj, hlen]
  · have hL := Uf.recs_length t
    rw [Uf.recs_length, List.length_drop, show t.length - len = m from by omega, Uf.recs_drop, show t.length - len = m from by omega, joinC_take]
    have hj0 := L2.joins
    rw [hL] at hj0
    refine ownsRow_cut hj0 ?_ (by omega)
    rw [blk jb hjl]
    exact (Below.heap_setCell _ _ _ _ hjp).trans (hM.kept.block jb hjl (by omega))
  · simpa [Value.ownBlock] using hjp
  · simpa [Value.ownBlock] using hjn
  · refine ⟨?_, ?_, ?_, ?_, ?_⟩
    · exact hG.os.trans KW.os
    · exact hG.tape.trans KW.tape
    · exact hG.output.trans KW.output
    · exact Nat.le_trans KW.size (by have := hG.size; rw [hz] at this; exact this)
    · intro k hk hs
      have hk0 : k < W0.heap.size := Nat.lt_of_lt_of_le hk K2.size
      rw [blk k hk0]
      exact (Below.heap_setCell _ _ _ _ (fun e => hs (Or.inl e))).trans (KW.block k hk hs)

set_option maxRecDepth 100000 in
set_option maxHeartbeats 2000000 in
theorem Undo_in (w : World) (base p nb n : Nat) (g : Uf.G) (t : List Uf.Rec) (jb cap : Nat) (h : Lies w base p nb n g (.slice (some ⟨jb, 0, none⟩) t.length cap) (Uf.recs t)) (hh : Uf.Hist n g t) (m : Nat) (hm : m ≤ t.length) :
    CallsIn .wide 6 Tryz.prog 74 #[.pointer (some ⟨p, 0, none⟩), .int .i64 m] w fun e w' => e = .returned (.bool true) ∧
      Lies w' base p nb n (Uf.back g t (t.length - m)) (.slice (some ⟨jb, 0, none⟩) m cap) (Uf.recs (t.drop (t.length - m))) ∧ Kept (Foot p nb (.slice (some ⟨jb, 0, none⟩) t.length cap)) w w' := by
  have hL := Uf.recs_length t
  have c1 := h.c1
  refine callsIn_of_wp_marks Tryz.func74 rfl trivial ?_ rfl
  simp only [Tryz.ntmps74, List.size_toArray, List.length_cons, List.length_nil, Nat.reduceAdd, Nat.reduceSub, Array.replicate_succ, Array.replicate_zero, List.push_toArray, List.append_toArray, List.nil_append, List.cons_append]
  have hn := h.small
  have hok := Uf.ok_hist n t g hh
  have htn := hok.num_le
  have hcap : t.length ≤ cap ∧ cap ≤ maxLen := by
    rcases h.joins.2 with ⟨e, _⟩ | ⟨b, c, cur, e, _, _, h1, h2, _⟩
    · cases e
    · simp only [Value.slice.injEq] at e
      obtain ⟨_, _, rfl⟩ := e
      rw [hL] at h1; exact ⟨h1, h2⟩
  unfold maxLen at hcap
  obtain ⟨hc1, hc2⟩ := hcap
  have hm0 : decide ((m : Int) < 0) = false := by simp
  have hm1 : decide ((t.length : Int) < (m : Int)) = false := by simp; omega
  have hm2 : ¬ t.length < m := by omega
  have plt := h.sets.lt
  obtain ⟨off, hoff, hsl⟩ : ∃ off, (m < t.length → off = m * 2) ∧ ∀ W, (Instr.slice 146 (.slice (some ⟨jb, 0, none⟩) t.length cap) (some (.int .i64 (m : Int))) none none).run Tryz.prog W = .ok (.slice (some ⟨jb, off, none⟩) (t.length - m) (cap - m)) W := by
    refine ⟨if cap = m then 0 else m * 2, fun hlt => if_neg (by omega), fun W => ?_⟩
    have hsz : (sizeOf 220).run Tryz.prog W = .ok 2 W := by
      obtain ⟨i0, hi0, _, hz1, _⟩ := info_parts infoJoin
      simp [sizeOf, typeInfo, hi0, hz1]
    rw [run_slice_l W 146 _ _ _ (by kernel_rfl) .i64 (m : Int) (by omega) (by omega)]
    rw [show Tryz.prog.elem 146 = 220 from by kernel_rfl, hsz]
    simp only [Result.andThen, sliced, Int.toNat_natCast]
    by_cases e : cap = m
    · simp [e]
    · simp [e, Addr.add]
      exact fun h => h.symm
  have Hoff : Hid (m < t.length → off = m * 2) := hoff
  clear hoff
  have HL : Hid ((Uf.recs t).length = t.length) := hL
  clear hL
  gi_wp2_with fail
  refine ⟨trivial, (callsIn_wide.2 (Mark_in _ _ _ _ _ _ _ _ (h.alloc _))).mono ?_⟩
  rintro e w' ⟨rfl, rfl⟩
  rw [HL.out]
  gi_wp2_with fail
  refine ⟨trivial, (Backward_in .wide _ trivial rfl _ _ _ _).mono ?_⟩
  rintro e w' ⟨rfl, rfl⟩
  gi_wp2_with fail
  have hnl := h.nodes.lt
  have hne := h.ne
  have hjp := h.jp
  have hjn := h.jn
  have L2 := (h.alloc (.cells #[.pointer (some ⟨p, 0, none⟩)] 66)).alloc (.cells #[.slice (some ⟨jb, off, none⟩) (t.length - m) (cap - m)] 146)
  have K2 : Kept (fun _ => False) w ((w.alloc (.cells #[.pointer (some ⟨p, 0, none⟩)] 66)).alloc (.cells #[.slice (some ⟨jb, off, none⟩) (t.length - m) (cap - m)] 146)) := ((Kept.refl _ w).alloc _).alloc _
  have B2 : ((w.alloc (.cells #[.pointer (some ⟨p, 0, none⟩)] 66)).alloc (.cells #[.slice (some ⟨jb, off, none⟩) (t.length - m) (cap - m)] 146)).rowIs w.heap.size 66 1 (fun _ => .pointer (some ⟨p, 0, none⟩)) := by
    refine ((made_row w #[.pointer (some ⟨p, 0, none⟩)] 66).congr ?_).alloc _
    intro i hi
    obtain rfl : i = 0 := by simpa using hi
    rfl
  have S2 : ((w.alloc (.cells #[.pointer (some ⟨p, 0, none⟩)] 66)).alloc (.cells #[.slice (some ⟨jb, off, none⟩) (t.length - m) (cap - m)] 146)).cell? ⟨w.heap.size + 1, 0, none⟩ = some (.slice (some ⟨jb, off, none⟩) (t.length - m) (cap - m)) := by
    have := (made_row (w.alloc (.cells #[.pointer (some ⟨p, 0, none⟩)] 66)) #[.slice (some ⟨jb, off, none⟩) (t.length - m) (cap - m)] 146).cell (i := 0) (by simp)
    rw [World.size_alloc] at this
    exact this
  have Z2 : ((w.alloc (.cells #[.pointer (some ⟨p, 0, none⟩)] 66)).alloc (.cells #[.slice (some ⟨jb, off, none⟩) (t.length - m) (cap - m)] 146)).heap.size = w.heap.size + 2 := by simp
  generalize ((w.alloc (.cells #[.pointer (some ⟨p, 0, none⟩)] 66)).alloc (.cells #[.slice (some ⟨jb, off, none⟩) (t.length - m) (cap - m)] 146)) = W0 at *
  have hJA : JoinsAt W0.heap.size nb W0 (.slice (some ⟨jb, off, none⟩) (t.length - m) (cap - m)) (t.length - m) (fun j => (Uf.recs t)[m + j]?.getD (0, 0)) :=
    joinsAt_of L2 m off (cap - m) hm Hoff.out
  refine wpIn_rangeFunc_ownH rfl (by omega) (gf := 154) (lb := #[.pointer (some ⟨w.heap.size + 1, 0, none⟩)]) rfl trivial (enters_of Tryz.func154 (by kernel_rfl) rfl)
    (Backward_stops .wide 5 trivial rfl (by omega) (w.heap.size + 1) W0.heap.size nb _ (t.length - m) (fun j => (Uf.recs t)[m + j]?.getD (0, 0)) (by omega) W0 (by omega) (by omega) (Nat.le_refl _) S2 hJA)
    (fun a b => a.trans (b.mono fun k _ hk => hk)) (keptN_b (Nat.le_refl _)) (Below.refl _ _) (fun _ => rfl)
    (Mid W0 p nb n w.heap.size (t.length - m) g t) (fun _ _ _ => False) (mid_own W0 p nb n w.heap.size (t.length - m) g t) (fun _ _ _ _ _ hs _ _ => hs)
    ?start (fun x a' W => ∃ Bx, W.rowIs Bx 220 2 (fun j => if j = 0 then .int .i64 (((Uf.recs t)[m + x.1]?.getD (0, 0)).1 : Int) else .int .i64 (((Uf.recs t)[m + x.1]?.getD (0, 0)).2 : Int)) ∧ ∃ v6 v24 v25, a' = { tmps := #[.pointer (some ⟨p, 0, none⟩), .int .i64 m, .pointer (some ⟨w.heap.size, 0, none⟩), undef, .bool false, undef, .pointer (some ⟨Bx, 0, none⟩),
          .int .i64 m, .bool false, .bool false, .int .i64 m, .pointer (some ⟨p, 0, none⟩), .int .i64 t.length, .bool false, .bool false, .pointer (some ⟨p, 0, none⟩), .bool false, .pointer (some ⟨p, 0, none⟩), .pointer (some ⟨p, 0, none⟩), .pointer (some ⟨p, 1, none⟩),
          .slice (some ⟨jb, 0, none⟩) t.length cap, .int .i64 m, .slice (some ⟨jb, off, none⟩) (t.length - m) (cap - m), .func (.func 154) #[] #[.pointer (some ⟨w.heap.size + 1, 0, none⟩)], v24, v25, v6, undef, undef, undef, undef, undef, undef, undef, undef, undef, undef, undef], defers := [] }) ?hAx ?assign ?body ?done ?stop
  case start =>
    refine ⟨B2, ⟨nodeF g, L2.nodes, fun i hi => ⟨(g.N i).par, hok.parlt i hi, ?_⟩, fun _ j _ => by simp [Uf.back, nodeF_eq]⟩, Kept.refl _ _⟩
    have := nodeC_par g i
    rw [← nodeF_eq] at this
    simpa [intC] using this
  case hAx =>
    rintro x a' _ A B row ⟨Bx, b1, v6, v24, v25, rfl⟩ hg hr
    exact ⟨Bx, rowIs_own b1 hg (fun r e => (hr r e).2), v6, v24, v25, rfl⟩
  case assign =>
    rintro l pre x W K hM hK
    simp only [encJ]
    gi_wp2
    exact hK _ _ ((KeepsOthers.alloc _ _).from _) (keptN_alloc W _) ((mid_own W0 p nb n w.heap.size (t.length - m) g t).alloc _ hM) ⟨W.heap.size, box_row W _ _ _, _, _, _, rfl⟩
  case body =>
    rintro l pre x a' W hl _ hM ⟨Bx, hBx, v6, v24, v25, rfl⟩ hlt
    obtain ⟨F, f1, f2, f3⟩ := hM.nodes
    have hxl := x.2
    have hcn : ((Uf.recs t)[m + x.1]?.getD (0, 0)).1 < n := Uf.recs_child n t g hh _ (by omega)
    have d0 : W.cell? ⟨w.heap.size, 0, none⟩ = some (.pointer (some ⟨p, 0, none⟩)) := hM.box.cell (by omega)
    have d1 := hBx.cell (i := 0) (by omega)
    have d2 := hBx.cell (i := 1) (by omega)
    have d3 : W.cell? ⟨p, 0, none⟩ = some (.slice (some ⟨nb, 0, none⟩) n n) := (World.cell?_of_block (a := ⟨p, 0, none⟩) (hM.kept.block p (by omega) (by omega))).trans L2.c0
    obtain ⟨c, hc⟩ : ∃ c, ((Uf.recs t)[m + x.1]?.getD (0, 0)).1 = c := ⟨_, rfl⟩
    obtain ⟨le, hle⟩ : ∃ c, ((Uf.recs t)[m + x.1]?.getD (0, 0)).2 = c := ⟨_, rfl⟩
    rw [hc] at hcn
    rw [if_pos rfl, hc] at d1
    rw [if_neg (by omega), hle] at d2
    have HX : Hid ((Uf.recs t)[m + x.1]?.getD (0, 0) = (c, (le : Int).toNat)) := by
      show _ = _
      rw [← hc, ← hle]; simp
    clear hc hle hBx
    gi_wp2_with fail
    refine ⟨trivial, (CallsIn.inRound l (callsIn_wide.2 (unhang_any W p nb n F d3 f1 hn f2 c hcn (le : Int)))).mono ?_⟩
    rintro e W' ⟨rfl, ⟨F', hR, hC⟩, hk⟩
    gi_wp2
    exact ⟨keeps_of_kept hk (by omega), hk.mono fun k _ e => Or.inl e, mid_step hh hn (by omega) x hM F F' c (le : Int) HX.out (by omega) f3 hR hC hk (by omega)⟩
  case done =>
    rintro D ys W hD ⟨hd, hlen⟩ hM hK
    have d0 : W.cell? ⟨w.heap.size, 0, none⟩ = some (.pointer (some ⟨p, 0, none⟩)) := hM.box.cell (by omega)
    have RP : W.rowIs p 148 2 (setsC nb n (.slice (some ⟨jb, 0, none⟩) t.length cap)) := L2.sets.of_block (hM.kept.block p (by omega) (by omega))
    have d1 : W.cell? ⟨p, 1, none⟩ = some (.slice (some ⟨jb, 0, none⟩) t.length cap) := RP.cell (i := 1) (by omega)
    have d2 := RP.frozen 1
    have hmc : (m : Int) ≤ (cap : Int) := by omega
    have fin := undo_fin L2 K2 hM hd hlen (m := m) (by omega) D hD
    clear L2 K2 hM
    gi_wp2_with fail
    refine wpIn_wide.2 ?_
    go_region
    gi_wp2
    have hK' := (KeepsOthers.setCell W ⟨p, 1, none⟩ (.slice (some ⟨jb, 0, none⟩) m cap)).same D _ hK rfl
    refine ⟨by simp, .inl ⟨_, _, rfl, run_takeDeferred (w := (W.setCell ⟨p, 1, none⟩ (.slice (some ⟨jb, 0, none⟩) m cap)).drew) hK', ?_⟩⟩
    exact ⟨_, results_tmp rfl _ _ _, rfl, fin.1, fin.2⟩
  case stop =>
    rintro D c pre W _ _ h _
    exact h.elim

theorem undo_fin_nil {w W0 W : World} {base p nb n : Nat} {g : Uf.G} (L2 : Lies W0 base p nb n g (.slice none 0 0) []) (K2 : Kept (fun _ => False) w W0) (hk : Kept (fun k => W0.heap.size ≤ k) W0 W) (D : Nat) (hD : W0.heap.size ≤ D) :
    Lies ((W.setCell ⟨p, 1, none⟩ (.slice none 0 0)).drew.putObj D (.deferred none)) base p nb n g (.slice none 0 0) [] ∧
      Kept (Foot p nb (.slice none 0 0)) w ((W.setCell ⟨p, 1, none⟩ (.slice none 0 0)).drew.putObj D (.deferred none)) := by
  have hpl := L2.sets.lt
  have hnl := L2.nodes.lt
  have hG := grownBy_putObj' (W.setCell ⟨p, 1, none⟩ (.slice none 0 0)).drew D (.deferred none)
  have hz : (W.setCell ⟨p, 1, none⟩ (.slice none 0 0)).drew.heap.size = W.heap.size := by simp [World.setCell, World.drew]
  have hWs := hk.size
  have blk : ∀ k, k < W0.heap.size → ((W.setCell ⟨p, 1, none⟩ (.slice none 0 0)).drew.putObj D (.deferred none)).heap[k]? = (W.setCell ⟨p, 1, none⟩ (.slice none 0 0)).heap[k]? := fun k hk =>
    hG.block k (by rw [hz]; omega) (fun e => by cases e; omega)
  have RP : W.rowIs p 148 2 (setsC nb n (.slice none 0 0)) := L2.sets.of_block (hk.block p hpl (by omega))
  have RN : W.rowIs nb 150 (n * 4) (nodeC g) := L2.nodes.of_block (hk.block nb hnl (by omega))
  refine ⟨⟨?_, (RN.setOther (Ne.symm L2.ne) _).of_block (blk nb hnl), World.ownsRow_nil _ _ _ _, L2.ne, L2.jp, L2.jn, L2.bp, L2.bn, L2.small⟩, ?_⟩
  · refine ((RP.set 1 _).of_block (blk p hpl)).congr ?_
    intro i hi
    unfold setsC
    by_cases e : i = 0
    · simp [e]
    · rw [if_pos (by omega), if_neg e]
  · refine ⟨hG.os.trans (hk.os.trans K2.os), hG.tape.trans (hk.tape.trans K2.tape), hG.output.trans (hk.output.trans K2.output), ?_, ?_⟩
    · have h1 := hG.size
      rw [hz] at h1
      exact Nat.le_trans K2.size (Nat.le_trans hk.size h1)
    · intro k hkk hs
      have hk0 : k < W0.heap.size := Nat.lt_of_lt_of_le hkk K2.size
      rw [blk k hk0]
      exact (Below.heap_setCell _ _ _ _ (fun e => hs (Or.inl e))).trans ((hk.block k hk0 (by omega)).trans (K2.block k hkk (fun e => e)))

set_option maxRecDepth 100000 in
set_option maxHeartbeats 2000000 in
/-- .. without a join. -/
theorem Undo_nil (w : World) (base p nb n : Nat) (g : Uf.G) (h : Lies w base p nb n g (.slice none 0 0) []) :
    CallsIn .wide 6 Tryz.prog 74 #[.pointer (some ⟨p, 0, none⟩), .int .i64 0] w fun e w' => e = .returned (.bool true) ∧
      Lies w' base p nb n g (.slice none 0 0) [] ∧ Kept (Foot p nb (.slice none 0 0)) w w' := by
  have c1 := h.c1
  refine callsIn_of_wp_marks Tryz.func74 rfl trivial ?_ rfl
  simp only [Tryz.ntmps74, List.size_toArray, List.length_cons, List.length_nil, Nat.reduceAdd, Nat.reduceSub, Array.replicate_succ, Array.replicate_zero, List.push_toArray, List.append_toArray, List.nil_append, List.cons_append]
  have plt := h.sets.lt
  gi_wp2_with fail
  refine ⟨trivial, (callsIn_wide.2 (Mark_in _ _ _ _ _ _ _ _ (h.alloc _))).mono ?_⟩
  rintro e w' ⟨rfl, rfl⟩
  gi_wp2_with fail
  refine ⟨trivial, (Backward_in .wide _ trivial rfl _ _ _ _).mono ?_⟩
  rintro e w' ⟨rfl, rfl⟩
  gi_wp2_with fail
  have L2 := (h.alloc (.cells #[.pointer (some ⟨p, 0, none⟩)] 66)).alloc (.cells #[.slice none 0 0] 146)
  have K2 : Kept (fun _ => False) w ((w.alloc (.cells #[.pointer (some ⟨p, 0, none⟩)] 66)).alloc (.cells #[.slice none 0 0] 146)) := ((Kept.refl _ w).alloc _).alloc _
  have B2 : ((w.alloc (.cells #[.pointer (some ⟨p, 0, none⟩)] 66)).alloc (.cells #[.slice none 0 0] 146)).rowIs w.heap.size 66 1 (fun _ => .pointer (some ⟨p, 0, none⟩)) := by
    refine ((made_row w #[.pointer (some ⟨p, 0, none⟩)] 66).congr ?_).alloc _
    intro i hi
    obtain rfl : i = 0 := by simpa using hi
    rfl
  have S2 : ((w.alloc (.cells #[.pointer (some ⟨p, 0, none⟩)] 66)).alloc (.cells #[.slice none 0 0] 146)).cell? ⟨w.heap.size + 1, 0, none⟩ = some (.slice none 0 0) := by
    have := (made_row (w.alloc (.cells #[.pointer (some ⟨p, 0, none⟩)] 66)) #[.slice none 0 0] 146).cell (i := 0) (by simp)
    rw [World.size_alloc] at this
    exact this
  have Z2 : ((w.alloc (.cells #[.pointer (some ⟨p, 0, none⟩)] 66)).alloc (.cells #[.slice none 0 0] 146)).heap.size = w.heap.size + 2 := by simp
  have hnl := h.nodes.lt
  generalize ((w.alloc (.cells #[.pointer (some ⟨p, 0, none⟩)] 66)).alloc (.cells #[.slice none 0 0] 146)) = W0 at *
  refine wpIn_rangeFunc_ownH rfl (by omega) (gf := 154) (lb := #[.pointer (some ⟨w.heap.size + 1, 0, none⟩)]) rfl trivial (enters_of Tryz.func154 (by kernel_rfl) rfl)
    (Backward_stops .wide 5 trivial rfl (by omega) (w.heap.size + 1) W0.heap.size nb _ 0 (fun _ => (0, 0)) (by omega) W0 (by omega) (by omega) (Nat.le_refl _) S2 (.inl ⟨rfl, rfl⟩))
    (fun a b => a.trans (b.mono fun k _ hk => hk)) (keptN_b (Nat.le_refl _)) (Below.refl _ _) (fun _ => rfl)
    (fun _ W => W.rowIs w.heap.size 66 1 (fun _ => .pointer (some ⟨p, 0, none⟩)) ∧ Kept (fun k => W0.heap.size ≤ k) W0 W) (fun _ _ _ => False)
    (fun _ A B row hs hg hr => ⟨rowIs_own hs.1 hg (fun r e => (hr r e).2), hs.2.grown hg (fun k e => (hr k e).1)⟩) (fun _ _ _ _ _ hs _ _ => hs)
    ⟨B2, Kept.refl _ _⟩ (fun _ _ _ => False) (fun _ _ _ _ _ _ hs _ _ => hs) ?assign ?body ?done ?stop
  case assign =>
    rintro l pre x W K _ _
    exact absurd x.2 (Nat.not_lt_zero _)
  case body =>
    rintro l pre x a' W hl _ _ _ hlt
    exact absurd hlt (Nat.not_lt_zero _)
  case done =>
    rintro D ys W hD ⟨hd, hlen⟩ ⟨hb, hk⟩ hK
    have d0 : W.cell? ⟨w.heap.size, 0, none⟩ = some (.pointer (some ⟨p, 0, none⟩)) := hb.cell (by omega)
    have RP : W.rowIs p 148 2 (setsC nb n (.slice none 0 0)) := L2.sets.of_block (hk.block p (by omega) (by omega))
    have d1 : W.cell? ⟨p, 1, none⟩ = some (.slice none 0 0) := RP.cell (i := 1) (by omega)
    have d2 := RP.frozen 1
    have fin := undo_fin_nil L2 K2 hk D hD
    clear L2 K2 hk RP
    gi_wp2_with fail
    refine wpIn_wide.2 ?_
    go_region
    gi_wp2
    have hK' := (KeepsOthers.setCell W ⟨p, 1, none⟩ (.slice none 0 0)).same D _ hK rfl
    refine ⟨by simp, .inl ⟨_, _, rfl, run_takeDeferred (w := (W.setCell ⟨p, 1, none⟩ (.slice none 0 0)).drew) hK', ?_⟩⟩
    exact ⟨_, results_tmp rfl _ _ _, rfl, fin.1, fin.2⟩
  case stop =>
    rintro D c pre W _ _ h _
    exact h.elim

end Go.Proofs.YtlehlgipbhfioaaGreat

namespace Go.Proofs.YtlehlgipbhfioaaGreat
open Go.RowKit Go.Shelf

set_option maxRecDepth 100000 in
set_option maxHeartbeats 1000000 in
theorem Undo_no (w : World) (base p nb n : Nat) (g : Uf.G) (jv : Value) (js : List (Nat × Nat)) (h : Lies w base p nb n g jv js) (m : Int) (hm : m < 0 ∨ (js.length : Int) < m) :
    Calls Tryz.prog 74 #[.pointer (some ⟨p, 0, none⟩), .int .i64 m] w fun e w' => e = .returned (.bool false) ∧
      Lies w' base p nb n g jv js ∧ Kept (Foot p nb jv) w w' := by
  have hA := h.alloc (.cells #[.pointer (some ⟨p, 0, none⟩)] 66)
  have hK : Kept (Foot p nb jv) w (w.alloc (.cells #[.pointer (some ⟨p, 0, none⟩)] 66)) := (Kept.refl _ w).alloc _
  have MA := Mark_in _ _ _ _ _ _ _ _ hA
  have HA : Hid (_ ∧ _) := ⟨hA, hK⟩
  clear hA hK h
  by_cases h0 : m < 0
  · clear MA
    go_enter Tryz.func74, Tryz.ntmps74
    go_wp2
    go_ret
    exact ⟨rfl, HA.out.1, HA.out.2⟩
  · have h1 : (js.length : Int) < m := by omega
    go_enter Tryz.func74, Tryz.ntmps74
    go_wp2_with fail
    refine MA.mono ?_
    rintro e w' ⟨rfl, rfl⟩
    go_wp2
    go_ret
    exact ⟨rfl, HA.out.1, HA.out.2⟩

/-- A Sets with its joins. -/
structure St (w : World) (base p nb : Nat) (jv : Value) (n : Nat) (g : Uf.G) (t : List Uf.Rec) : Prop where
  lies : Lies w base p nb n g jv (Uf.recs t)
  hist : Uf.Hist n g t
  low : base ≤ w.heap.size

theorem St.ok {w : World} {base p nb n : Nat} {jv : Value} {g : Uf.G} {t : List Uf.Rec} (h : St w base p nb jv n g t) : Uf.Ok n g t.length := Uf.ok_hist n t g h.hist

/-- What Join does. -/
def joins (n : Nat) (g : Uf.G) (a b : Int) : Bool := inB n a && inB n b && !(decide (g.rt a.toNat = g.rt b.toNat))
def joinG (n : Nat) (g : Uf.G) (a b : Int) : Uf.G := if joins n g a b then Uf.hang g (Uf.pick g a.toNat b.toNat).1 (Uf.pick g a.toNat b.toNat).2 else g
def joinT (n : Nat) (g : Uf.G) (t : List Uf.Rec) (a b : Int) : List Uf.Rec := if joins n g a b then ⟨(Uf.pick g a.toNat b.toNat).1, (g.N (Uf.pick g a.toNat b.toNat).2).lst, g⟩ :: t else t

theorem Join_st (w : World) (base p nb : Nat) (jv : Value) (n : Nat) (g : Uf.G) (t : List Uf.Rec) (h : St w base p nb jv n g t) (a b : Int) :
    Calls Tryz.prog 71 #[.pointer (some ⟨p, 0, none⟩), .int .i64 a, .int .i64 b] w fun e w' => e = .returned (.bool (joins n g a b)) ∧ ∃ jv', St w' base p nb jv' n (joinG n g a b) (joinT n g t a b) ∧
      Kept (Foot p nb jv) w w' ∧ (jv'.ownBlock = jv.ownBlock ∨ ∀ k, jv'.ownBlock = some k → w.heap.size ≤ k) := by
  have hok := h.ok
  cases hj : joins n g a b
  · have hno : inB n a = false ∨ inB n b = false ∨ sameB n g a b = true := by
      cases ha : inB n a
      · exact Or.inl rfl
      · cases hb : inB n b
        · exact Or.inr (Or.inl rfl)
        · refine Or.inr (Or.inr ?_)
          simpa [joins, sameB, ha, hb] using hj
    refine (Join_no w base p nb n g jv _ h.lies _ hok a b hno).mono ?_
    rintro e w' ⟨he, rfl⟩
    refine ⟨he, jv, ?_, Kept.refl _ _, Or.inl rfl⟩
    rw [joinG, joinT, hj]
    exact h
  · have h3 : inB n a = true ∧ inB n b = true ∧ g.rt a.toNat ≠ g.rt b.toNat := by
      simp only [joins, Bool.and_eq_true, Bool.not_eq_true', decide_eq_false_iff_not] at hj
      exact ⟨hj.1.1, hj.1.2, hj.2⟩
    obtain ⟨ha, hb, hne⟩ := h3
    obtain ⟨a1, a2⟩ := inB_true ha
    obtain ⟨b1, b2⟩ := inB_true hb
    obtain ⟨i, rfl⟩ := Int.eq_ofNat_of_zero_le a1
    obtain ⟨j, rfl⟩ := Int.eq_ofNat_of_zero_le b1
    have hi : i < n := by omega
    have hjn : j < n := by omega
    rw [Int.toNat_natCast, Int.toNat_natCast] at hne
    have hok' : Uf.Ok n g (Uf.recs t).length := by rw [Uf.recs_length]; exact hok
    refine (Join_yes w base p nb n g jv (Uf.recs t) h.lies hok' i j hi hjn hne h.low).mono ?_
    rintro e w' ⟨he, jv', hL, hK, hloc⟩
    refine ⟨he, jv', ⟨?_, ?_, Nat.le_trans h.low hK.size⟩, hK, hloc⟩
    · rw [joinG, joinT, hj, if_pos rfl, if_pos rfl, Uf.recs_cons, Int.toNat_natCast, Int.toNat_natCast]
      exact hL
    · rw [joinG, joinT, hj, if_pos rfl, if_pos rfl, Int.toNat_natCast, Int.toNat_natCast]
      obtain ⟨p1, p2, p3, p4, p5⟩ := hok.pick i j hi hjn hne
      exact ⟨_, p2, p1, p3, p4, p5, rfl, rfl, h.hist⟩

/-- What Undo does. -/
def undoes (t : List Uf.Rec) (m : Int) : Bool := decide (0 ≤ m ∧ m ≤ t.length)
def undoK (t : List Uf.Rec) (m : Int) : Nat := if undoes t m then t.length - m.toNat else 0

theorem back_zero (g : Uf.G) (t : List Uf.Rec) : Uf.back g t 0 = g := by cases t <;> rfl

theorem Undo_st (w : World) (base p nb : Nat) (jv : Value) (n : Nat) (g : Uf.G) (t : List Uf.Rec) (h : St w base p nb jv n g t) (m : Int) :
    Calls Tryz.prog 74 #[.pointer (some ⟨p, 0, none⟩), .int .i64 m] w fun e w' => e = .returned (.bool (undoes t m)) ∧ ∃ jv', St w' base p nb jv' n (Uf.back g t (undoK t m)) (t.drop (undoK t m)) ∧
      Kept (Foot p nb jv) w w' ∧ jv'.ownBlock = jv.ownBlock := by
  cases hu : undoes t m
  · have hno : m < 0 ∨ ((Uf.recs t).length : Int) < m := by
      rw [Uf.recs_length]
      have := of_decide_eq_false hu
      omega
    refine (Undo_no w base p nb n g jv _ h.lies m hno).mono ?_
    rintro e w' ⟨he, hL, hK⟩
    have hk0 : undoK t m = 0 := by rw [undoK, hu]; rfl
    refine ⟨he, jv, ?_, hK, rfl⟩
    rw [hk0, back_zero]
    exact ⟨hL, h.hist, Nat.le_trans h.low hK.size⟩
  · obtain ⟨h1, h2⟩ : 0 ≤ m ∧ m ≤ t.length := of_decide_eq_true hu
    obtain ⟨k, rfl⟩ := Int.eq_ofNat_of_zero_le h1
    have hk : k ≤ t.length := by omega
    have hk0 : undoK t k = t.length - k := by rw [undoK, hu, if_pos rfl, Int.toNat_natCast]
    rw [hk0]
    rcases h.lies.joins.2 with ⟨rfl, h0⟩ | ⟨jb, cap, cur, rfl, _⟩
    · rw [Uf.recs_length] at h0
      obtain rfl : t = [] := List.eq_nil_of_length_eq_zero h0
      obtain rfl : k = 0 := by simpa using hk
      refine (callsIn_wide.1 (Undo_nil w base p nb n g h.lies)).mono ?_
      rintro e w' ⟨he, hL, hK⟩
      exact ⟨he, _, ⟨hL, h.hist, Nat.le_trans h.low hK.size⟩, hK, rfl⟩
    · have hl := h.lies
      rw [Uf.recs_length] at hl
      refine (callsIn_wide.1 (Undo_in w base p nb n g t jb cap hl h.hist k hk)).mono ?_
      rintro e w' ⟨he, hL, hK⟩
      refine ⟨he, _, ⟨hL, Uf.hist_back n _ t g h.hist, Nat.le_trans h.low hK.size⟩, ?_, rfl⟩
      rw [Uf.recs_length]
      exact hK

theorem New_st (w : World) (n : Nat) (hn : n ≤ 100000) :
    Calls Tryz.prog 32 #[.int .i64 n] w fun e w' => e = .returned (.pointer (some ⟨w.heap.size + 1, 0, none⟩)) ∧ St w' w.heap.size (w.heap.size + 1) w.heap.size (.slice none 0 0) n Uf.g0 [] ∧ Below w.heap.size w w' :=
  (New_in w n hn).mono fun _ _ ⟨he, hL, hB⟩ => ⟨he, ⟨hL, rfl, hB.size⟩, hB⟩

/-- Another Sets is as it was, if the two share no block. -/
theorem St.other {w w' : World} {base p nb n : Nat} {jv : Value} {g : Uf.G} {t : List Uf.Rec} (h : St w base p nb jv n g t) {S : Nat → Prop} (hK : Kept S w w') (hp : ¬ S p) (hn : ¬ S nb) (hj : ∀ k, jv.ownBlock = some k → ¬ S k) : St w' base p nb jv n g t := by
  refine ⟨⟨h.lies.sets.of_block (hK.block p h.lies.sets.lt hp), h.lies.nodes.of_block (hK.block nb h.lies.nodes.lt hn), ?_, h.lies.ne, h.lies.jp, h.lies.jn, h.lies.bp, h.lies.bn, h.lies.small⟩, h.hist, Nat.le_trans h.low hK.size⟩
  refine ⟨h.lies.joins.1, ?_⟩
  rcases h.lies.joins.2 with hn | ⟨b, cap, cur, e, h1, h2, h3⟩
  · exact .inl hn
  · refine .inr ⟨b, cap, cur, e, h1, ?_, h3⟩
    rw [hK.block b (Array.getElem?_eq_some_iff.1 h2).1 (hj b (by rw [e]; rfl))]
    exact h2

theorem St.drewN {w : World} {base p nb n : Nat} {jv : Value} {g : Uf.G} {t : List Uf.Rec} (h : St w base p nb jv n g t) {m : Nat} : St (w.drewN m) base p nb jv n g t := ⟨h.lies.drewN, h.hist, h.low⟩

end Go.Proofs.YtlehlgipbhfioaaGreat

namespace Go.Proofs.YtlehlgipbhfioaaGreat
open Go.RowKit

theorem ret_b {p q : Bool} (h : p = q) : Ending.returned (.bool p) = Ending.returned (.bool q) := by rw [h]

/-- Has a Form as many Kids as told? -/
def whN (op : Int) (n : Nat) : Bool := if op = 0 then n == 0 else if op = 1 then n == 1 else if op = 2 ∨ op = 3 ∨ op = 4 then n == 2 else false

theorem LayC.kept {w w' : World} (hB : Below w.heap.size w w') {t : Lf} (h : LayC w t) : LayC w' t := by
  induction h with
  | mk c0 c1 c2 c3 hk _ ih =>
    have kc : ∀ p v, w.cell? p = some v → w'.cell? p = some v := fun p v hp => (hB.cell (World.block_lt_of_cell? w p hp)).trans hp
    exact .mk (kc _ _ c0) (kc _ _ c1) (kc _ _ c2) (kc _ _ c3) hk ih

/-- Classes in memory. -/
def ClsAt (w : World) (ca : Option Addr) (cls : List Int) : Prop :=
  cls = [] ∨ ∃ g off, ca = some ⟨g, off, none⟩ ∧ ∀ (j : Nat) (c : Int), cls[j]? = some c → w.cell? ⟨g, off + j, none⟩ = some (.int .i64 c)
theorem ClsAt.below {w w' : World} {ca : Option Addr} {cls : List Int} (hB : Below w.heap.size w w') (h : ClsAt w ca cls) : ClsAt w' ca cls := by
  rcases h with e | ⟨g, off, h1, h2⟩
  · exact Or.inl e
  · exact Or.inr ⟨g, off, h1, fun j c hj => (hB.cell (World.block_lt_of_cell? w _ (h2 j c hj))).trans (h2 j c hj)⟩

end Go.Proofs.YtlehlgipbhfioaaGreat

namespace Go.Proofs
open Go.Shelf
def Tryz.laysCq_ren : Go.Shelf.Ren := ⟨fun | 6 => 178 | 7 => 133 | n => n, fun | 0 => 0 | 3 => 3 | 4 => 4 | 22 => 109 | 24 => 34 | n => n, fun | n => n⟩
theorem Tryz.laysCq : Go.Proofs.SlLaysQ.n7 Tryz.prog Tryz.laysCq_ren := {
  mixed := by kernel_rfl
  f6 := ⟨Tryz.f178.name, by kernel_rfl, Tryz.func178.trans (congrArg some (by kernel_rfl))⟩
  f7 := ⟨Tryz.f133.name, by kernel_rfl, Tryz.func133.trans (congrArg some (by kernel_rfl))⟩
  t0 := Tryz.underlying0
  a0 := Tryz.isAgg0
  z0 := Tryz.sizeOf0
  v0 := Tryz.zeroValue0
  t3 := Tryz.underlying3
  a3 := Tryz.isAgg3
  z3 := Tryz.sizeOf3
  v3 := Tryz.zeroValue3
  t4 := Tryz.underlying4
  a4 := Tryz.isAgg4
  z4 := Tryz.sizeOf4
  v4 := Tryz.zeroValue4
  t22 := Tryz.underlying109
  a22 := Tryz.isAgg109
  z22 := Tryz.sizeOf109
  v22 := Tryz.zeroValue109 }
end Go.Proofs
namespace Go.Proofs.YtlehlgipbhfioaaGreat
open Go.RowKit Go.Maps

def enP (x : Nat × Nat) : List Value := [.int .i64 (x.1 : Int), .int .i64 (x.2 : Int)]
def rowP (l : List (Nat × Nat)) : List Value := l.flatMap enP
theorem rowP_app (l m : List (Nat × Nat)) : rowP (l ++ m) = rowP l ++ rowP m := by simp [rowP]

theorem eqPq : EqlAt Tryz.prog 34 (fun x => .agg (enP x).toArray) (fun x y => decide (x = y)) := by
  refine ⟨fun x y w => ?_, GuardAt.agg _ (by kernel_rfl)⟩
  have u3 := Tryz.underlying3
  have a3 := Tryz.isAgg3
  have z3 := Tryz.sizeOf3
  have hS : Tryz.prog.underlying 34 = some (.struct (Tryz.prog.fieldsOf 34)) := by kernel_rfl
  have hp : Tryz.prog.stoodInHeld 34 = false := by kernel_rfl
  simp only [enP]
  rw [run_eql_struct, show (10000 : Nat) = 9999 + 1 from rfl, run_equalIn_agg w 9999 34 _ _ hS hp]
  simp only [Program.fieldsOf, Tryz.underlying34]
  go_simp
  obtain ⟨x1, x2⟩ := x
  obtain ⟨y1, y2⟩ := y
  by_cases h1 : x1 = y1 <;> by_cases h2 : x2 = y2 <;> simp [h1, h2, Int.ofNat_inj]

/-- A slice of pairs in memory. -/
def PsAt (W : World) (v : Value) (l : List Pr) : Prop := ∃ a c, v = .slice a l.length c ∧ (l = [] ∨ ∃ b off, a = some ⟨b, off, none⟩ ∧ ∀ (j : Nat) (p : Pr), l[j]? = some p → W.cell? ⟨b, off + j * 2, none⟩ = some (.int .i64 (p.1 : Int)) ∧ W.cell? ⟨b, off + j * 2 + 1, none⟩ = some (.int .i64 (p.2 : Int)))

theorem rowP_get : ∀ {l : List Pr} {j : Nat} {p : Pr}, l[j]? = some p → (rowP l)[j * 2]? = some (.int .i64 (p.1 : Int)) ∧ (rowP l)[j * 2 + 1]? = some (.int .i64 (p.2 : Int))
  | [], j, p, h => by simp at h
  | q :: l, 0, p, h => by simp at h; subst h; simp [rowP, enP]
  | q :: l, j + 1, p, h => by
    have := rowP_get (l := l) (j := j) (p := p) (by simpa using h)
    have e : rowP (q :: l) = enP q ++ rowP l := by simp [rowP]
    rw [e]
    have e1 : (j + 1) * 2 = (enP q).length + j * 2 := by simp [enP]; omega
    rw [e1, Nat.add_assoc, List.getElem?_append_right (by omega), List.getElem?_append_right (by omega), Nat.add_sub_cancel_left, Nat.add_sub_cancel_left]
    exact this
theorem rowP_len (l : List Pr) : (rowP l).length = l.length * 2 := by
  induction l with
  | nil => rfl
  | cons a l ih =>
    have e : rowP (a :: l) = enP a ++ rowP l := by simp [rowP]
    rw [e, List.length_append, ih]
    simp [enP]
    omega

theorem PsAt.of_row {W : World} {base : Nat} {v : Value} {l : List Pr} (h : W.ownsRow base 34 2 v l.length (rowP l)) : PsAt W v l := by
  rcases h.2 with ⟨e, h0⟩ | ⟨b, cap, cur, e, e1, e2, e3⟩
  · refine ⟨none, 0, by rw [e, h0], Or.inl (List.length_eq_zero_iff.1 h0)⟩
  · refine ⟨_, cap, e, Or.inr ⟨b, 0, rfl, fun j p hj => ?_⟩⟩
    obtain ⟨q1, q2⟩ := rowP_get hj
    have c1 := h.cells (g := b) (by rw [e]; rfl) _ _ q1
    have c2 := h.cells (g := b) (by rw [e]; rfl) _ _ q2
    rw [Addr.add_lit, Nat.zero_add] at c1 c2
    rw [Nat.zero_add]
    exact ⟨c1, c2⟩
theorem PsAt.keep {W W' : World} {v : Value} {l : List Pr} (h : PsAt W v l) (hb : ∀ b off n c, v = .slice (some ⟨b, off, none⟩) n c → W'.heap[b]? = W.heap[b]?) : PsAt W' v l := by
  obtain ⟨a, c, rfl, h0⟩ := h
  refine ⟨a, c, rfl, h0.imp id ?_⟩
  rintro ⟨b, off, rfl, h⟩
  refine ⟨b, off, rfl, fun j p hj => ?_⟩
  have e := hb b off _ _ rfl
  exact ⟨(World.cell?_of_block (a := ⟨b, off + j * 2, none⟩) e).trans (h j p hj).1, (World.cell?_of_block (a := ⟨b, off + j * 2 + 1, none⟩) e).trans (h j p hj).2⟩
theorem PsAt.below {W W' : World} {v : Value} {l : List Pr} (h : PsAt W v l) (hB : Below W.heap.size W W') : PsAt W' v l := by
  obtain ⟨a, c, rfl, h0⟩ := h
  refine ⟨a, c, rfl, h0.imp id ?_⟩
  rintro ⟨b, off, rfl, h⟩
  refine ⟨b, off, rfl, fun j p hj => ?_⟩
  have hlt := World.block_lt_of_cell? W _ (h j p hj).1
  have e := hB.block b hlt
  exact ⟨(World.cell?_of_block (a := ⟨b, off + j * 2, none⟩) e).trans (h j p hj).1, (World.cell?_of_block (a := ⟨b, off + j * 2 + 1, none⟩) e).trans (h j p hj).2⟩

set_option maxRecDepth 100000 in
set_option maxHeartbeats 400000 in
theorem dIdx_nil (w : World) (a : Option Addr) (c : Nat) (x y : Int) : Calls Tryz.prog 178 #[.slice a 0 c, .agg #[.int .i64 x, .int .i64 y]] w fun e w' => e = .returned (.int .i64 (-1)) ∧ Below w.heap.size w w' := by
  have HB : Hid (_) := (Below.refl w.heap.size w).alloc (Nat.le_refl _) (.cells #[.int .i64 x, .int .i64 y] 34)
  go_enter Tryz.func178, Tryz.ntmps178
  go_wp2_with fail
  go_loopw [8] (fun t8 W => t8 = .int .i64 0 ∧ Hid (Below w.heap.size w W)) (fun _ _ => 0)
  case atStart => exact ⟨rfl, HB⟩
  case round =>
    obtain ⟨rfl, H⟩ := hrel
    go_wp2_with fail
    go_ret
    exact ⟨rfl, H.out⟩

set_option maxRecDepth 100000 in
set_option maxHeartbeats 400000 in
theorem dCont_nil (w : World) (a : Option Addr) (c : Nat) (x y : Int) : Calls Tryz.prog 133 #[.slice a 0 c, .agg #[.int .i64 x, .int .i64 y]] w fun e w' => e = .returned (.bool false) ∧ Below w.heap.size w w' := by
  have N := dIdx_nil (w.alloc (.cells #[.int .i64 x, .int .i64 y] 34)) a c x y
  have HB : Hid (_) := (Below.refl w.heap.size w).alloc (Nat.le_refl _) (.cells #[.int .i64 x, .int .i64 y] 34)
  have hz : (w.alloc (.cells #[.int .i64 x, .int .i64 y] 34)).heap.size = w.heap.size + 1 := by simp
  go_enter Tryz.func133, Tryz.ntmps133
  go_wp2_with (first | (go_at_call 178; refine N.mono ?_; rintro e w3 ⟨rfl, hB3⟩))
  go_ret
  exact ⟨rfl, HB.out.trans (hB3.mono (by omega))⟩

theorem dCont_in (w : World) (v : Value) (l : List Pr) (h : PsAt w v l) (hn : l.length ≤ 9223372036854775807) (x : Pr) : Calls Tryz.prog 133 #[v, .agg (enP x).toArray] w fun e w' => e = .returned (.bool (decide (x ∈ l))) ∧ Below w.heap.size w w' := by
  obtain ⟨a, c, rfl, h⟩ := h
  rcases h with rfl | ⟨b, off, rfl, h⟩
  · refine (dCont_nil w a c x.1 x.2).mono ?_
    rintro e w' ⟨rfl, hB⟩
    exact ⟨by simp, hB⟩
  · have := AnyQ.slices_Contains Tryz.laysCq 2 Tryz.isAgg34 Tryz.sizeOf34 enP (fun _ => rfl) _ eqPq b off l.length c l x w (Nat.le_refl _) hn (fun j hj i v hi => by
      obtain ⟨q1, q2⟩ := h j l[j] (List.getElem?_eq_getElem hj)
      have e : l[j]! = l[j] := getElem!_pos l j hj
      rw [e] at hi
      match i, hi with
      | 0, hi => simp [enP] at hi; subst hi; exact q1
      | 1, hi => simp [enP] at hi; subst hi; exact q2)
    refine Calls.mono this ?_
    rintro e w' ⟨rfl, hB⟩
    refine ⟨?_, hB⟩
    congr 2
    rw [List.take_length]
    by_cases hx : x ∈ l
    · rw [decide_eq_true hx, List.any_eq_true]; exact ⟨x, hx, by simp⟩
    · rw [decide_eq_false hx, List.any_eq_false]; intro y hy; simp; rintro rfl; exact hx hy

/-- A row of one's own that grows: v0 at w, v at W. -/
structure Row1 (base : Nat) (ty : TypeId) (sz : Nat) (w : World) (v0 : Value) (W : World) (v : Value) (n : Nat) (xs : List Value) : Prop where
  row : W.ownsRow base ty sz v n xs
  kept : Kept (fun k => v0.ownBlock = some k) w W
  at_ : v.ownBlock = v0.ownBlock ∨ ∀ k, v.ownBlock = some k → w.heap.size ≤ k
theorem ownsRow_below {W W' : World} {base size k : Nat} {ty : TypeId} {v : Value} {xs : List Value} (h : W.ownsRow base ty size v k xs) (hB : Below W.heap.size W W') : W'.ownsRow base ty size v k xs := by
  refine ⟨h.1, ?_⟩
  rcases h.2 with e | ⟨g, cap, cur, e, e1, e2, e3⟩
  · exact Or.inl e
  · exact Or.inr ⟨g, cap, cur, e, e1, (hB.block g (Array.getElem?_eq_some_iff.1 e2).1).trans e2, e3⟩
theorem ownsRow_lt {W : World} {base size k : Nat} {ty : TypeId} {v : Value} {xs : List Value} (h : W.ownsRow base ty size v k xs) {b : Nat} (hb : v.ownBlock = some b) : base ≤ b ∧ b < W.heap.size := by
  rcases h.2 with ⟨e, _⟩ | ⟨g, cap, cur, e, e1, e2, _⟩
  · rw [e] at hb; simp [Value.ownBlock] at hb
  · rw [e] at hb
    simp [Value.ownBlock] at hb
    subst hb
    exact ⟨e1, (Array.getElem?_eq_some_iff.1 e2).1⟩
theorem ownsRow_form {w : World} {base : Nat} {e : TypeId} {size : Nat} {v : Value} {n : Nat} {xs : List Value} (h : w.ownsRow base e size v n xs) : ∃ a c, v = .slice a n c := by
  rcases h.2 with ⟨rfl, h0⟩ | ⟨b, cap, cur, rfl, _⟩
  · rw [h0]; exact ⟨none, 0, rfl⟩
  · exact ⟨_, cap, rfl⟩
theorem Kept.under {S : Nat → Prop} {a w w' : World} (h : Kept S a w) (hB : Below w.heap.size w w') : Kept S a w' :=
  ⟨hB.os.trans h.os, hB.tape.trans h.tape, hB.output.trans h.output, Nat.le_trans h.size hB.size, fun k hk hs => (hB.block k (Nat.lt_of_lt_of_le hk h.size)).trans (h.block k hk hs)⟩
theorem Row1.start {base sz n : Nat} {ty : TypeId} {w : World} {v : Value} {xs : List Value} (h : w.ownsRow base ty sz v n xs) : Row1 base ty sz w v w v n xs := ⟨h, Kept.refl _ _, Or.inl rfl⟩
theorem Row1.below {base sz n : Nat} {ty : TypeId} {w W W' : World} {v0 v : Value} {xs : List Value} (h : Row1 base ty sz w v0 W v n xs) (hB : Below W.heap.size W W') : Row1 base ty sz w v0 W' v n xs :=
  ⟨ownsRow_below h.row hB, h.kept.under hB, h.at_⟩
theorem Row1.push {base sz n m : Nat} {ty : TypeId} {w W W1 w8 : World} {v0 v v8 : Value} {xs ys : List Value} (h : Row1 base ty sz w v0 W v n xs) (hB : Below W.heap.size W W1) (hown : w8.ownsRow base ty sz v8 m ys) (hgrow : W1.grownBy w8 v.ownBlock) (hat : v8.ownBlock = v.ownBlock ∨ ∀ k, v8.ownBlock = some k → W1.heap.size ≤ k) : Row1 base ty sz w v0 w8 v8 m ys := by
  have K1 := h.kept.under hB
  refine ⟨hown, ⟨hgrow.os.trans K1.os, hgrow.tape.trans K1.tape, hgrow.output.trans K1.output, Nat.le_trans K1.size hgrow.size, fun k hk hs => (hgrow.block k (Nat.lt_of_lt_of_le hk K1.size) (fun e => ?_)).trans (K1.block k hk hs)⟩, ?_⟩
  · rcases h.at_ with e' | e'
    · exact hs (e'.symm.trans e.symm)
    · have := e' k e.symm; omega
  · rcases hat with e | e
    · rw [e]; exact h.at_
    · exact Or.inr (fun k hk => Nat.le_trans K1.size (e k hk))
theorem Row1.trans {base sz n n' : Nat} {ty : TypeId} {w W W' : World} {v0 v v' : Value} {xs ys : List Value} (h : Row1 base ty sz w v0 W v n xs) (k : Row1 base ty sz W v W' v' n' ys) : Row1 base ty sz w v0 W' v' n' ys := by
  refine ⟨k.row, ⟨k.kept.os.trans h.kept.os, k.kept.tape.trans h.kept.tape, k.kept.output.trans h.kept.output, Nat.le_trans h.kept.size k.kept.size, fun b hb hs => (k.kept.block b (Nat.lt_of_lt_of_le hb h.kept.size) (fun e => ?_)).trans (h.kept.block b hb hs)⟩, ?_⟩
  · rcases h.at_ with e' | e'
    · exact hs (e'.symm.trans e)
    · have := e' b e; omega
  · rcases k.at_ with e | e
    · rw [e]; exact h.at_
    · exact Or.inr (fun b hb => Nat.le_trans h.kept.size (e b hb))

theorem cell_two (w : World) (a b : Value) (ty : TypeId) : ∀ j u, [a, b][j]? = some u → (w.alloc (.cells #[a, b] ty)).cell? ((⟨w.heap.size, 0, none⟩ : Addr).add j) = some u := by
  intro j u hj
  have hn := made_row w #[a, b] ty
  match j, hj with
  | 0, hj => simp at hj; subst hj; exact hn.cell (i := 0) (by simp)
  | 1, hj => simp at hj; subst hj; exact hn.cell (i := 1) (by simp)
theorem infoPq : (Tryz.prog.info? 34).map (fun i => (i.zero, i.size, i.bytes)) = some (some (.agg #[.int .i64 0, .int .i64 0]), 2, 16) := by kernel_rfl

theorem addP_snoc (l : List Pr) : ∀ (r : List Pr) (a : Pr), addP l (r ++ [a]) = if a ∈ addP l r then addP l r else addP l r ++ [a] := by
  intro r
  induction r generalizing l with
  | nil => intro a; by_cases h : a ∈ l <;> simp [addP, h]
  | cons q r ih => intro a; simp only [List.cons_append, addP]; split <;> exact ih _ a
theorem addP_len (l : List Pr) : ∀ (r : List Pr), (addP l r).length ≤ l.length + r.length := by
  intro r
  induction r generalizing l with
  | nil => simp [addP]
  | cons q r ih =>
    simp only [addP]
    split
    · exact Nat.le_trans (ih _) (by simp)
    · exact Nat.le_trans (ih _) (by simp; omega)

set_option maxRecDepth 100000 in
set_option maxHeartbeats 1000000 in
theorem addPairs_in (w : World) (base : Nat) (hbase : base ≤ w.heap.size) (v0 : Value) (l : List Pr) (hr : w.ownsRow base 34 2 v0 l.length (rowP l)) (pa : Option Addr) (pc : Nat) (ps : List Pr) (hp : PsAt w (.slice pa ps.length pc) ps) (hsep : ∀ b off, pa = some ⟨b, off, none⟩ → v0.ownBlock ≠ some b) (hn : (l.length + ps.length) * 16 ≤ 140737488355328) :
    Calls Tryz.prog 89 #[v0, .slice pa ps.length pc] w fun e w' => ∃ v', e = .returned v' ∧ Row1 base 34 2 w v0 w' v' (addP l ps).length (rowP (addP l ps)) := by
  have HP : Hid (∀ W : World, Kept (fun k => v0.ownBlock = some k) w W → ∀ (j : Nat) (p : Pr), ps[j]? = some p → ∃ b off, pa = some ⟨b, off, none⟩ ∧ W.cell? ⟨b, off + j * 2, none⟩ = some (.int .i64 (p.1 : Int)) ∧ W.cell? ⟨b, off + j * 2 + 1, none⟩ = some (.int .i64 (p.2 : Int))) := fun W K j p hj => by
    obtain ⟨a, c, e, h⟩ := hp
    simp only [Value.slice.injEq, true_and] at e
    obtain ⟨rfl, rfl⟩ := e
    rcases h with e | ⟨b, off, rfl, h⟩
    · rw [e] at hj; simp at hj
    · have hlt := World.block_lt_of_cell? w _ (h j p hj).1
      have e := K.block b hlt (hsep b off rfl)
      exact ⟨b, off, rfl, (World.cell?_of_block (a := ⟨b, off + j * 2, none⟩) e).trans (h j p hj).1, (World.cell?_of_block (a := ⟨b, off + j * 2 + 1, none⟩) e).trans (h j p hj).2⟩
  obtain ⟨i0, hi0, hz0, hz1, hz2⟩ := info_parts infoPq
  obtain ⟨n, hN⟩ : ∃ n, ps.length = n := ⟨_, rfl⟩
  have H0 : Hid (_) := Row1.start hr
  have HA : Hid (∀ r : List Pr, (addP l r).length ≤ l.length + r.length) := addP_len l
  obtain ⟨va, vc, hv⟩ := ownsRow_form hr
  rw [hv] at H0 HP ⊢
  clear hp hr hsep hv
  rw [hN] at hn ⊢
  have HN : Hid _ := hN
  clear hN
  go_enter Tryz.func89, Tryz.ntmps89
  go_wp2_with fail
  go_loopw [0, 9] (fun t0 t9 W => ∃ i : Nat, i ≤ n ∧ t9 = .int .i64 (i : Int) ∧ Hid (Row1 base 34 2 w (.slice va l.length vc) W t0 (addP l (ps.take i)).length (rowP (addP l (ps.take i))))) (fun _ t9 _ => n - (intOf t9).toNat)
  case atStart => exact ⟨0, Nat.zero_le _, rfl, H0⟩
  case round =>
    obtain ⟨i, hi, rfl, HR⟩ := hrel
    by_cases hlt : i < n
    · have di : decide ((i : Int) < (n : Int)) = true := decide_eq_true (by omega)
      have hil : i < ps.length := by rw [HN.out]; exact hlt
      obtain ⟨b, off, rfl, q1, q2⟩ := HP.out wr HR.out.kept i _ (List.getElem?_eq_getElem hil)
      have hwrap : IntKind.i64.wrap ((i : Int) + 1) = (i : Int) + 1 := by rw [IntKind.wrap_i64]; omega
      have hle : (addP l (ps.take i)).length ≤ l.length + i := Nat.le_trans (HA.out _) (by simp; omega)
      have HS : Hid (addP l (ps.take (i + 1)) = if ps[i] ∈ addP l (ps.take i) then addP l (ps.take i) else addP l (ps.take i) ++ [ps[i]]) := by
        show _ = _
        rw [List.take_add_one, List.getElem?_eq_getElem hil, Option.toList_some, addP_snoc]
      generalize ps[i] = p at *
      generalize addP l (ps.take i) = m at *
      obtain ⟨ma, mc, hm⟩ := ownsRow_form HR.out.row
      subst hm
      by_cases hin : p ∈ m
      · have C := dCont_in (wr.alloc (.cells #[.int .i64 (p.1 : Int), .int .i64 (p.2 : Int)] 34)) (.slice ma m.length mc) m (PsAt.of_row (ownsRow_below HR.out.row ((Below.refl _ _).alloc (Nat.le_refl _) _))) (by omega) p
        rw [decide_eq_true hin] at C
        have HR2 : Hid (_) := HR.out.below ((Below.refl _ wr).alloc (Nat.le_refl _) (.cells #[.int .i64 (p.1 : Int), .int .i64 (p.2 : Int)] 34))
        have HE : Hid (addP l (ps.take (i + 1)) = m) := by show _ = _; rw [HS.out, if_pos hin]
        clear HR HS hin H0 HP
        go_wp2_with (first | (go_at_call 133; refine C.mono ?_; rintro e w3 ⟨rfl, hB3⟩))
        refine ⟨⟨i + 1, hlt, by simp, ?_⟩, by simp [intOf]; omega⟩
        rw [HE.out]
        exact HR2.out.below hB3
      · have C := dCont_in (wr.alloc (.cells #[.int .i64 (p.1 : Int), .int .i64 (p.2 : Int)] 34)) (.slice ma m.length mc) m (PsAt.of_row (ownsRow_below HR.out.row ((Below.refl _ _).alloc (Nat.le_refl _) _))) (by omega) p
        rw [decide_eq_false hin] at C
        have HR2 : Hid (_) := HR.out.below ((Below.refl _ wr).alloc (Nat.le_refl _) (.cells #[.int .i64 (p.1 : Int), .int .i64 (p.2 : Int)] 34))
        have HE : Hid (addP l (ps.take (i + 1)) = m ++ [p]) := by show _ = _; rw [HS.out, if_neg hin]
        have hA := made_row wr #[.int .i64 (p.1 : Int), .int .i64 (p.2 : Int)] 34
        have a1 := hA.cell (i := 0) (by simp)
        have a2 := hA.cell (i := 1) (by simp)
        have HBx : Hid (∀ w3 : World, Below (wr.alloc (.cells #[.int .i64 (p.1 : Int), .int .i64 (p.2 : Int)] 34)).heap.size (wr.alloc (.cells #[.int .i64 (p.1 : Int), .int .i64 (p.2 : Int)] 34)) w3 → w3.cell? ⟨wr.heap.size, 0, none⟩ = some (.int .i64 (p.1 : Int)) ∧ w3.cell? ⟨wr.heap.size, 1, none⟩ = some (.int .i64 (p.2 : Int))) := fun w3 hB => by
          have e := hB.block wr.heap.size (by simp)
          exact ⟨(World.cell?_of_block (a := ⟨wr.heap.size, 0, none⟩) e).trans a1, (World.cell?_of_block (a := ⟨wr.heap.size, 1, none⟩) e).trans a2⟩
        clear HR HS hin H0 HP hA a1 a2
        go_wp2_with (first | (go_at_call 133; refine C.mono ?_; rintro e w3 ⟨rfl, hB3⟩; refine Aside.out ?_))
        delta Aside
        have R3 := HR2.out.below hB3
        obtain ⟨a1, a2⟩ := HBx.out w3 hB3
        have hb3 : base ≤ w3.heap.size := Nat.le_trans hbase R3.kept.size
        have H3 : Hid (_) := R3
        clear C HBx HR2 hB3 R3
        apply_assumption
        go_wp2_with (first | (at_builtin; refine Aside.out ?_))
        delta Aside
        refine wpList_append_own_at _ rfl _ _ 109 rfl base 34 i0 _ 2 16 Tryz.underlying109 hi0 hz0 hz1 hz2 rfl (by decide) _ _ _ rfl (H3.out.row.alloc _) ⟨_, 0, none⟩ 1 1 [.int .i64 (p.1 : Int), .int .i64 (p.2 : Int)] rfl rfl (cell_two w3 _ _ _) (by simp [Value.oneCell']) (by unfold maxLen; omega) (by omega) (by simp; omega) ?_
        intro v8 w8 hown8 hgrow8 _ hat8
        have H8 : Hid (_) := H3.out.push ((Below.refl _ _).alloc (Nat.le_refl _) _) hown8 hgrow8 (hat8.imp id (fun e k hk => by rw [e] at hk; cases hk; exact Nat.le_refl _))
        clear hown8 hgrow8 hat8 H3 a1 a2
        go_wp2_with fail
        refine ⟨⟨i + 1, hlt, by simp, ?_⟩, by simp [intOf]; omega⟩
        rw [HE.out, rowP_app, List.length_append]
        exact H8.out
    · have di : decide ((i : Int) < (n : Int)) = false := decide_eq_false (by omega)
      have hie : i = n := by omega
      have HF : Hid (_) := HR.out
      rw [hie, ← HN.out, List.take_length] at HF
      clear HP H0 HR
      go_wp2_with fail
      go_ret
      exact ⟨_, rfl, HF.out⟩
end Go.Proofs.YtlehlgipbhfioaaGreat

namespace Go.Proofs.YtlehlgipbhfioaaGreat
open Go.RowKit Go.Maps

theorem run_copy_two {P : Program} (w : World) (dT sT ty elem : TypeId) (g o dLen dCap : Nat) (a : Addr) (sLen sCap : Nat) (cur : Array Value) (t : TypeId) (cs : List Value)
    (hu : P.underlying dT = some (.slice elem)) (hs : (P.info? elem).map (·.size) = some 2)
    (hg : w.heap[g]? = some (.cells cur t (0, 0))) (hn : cs.length = Nat.min sLen dLen * 2)
    (hsrc : ∀ j v, cs[j]? = some v → w.cell? (a.add j) = some v) (hfit : o + cs.length ≤ cur.size) (h1 : ∀ v ∈ cs, v.oneCell' = true) :
    (Builtin.copy_ #[dT, sT] ty #[.slice (some ⟨g, o, none⟩) dLen dCap, .slice (some a) sLen sCap]).run P w =
      .ok (goInt (Nat.min sLen dLen)) (w.setRow g (cur.toList.take o ++ cs ++ cur.toList.drop (o + cs.length)).toArray) := by
  have hl := run_loadCells_list (P := P) w a cs hsrc
  have hst := run_storeCells_at P g o t cs 0 cur w hg (by simpa using hfit) h1
  cases hq : P.info? elem with
  | none => simp [hq] at hs
  | some i =>
    have hi : i.size = 2 := by simpa [hq] using hs
    simp [Builtin.copy_, run_underlying hu, Builtin.lenOf, Builtin.firstCells, sizeOf, typeInfo, hq, hi, ← hn, hl, hst]

/-- A step's cells. -/
def pad4c (ps : List Pr) : List Pr := (ps ++ List.replicate 4 (0, 0)).take 4
def stpV (c : Pr) (ps : List Pr) : List Value := enP c ++ rowP (pad4c ps)

theorem infoPq2 : (Tryz.prog.info? 34).map (·.size) = some 2 := by kernel_rfl

set_option maxRecDepth 100000 in
set_option maxHeartbeats 400000 in
theorem newStep_in (w : World) (c : Pr) (pa : Option Addr) (pc : Nat) (ps : List Pr) (hp : PsAt w (.slice pa ps.length pc) ps) (h4 : 1 ≤ ps.length ∧ ps.length ≤ 4) : Calls Tryz.prog 142 #[.agg #[.int .i64 (c.1 : Int), .int .i64 (c.2 : Int)], .slice pa ps.length pc] w fun e w' => e = .returned (.agg (stpV c ps).toArray) ∧ Below w.heap.size w w' := by
  obtain ⟨a, c', e, hp⟩ := hp
  simp only [Value.slice.injEq, true_and] at e
  obtain ⟨rfl, rfl⟩ := e
  rcases hp with rfl | ⟨b, off, rfl, hp⟩
  · simp at h4
  have CP : ∀ W : World, Below w.heap.size w W → ∀ (g : Nat) (cur : Array Value), W.heap[g]? = some (.cells cur 206 (0, 0)) → cur.size = 10 → (Builtin.copy_ #[109, 109] 3 #[.slice (some ⟨g, 2, none⟩) 4 4, .slice (some ⟨b, off, none⟩) ps.length pc]).run Tryz.prog W = .ok (goInt ps.length) (W.setRow g (cur.toList.take 2 ++ rowP ps ++ cur.toList.drop (2 + (rowP ps).length)).toArray) := fun W hB g cur hg hc => by
    have hmin : Nat.min ps.length 4 = ps.length := Nat.min_eq_left h4.2
    have := run_copy_two (P := Tryz.prog) W 109 109 3 34 g 2 4 4 ⟨b, off, none⟩ ps.length pc cur 206 (rowP ps) Tryz.underlying109 infoPq2 hg (by rw [hmin, rowP_len]) (fun j v hj => by
      have hjl : j < ps.length * 2 := by rw [← rowP_len]; exact (List.getElem?_eq_some_iff.1 hj).1
      have hd : j / 2 < ps.length := by omega
      have q := hp (j / 2) _ (List.getElem?_eq_getElem hd)
      have r := rowP_get (List.getElem?_eq_getElem hd)
      have hlt := World.block_lt_of_cell? w _ q.1
      have e := hB.block b hlt
      rw [Addr.add_lit]
      rcases Nat.mod_two_eq_zero_or_one j with hm | hm
      · have ej : j / 2 * 2 = j := by omega
        rw [ej] at q r
        rw [r.1] at hj
        cases hj
        exact (World.cell?_of_block (a := ⟨b, off + j, none⟩) e).trans q.1
      · have ej : j / 2 * 2 + 1 = j := by omega
        have eo : off + j / 2 * 2 + 1 = off + j := by omega
        rw [eo] at q
        rw [ej] at r
        rw [r.2] at hj
        cases hj
        exact (World.cell?_of_block (a := ⟨b, off + j, none⟩) e).trans q.2) (by rw [rowP_len]; omega) (fun v hv => by
        simp only [rowP, List.mem_flatMap, enP] at hv
        obtain ⟨p, _, hv⟩ := hv
        simp at hv
        rcases hv with rfl | rfl <;> rfl)
    rw [hmin] at this
    exact this
  clear hp
  have HB : Hid (_) := (((Below.refl w.heap.size w).alloc (Nat.le_refl _) (.cells #[.int .i64 (c.1 : Int), .int .i64 (c.2 : Int)] 34)).alloc (by simp) (.cells #[.int .i64 0, .int .i64 0, .int .i64 0, .int .i64 0, .int .i64 0, .int .i64 0, .int .i64 0, .int .i64 0, .int .i64 0, .int .i64 0] 206)).alloc (by simp; omega) (.cells #[.int .i64 (c.1 : Int), .int .i64 (c.2 : Int), .int .i64 0, .int .i64 0, .int .i64 0, .int .i64 0, .int .i64 0, .int .i64 0, .int .i64 0, .int .i64 0] 206)
  have CP := CP _ HB.out (w.heap.size + 1 + 1) _ (by
    have := World.alloc_heap_new ((w.alloc (.cells #[.int .i64 (c.1 : Int), .int .i64 (c.2 : Int)] 34)).alloc (.cells #[.int .i64 0, .int .i64 0, .int .i64 0, .int .i64 0, .int .i64 0, .int .i64 0, .int .i64 0, .int .i64 0, .int .i64 0, .int .i64 0] 206)) (.cells #[.int .i64 (c.1 : Int), .int .i64 (c.2 : Int), .int .i64 0, .int .i64 0, .int .i64 0, .int .i64 0, .int .i64 0, .int .i64 0, .int .i64 0, .int .i64 0] 206)
    simpa using this) rfl
  have hz : ((w.alloc (.cells #[.int .i64 (c.1 : Int), .int .i64 (c.2 : Int)] 34)).alloc (.cells #[.int .i64 0, .int .i64 0, .int .i64 0, .int .i64 0, .int .i64 0, .int .i64 0, .int .i64 0, .int .i64 0, .int .i64 0, .int .i64 0] 206)).heap.size = w.heap.size + 1 + 1 := by simp
  have SR := World.setRow_alloc_new ((w.alloc (.cells #[.int .i64 (c.1 : Int), .int .i64 (c.2 : Int)] 34)).alloc (.cells #[.int .i64 0, .int .i64 0, .int .i64 0, .int .i64 0, .int .i64 0, .int .i64 0, .int .i64 0, .int .i64 0, .int .i64 0, .int .i64 0] 206)) #[.int .i64 (c.1 : Int), .int .i64 (c.2 : Int), .int .i64 0, .int .i64 0, .int .i64 0, .int .i64 0, .int .i64 0, .int .i64 0, .int .i64 0, .int .i64 0] (stpV c ps).toArray 206
  rw [hz] at SR
  have hst : (#[Value.int .i64 (c.1 : Int), .int .i64 (c.2 : Int), .int .i64 0, .int .i64 0, .int .i64 0, .int .i64 0, .int .i64 0, .int .i64 0, .int .i64 0, .int .i64 0].toList.take 2 ++ rowP ps ++ #[Value.int .i64 (c.1 : Int), .int .i64 (c.2 : Int), .int .i64 0, .int .i64 0, .int .i64 0, .int .i64 0, .int .i64 0, .int .i64 0, .int .i64 0, .int .i64 0].toList.drop (2 + (rowP ps).length)) = stpV c ps := by
    match ps, h4 with
    | [a], _ => rfl
    | [a, b], _ => rfl
    | [a, b, d], _ => rfl
    | [a, b, d, f], _ => rfl
    | a :: b :: d :: f :: g :: r, h4 => simp at h4
  rw [hst, SR] at CP
  have HB2 : Hid (_) := (((Below.refl w.heap.size w).alloc (Nat.le_refl _) (.cells #[.int .i64 (c.1 : Int), .int .i64 (c.2 : Int)] 34)).alloc (by simp) (.cells #[.int .i64 0, .int .i64 0, .int .i64 0, .int .i64 0, .int .i64 0, .int .i64 0, .int .i64 0, .int .i64 0, .int .i64 0, .int .i64 0] 206)).alloc (by simp; omega) (.cells (stpV c ps).toArray 206)
  have hsv : ∃ x0 x1 x2 x3 x4 x5 x6 x7 x8 x9 : Int, stpV c ps = [.int .i64 x0, .int .i64 x1, .int .i64 x2, .int .i64 x3, .int .i64 x4, .int .i64 x5, .int .i64 x6, .int .i64 x7, .int .i64 x8, .int .i64 x9] := by
    match ps, h4 with
    | [a], _ => exact ⟨_, _, _, _, _, _, _, _, _, _, rfl⟩
    | [a, b], _ => exact ⟨_, _, _, _, _, _, _, _, _, _, rfl⟩
    | [a, b, d], _ => exact ⟨_, _, _, _, _, _, _, _, _, _, rfl⟩
    | [a, b, d, f], _ => exact ⟨_, _, _, _, _, _, _, _, _, _, rfl⟩
    | a :: b :: d :: f :: g :: r, h4 => simp at h4
  obtain ⟨x0, x1, x2, x3, x4, x5, x6, x7, x8, x9, hsv⟩ := hsv
  rw [hsv] at CP HB2 ⊢
  generalize ps.length = n at *
  clear hst SR hsv HB
  go_enter Tryz.func142, Tryz.ntmps142
  go_wp2_with fail
  refine ⟨rfl, .agg #[.int .i64 x0, .int .i64 x1, .int .i64 x2, .int .i64 x3, .int .i64 x4, .int .i64 x5, .int .i64 x6, .int .i64 x7, .int .i64 x8, .int .i64 x9], by simp [results, Tryz.results142, go_sem], rfl, ?_⟩
  exact (((Below.refl w.heap.size w).alloc (Nat.le_refl _) _).alloc (by simp) _).alloc (by simp; omega) _

end Go.Proofs.YtlehlgipbhfioaaGreat
