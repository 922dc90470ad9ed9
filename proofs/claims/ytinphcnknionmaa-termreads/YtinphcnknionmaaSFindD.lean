/- Package find: New, unhang. -/
import Derived.Test.YtinphcnknionmaaSFindC
namespace Go.Proofs.Ytinphcnknionmaa
open Go.RowKit

set_option maxHeartbeats 400000 in
theorem New_no (w : World) (n : Int) (h : n < 0 ∨ 100000 < n) :
    Calls Try.prog 24 #[.int .i64 n] w fun e w' => e = .returned (.pointer none) ∧ w = w' := by
  rcases h with h | h
  · go_enter Try.func24, Try.ntmps24
    go_wp2
    go_ret
    exact ⟨rfl, rfl⟩
  · have h' : ¬ n < 0 := by omega
    go_enter Try.func24, Try.ntmps24
    go_wp2
    go_ret
    exact ⟨rfl, rfl⟩

theorem infoNode : (Try.prog.info? 130).map (fun i => (i.zero, i.size, i.bytes)) = some (some (.agg #[.int .i64 0, .int .i64 0, .int .i64 0, .int .i64 0]), 4, 32) := by kernel_rfl

theorem made_row (w : World) (C : Array Value) (t : TypeId) : (w.alloc (.cells C t)).rowIs w.heap.size t C.size (fun i => C[i]?.getD undef) :=
  World.rowIs_alloc w C t _ (fun i hi => by rw [Array.getElem?_eq_getElem hi]; rfl)

theorem box_row (w : World) (x y : Value) (t : TypeId) : (w.alloc (.cells #[x, y] t)).rowIs w.heap.size t 2 (fun j => if j = 0 then x else y) :=
  (made_row w #[x, y] t).congr fun i hi => match i, hi with
    | 0, _ => rfl
    | 1, _ => rfl

theorem new_cells (k : Nat) (f : Nat → Value) (hf : ∀ j, j < k * 4 → f j = nodeC Uf.g0 j) : ∀ j, j < (k + 1) * 4 →
    (if j = k * 4 + 3 then Value.int .i64 (k : Int) else if j = k * 4 + 2 then .int .i64 1 else if j = k * 4 + 1 then .int .i64 (k : Int) else if j = k * 4 then .int .i64 (k : Int) else f j) = nodeC Uf.g0 j := by
  intro j hj
  by_cases h3 : j = k * 4 + 3
  · rw [if_pos h3, h3, nodeC_lst]; rfl
  · by_cases h2 : j = k * 4 + 2
    · rw [if_neg h3, if_pos h2, h2, nodeC_siz]; rfl
    · by_cases h1 : j = k * 4 + 1
      · rw [if_neg h3, if_neg h2, if_pos h1, h1, nodeC_nxt]; rfl
      · by_cases h0 : j = k * 4
        · rw [if_neg h3, if_neg h2, if_neg h1, if_pos h0, h0, nodeC_par]; rfl
        · rw [if_neg h3, if_neg h2, if_neg h1, if_neg h0]; exact hf j (by omega)

set_option maxHeartbeats 400000 in
theorem New_in (w : World) (n : Nat) (hn : n ≤ 100000) :
    Calls Try.prog 24 #[.int .i64 n] w fun e w' => e = .returned (.pointer (some ⟨w.heap.size + 1, 0, none⟩)) ∧ Lies w' w.heap.size (w.heap.size + 1) w.heap.size n Uf.g0 (.slice none 0 0) [] ∧ Below w.heap.size w w' := by
  obtain ⟨i0, hi0, hz0, hz1, hz2⟩ := info_parts infoNode
  obtain ⟨C, hC, hm1⟩ : ∃ C : Array Value, C.size = n * 4 ∧ (Instr.makeSlice 125 (.int .i64 (n : Int)) (.int .i64 (n : Int))).run Try.prog w = .ok (.slice (some ⟨w.heap.size, 0, none⟩) n n) (w.alloc (.cells C 130)) := by
    have hmk := run_make (P := Try.prog) w 125 130 i0 _ Try.underlying125 hi0 hz0 .i64 .i64 (n : Int) (n : Int) (by omega) (Int.le_refl _) (by rw [hz2]; omega) (by omega)
    simp only [Int.toNat_natCast] at hmk
    exact ⟨_, by rw [size_madeCells, hz1], hmk⟩
  clear hi0 hz0 hz1 hz2 
  have h0 : ¬ (n : Int) < 0 := by omega
  have h1 : ¬ (100000 : Int) < (n : Int) := by omega
  have HC : Hid (C.size = n * 4) := hC
  clear hC
  go_enter Try.func24, Try.ntmps24
  go_wp2
  clear hm1 h0 h1
  go_loopw [20] (fun t wr => ∃ k : Nat, k ≤ n ∧ t = .int .i64 k ∧ (∃ f, wr.rowIs w.heap.size 130 (n * 4) f ∧ Hid (∀ j, j < k * 4 → f j = nodeC Uf.g0 j)) ∧ wr.rowIs (w.heap.size + 1) 128 2 (setsC w.heap.size n (.slice none 0 0)) ∧ Hid (Below w.heap.size w wr)) (fun t _ => n - (intOf t).toNat)
  case atStart =>
    refine ⟨0, Nat.zero_le _, rfl, ⟨(fun i => C[i]?.getD undef), ?_, (fun j hj => absurd hj (by omega))⟩, ?_, ?_⟩
    · have := made_row w C 130
      rw [HC.out] at this
      exact this.alloc _
    · have := made_row (w.alloc (.cells C 130)) #[.slice (some ⟨w.heap.size, 0, none⟩) n n, .slice none 0 0] 128
      rw [World.size_alloc] at this
      refine this.congr ?_
      intro i hi
      match i, hi with
      | 0, _ => rfl
      | 1, _ => rfl
    · exact ((Below.refl _ _).alloc (Nat.le_refl _) _).alloc (by simp) _
  case round =>
    obtain ⟨k, hk, rfl, ⟨f, hf, hfk⟩, hs, hB⟩ := hrel
    have c0 : wr.cell? ⟨w.heap.size + 1, 0, none⟩ = some (.slice (some ⟨w.heap.size, 0, none⟩) n n) := hs.cell (by omega)
    have hHf : Hid (wr.rowIs w.heap.size 130 (n * 4) f) := hf
    by_cases hlt : k < n
    · have x0 : wr.cell? ⟨w.heap.size, k * 4, none⟩ = some (f (k * 4)) := hf.cell (by omega)
      have x1 : wr.cell? ⟨w.heap.size, k * 4 + 1, none⟩ = some (f (k * 4 + 1)) := hf.cell (by omega)
      have x2 : wr.cell? ⟨w.heap.size, k * 4 + 2, none⟩ = some (f (k * 4 + 2)) := hf.cell (by omega)
      have x3 : wr.cell? ⟨w.heap.size, k * 4 + 3, none⟩ = some (f (k * 4 + 3)) := hf.cell (by omega)
      have y0 := hf.frozen (k * 4)
      have y1 := hf.frozen (k * 4 + 1)
      have y2 := hf.frozen (k * 4 + 2)
      have y3 := hf.frozen (k * 4 + 3)
      have Hs : Hid (wr.rowIs (w.heap.size + 1) 128 2 (setsC w.heap.size n (.slice none 0 0))) := hs
      clear hf hs
      go_wp2
      go_roundw
      case rel =>
        exact ⟨k + 1, by omega, by go_num, ⟨_, (((hHf.out.set _ _).set _ _).set _ _).set _ _, new_cells k f hfk.out⟩, (((Hs.out.setOther (by show _ ≠ w.heap.size; omega) _).setOther (by show _ ≠ w.heap.size; omega) _).setOther (by show _ ≠ w.heap.size; omega) _).setOther (by show _ ≠ w.heap.size; omega) _, (((hB.out.setCell (Nat.le_refl _) _).setCell (Nat.le_refl _) _).setCell (Nat.le_refl _) _).setCell (Nat.le_refl _) _⟩
      case measure => simp [intOf]; omega
    · clear hf
      go_wp2
      go_ret
      obtain rfl : k = n := by omega
      exact ⟨rfl, ⟨hs, hHf.out.congr hfk.out, World.ownsRow_nil _ _ _ _, by omega, by simp [Value.ownBlock], by simp [Value.ownBlock], by omega, Nat.le_refl _, hn⟩, hB.out⟩

theorem Lies.alloc {w : World} {base p nb n : Nat} {g : Uf.G} {jv : Value} {js : List (Nat × Nat)} (h : Lies w base p nb n g jv js) (O : Obj) : Lies (w.alloc O) base p nb n g jv js :=
  ⟨h.sets.alloc O, h.nodes.alloc O, h.joins.alloc O, h.ne, h.jp, h.jn, h.bp, h.bn, h.small⟩

/-- Nodes whose cells are just integers. -/
def intC (F : Nat → Int) (j : Nat) : Value := .int .i64 (F j)

def cutF (F : Nat → Int) (c r : Nat) (l : Int) (j : Nat) : Int :=
  if j = r * 4 + 3 then l else if j = r * 4 + 2 then wrap64 (F (r * 4 + 2) - F (c * 4 + 2)) else if j = r * 4 + 1 then F (c * 4 + 1) else if j = c * 4 + 1 then F (r * 4 + 1) else if j = c * 4 then (c : Int) else F j

set_option maxHeartbeats 1000000 in
theorem unhang_gen (w : World) (p nb n : Nat) (F : Nat → Int) (c0 : w.cell? ⟨p, 0, none⟩ = some (.slice (some ⟨nb, 0, none⟩) n n)) (hN : w.rowIs nb 130 (n * 4) (intC F)) (_hn : n ≤ 100000) (c r : Nat) (hc : c < n) (hr : r < n) (hne : c ≠ r) (hF : F (c * 4) = (r : Int)) (l : Int) :
    Calls Try.prog 82 #[.pointer (some ⟨p, 0, none⟩), .agg #[.int .i64 c, .int .i64 l]] w fun e w' => e = .returned (.tuple #[]) ∧ w'.rowIs nb 130 (n * 4) (intC (cutF F c r l)) ∧ Kept1 nb w w' := by
  have plt := World.block_lt_of_cell? _ _ c0
  simp only at plt
  have nlt := hN.lt
  have x0 : w.cell? ⟨nb, c * 4, none⟩ = some (.int .i64 (r : Int)) := by rw [← hF]; exact hN.cell (by omega)
  have x1 : w.cell? ⟨nb, c * 4 + 1, none⟩ = some (.int .i64 (F (c * 4 + 1))) := hN.cell (by omega)
  have y1 : w.cell? ⟨nb, r * 4 + 1, none⟩ = some (.int .i64 (F (r * 4 + 1))) := hN.cell (by omega)
  have fx0 := hN.frozen (c * 4)
  have fx1 := hN.frozen (c * 4 + 1)
  have fy1 := hN.frozen (r * 4 + 1)
  have e1 : ¬ (c * 4 = r * 4 + 1) := by omega
  have e2 : ¬ (c * 4 + 1 = r * 4 + 1) := by omega
  have e3 : ¬ (c = r) := hne
  have HF : Hid (F (c * 4) = (r : Int)) := hF
  have HN : Hid (w.rowIs nb 130 (n * 4) (intC F)) := hN
  clear hF hN
  obtain ⟨cx, hcx⟩ : ∃ z, F (c * 4 + 1) = z := ⟨_, rfl⟩
  obtain ⟨rx, hrx⟩ : ∃ z, F (r * 4 + 1) = z := ⟨_, rfl⟩
  rw [hcx] at x1
  rw [hrx] at y1
  have HX : Hid (F (c * 4 + 1) = cx ∧ F (r * 4 + 1) = rx) := ⟨hcx, hrx⟩
  clear hcx hrx
  go_enter Try.func82, Try.ntmps82
  go_wp2_with fail
  go_quiet (fail)
  generalize nq = nq1
  go_wp2_with fail
  go_quiet (fail)
  go_wp2_with fail
  go_region
  have h' := HN.out.alloc (.cells #[.int .i64 (c : Int), .int .i64 l] 135)
  have hbox := box_row w (.int .i64 (c : Int)) (.int .i64 l) 135
  have K0 : Kept1 nb w (w.alloc (.cells #[.int .i64 (c : Int), .int .i64 l] 135)) := (Kept.refl _ w).alloc _
  have hbn : w.heap.size ≠ nb := by omega
  generalize (w.alloc (.cells #[.int .i64 (c : Int), .int .i64 l] 135)) = w0 at *
  generalize hw1 : (((w0.drewN (nq1 + nq + 1)).setCell ⟨nb, c * 4, none⟩ (.int .i64 (c : Int))).setCell ⟨nb, c * 4 + 1, none⟩ (.int .i64 rx)).setCell ⟨nb, r * 4 + 1, none⟩ (.int .i64 cx) = w1
  have R1 : w1.rowIs nb 130 (n * 4) (fun j => if j = r * 4 + 1 then .int .i64 cx else if j = c * 4 + 1 then .int .i64 rx else if j = c * 4 then .int .i64 (c : Int) else intC F j) := by
    rw [← hw1]; exact ((World.rowIs.set (w := w0.drewN (nq1 + nq + 1)) h' _ _).set _ _).set _ _
  have K1 : Kept1 nb w w1 := by
    rw [← hw1]; exact Kept1.set (Kept1.set (Kept1.set (K0.drewN _) _ _) _ _) _ _
  have B1 : w1.rowIs w.heap.size 135 2 (fun j => if j = 0 then .int .i64 (c : Int) else .int .i64 l) := by
    rw [← hw1]; exact ((World.rowIs.setOther (w := w0.drewN (nq1 + nq + 1)) hbox hbn _).setOther hbn _).setOther hbn _
  obtain ⟨cs, hcs⟩ : ∃ z, F (c * 4 + 2) = z := ⟨_, rfl⟩
  obtain ⟨rs, hrs⟩ : ∃ z, F (r * 4 + 2) = z := ⟨_, rfl⟩
  have x2 : w1.cell? ⟨nb, c * 4 + 2, none⟩ = some (.int .i64 cs) := by
    rw [R1.cell (i := c * 4 + 2) (by omega), if_neg (by omega), if_neg (by omega), if_neg (by omega), intC, hcs]
  have y2 : w1.cell? ⟨nb, r * 4 + 2, none⟩ = some (.int .i64 rs) := by
    rw [R1.cell (i := r * 4 + 2) (by omega), if_neg (by omega), if_neg (by omega), if_neg (by omega), intC, hrs]
  have HS : Hid (F (c * 4 + 2) = cs ∧ F (r * 4 + 2) = rs) := ⟨hcs, hrs⟩
  have fy2 := R1.frozen (r * 4 + 2)
  clear x0 x1 y1 fx0 fx1 fy1 hw1 e1 e2 c0 hbox h' K0 hcs hrs HN
  go_wp2_with fail
  go_region
  generalize hw2 : (w1.setCell ⟨nb, r * 4 + 2, none⟩ (.int .i64 (wrap64 (rs - cs)))).drew = w2
  have R2 := (R1.set (r * 4 + 2) (.int .i64 (wrap64 (rs - cs)))).drew
  have K2 := (Kept1.set K1 (r * 4 + 2) (.int .i64 (wrap64 (rs - cs)))).drew
  have B2 := (B1.setOther (a := ⟨nb, r * 4 + 2, none⟩) hbn (.int .i64 (wrap64 (rs - cs)))).drew
  rw [hw2] at R2 K2 B2
  have bl : w2.cell? ⟨w.heap.size, 1, none⟩ = some (.int .i64 l) := B2.cell (i := 1) (by omega)
  have y3 : w2.cell? ⟨nb, r * 4 + 3, none⟩ = some (.int .i64 (F (r * 4 + 3))) := by
    rw [R2.cell (i := r * 4 + 3) (by omega), if_neg (by omega), if_neg (by omega), if_neg (by omega), if_neg (by omega)]; rfl
  have fy3 := R2.frozen (r * 4 + 3)
  clear x2 y2 fy2 hw2 K1 R1 B1 B2
  go_wp2
  have R3 := R2.set (r * 4 + 3) (.int .i64 l)
  have K3 := Kept1.set K2 (r * 4 + 3) (.int .i64 l)
  go_end0
  refine ⟨rfl, R3.congr fun j _ => ?_, K3⟩
  unfold intC cutF
  rw [HX.out.1, HX.out.2, HS.out.1, HS.out.2]
  repeat' split
  all_goals rfl

set_option maxHeartbeats 1000000 in
theorem unhang_self (w : World) (p nb n : Nat) (F : Nat → Int) (c0 : w.cell? ⟨p, 0, none⟩ = some (.slice (some ⟨nb, 0, none⟩) n n)) (hN : w.rowIs nb 130 (n * 4) (intC F)) (_hn : n ≤ 100000) (c : Nat) (hc : c < n) (hF : F (c * 4) = (c : Int)) (l : Int) :
    Calls Try.prog 82 #[.pointer (some ⟨p, 0, none⟩), .agg #[.int .i64 c, .int .i64 l]] w fun e w' => e = .returned (.tuple #[]) ∧ (∃ F' : Nat → Int, w'.rowIs nb 130 (n * 4) (intC F') ∧ ∀ i, F' (i * 4) = F (i * 4)) ∧ Kept1 nb w w' := by
  have plt := World.block_lt_of_cell? _ _ c0
  simp only at plt
  have nlt := hN.lt
  have x0 : w.cell? ⟨nb, c * 4, none⟩ = some (.int .i64 (c : Int)) := by rw [← hF]; exact hN.cell (by omega)
  have x1 : w.cell? ⟨nb, c * 4 + 1, none⟩ = some (.int .i64 (F (c * 4 + 1))) := hN.cell (by omega)
  have fx0 := hN.frozen (c * 4)
  have fx1 := hN.frozen (c * 4 + 1)
  have e1 : ¬ (c * 4 = c * 4 + 1) := by omega
  have HF : Hid (F (c * 4) = (c : Int)) := hF
  have HN : Hid (w.rowIs nb 130 (n * 4) (intC F)) := hN
  clear hF hN
  obtain ⟨cx, hcx⟩ : ∃ z, F (c * 4 + 1) = z := ⟨_, rfl⟩
  rw [hcx] at x1
  have HX : Hid (F (c * 4 + 1) = cx) := hcx
  clear hcx
  go_enter Try.func82, Try.ntmps82
  go_wp2_with fail
  go_quiet (fail)
  generalize nq = nq1
  go_wp2_with fail
  go_quiet (fail)
  go_wp2_with fail
  go_region
  have h' := HN.out.alloc (.cells #[.int .i64 (c : Int), .int .i64 l] 135)
  have hbox := box_row w (.int .i64 (c : Int)) (.int .i64 l) 135
  have K0 : Kept1 nb w (w.alloc (.cells #[.int .i64 (c : Int), .int .i64 l] 135)) := (Kept.refl _ w).alloc _
  have hbn : w.heap.size ≠ nb := by omega
  generalize (w.alloc (.cells #[.int .i64 (c : Int), .int .i64 l] 135)) = w0 at *
  generalize hw1 : (((w0.drewN (nq1 + nq + 1)).setCell ⟨nb, c * 4, none⟩ (.int .i64 (c : Int))).setCell ⟨nb, c * 4 + 1, none⟩ (.int .i64 cx)).setCell ⟨nb, c * 4 + 1, none⟩ (.int .i64 cx) = w1
  have R1 : w1.rowIs nb 130 (n * 4) (fun j => if j = c * 4 + 1 then .int .i64 cx else if j = c * 4 + 1 then .int .i64 cx else if j = c * 4 then .int .i64 (c : Int) else intC F j) := by
    rw [← hw1]; exact ((World.rowIs.set (w := w0.drewN (nq1 + nq + 1)) h' _ _).set _ _).set _ _
  have K1 : Kept1 nb w w1 := by
    rw [← hw1]; exact Kept1.set (Kept1.set (Kept1.set (K0.drewN _) _ _) _ _) _ _
  have B1 : w1.rowIs w.heap.size 135 2 (fun j => if j = 0 then .int .i64 (c : Int) else .int .i64 l) := by
    rw [← hw1]; exact ((World.rowIs.setOther (w := w0.drewN (nq1 + nq + 1)) hbox hbn _).setOther hbn _).setOther hbn _
  have x2 : w1.cell? ⟨nb, c * 4 + 2, none⟩ = some (.int .i64 (F (c * 4 + 2))) := by
    rw [R1.cell (i := c * 4 + 2) (by omega), if_neg (by omega), if_neg (by omega), if_neg (by omega), intC]
  have fy2 := R1.frozen (c * 4 + 2)
  clear x0 x1 fx0 fx1 hw1 e1 c0 hbox h' K0 HN
  go_wp2_with fail
  go_region
  generalize hw2 : (w1.setCell ⟨nb, c * 4 + 2, none⟩ (.int .i64 0)).drew = w2
  have R2 := (R1.set (c * 4 + 2) (.int .i64 0)).drew
  have K2 := (Kept1.set K1 (c * 4 + 2) (.int .i64 0)).drew
  have B2 := (B1.setOther (a := ⟨nb, c * 4 + 2, none⟩) hbn (.int .i64 0)).drew
  rw [hw2] at R2 K2 B2
  have bl : w2.cell? ⟨w.heap.size, 1, none⟩ = some (.int .i64 l) := B2.cell (i := 1) (by omega)
  have y3 : w2.cell? ⟨nb, c * 4 + 3, none⟩ = some (.int .i64 (F (c * 4 + 3))) := by
    rw [R2.cell (i := c * 4 + 3) (by omega), if_neg (by omega), if_neg (by omega), if_neg (by omega), if_neg (by omega)]; rfl
  have fy3 := R2.frozen (c * 4 + 3)
  clear x2 fy2 hw2 K1 R1 B1 B2
  go_wp2
  have R3 := R2.set (c * 4 + 3) (.int .i64 l)
  have K3 := Kept1.set K2 (c * 4 + 3) (.int .i64 l)
  go_end0
  refine ⟨rfl, ⟨fun j => if j = c * 4 + 3 then l else if j = c * 4 + 2 then 0 else if j = c * 4 + 1 then cx else if j = c * 4 + 1 then cx else if j = c * 4 then (c : Int) else F j, R3.congr fun j _ => ?_, fun i => ?_⟩, K3⟩
  · unfold intC
    dsimp only
    repeat' split
    all_goals rfl
  · dsimp only
    by_cases e : i = c
    · subst e; simp only [if_neg (show ¬ i * 4 = i * 4 + 3 by omega), if_neg (show ¬ i * 4 = i * 4 + 2 by omega), if_neg (show ¬ i * 4 = i * 4 + 1 by omega), if_true]; exact HF.out.symm
    · rw [if_neg (by omega), if_neg (by omega), if_neg (by omega), if_neg (by omega), if_neg (by omega)]

theorem unhang_cells (g : Uf.G) (c r : Nat) (hne : c ≠ r) (hc : (g.N c).par = c) (j : Nat) :
    (if j = r * 4 + 3 then .int .i64 ((g.N r).lst : Int) else if j = r * 4 + 2 then .int .i64 ((g.N r).siz : Int) else if j = r * 4 + 1 then .int .i64 ((g.N r).nxt : Int) else if j = c * 4 + 1 then .int .i64 ((g.N c).nxt : Int) else if j = c * 4 then .int .i64 (c : Int) else nodeC (Uf.hang g c r) j) = nodeC g j := by
  rw [← hang_cells g c r hne j]
  by_cases h1 : j = r * 4 + 3
  · rw [if_pos h1, h1, nodeC_lst]
  · by_cases h2 : j = r * 4 + 2
    · rw [if_neg h1, if_pos h2, h2, nodeC_siz]
    · by_cases h3 : j = r * 4 + 1
      · rw [if_neg h1, if_neg h2, if_pos h3, h3, nodeC_nxt]
      · by_cases h4 : j = c * 4 + 1
        · rw [if_neg h1, if_neg h2, if_neg h3, if_pos h4, h4, nodeC_nxt]
        · by_cases h5 : j = c * 4
          · rw [if_neg h1, if_neg h2, if_neg h3, if_neg h4, if_pos h5, h5, nodeC_par, hc]
          · rw [if_neg h1, if_neg h2, if_neg h3, if_neg h4, if_neg h5, if_neg h1, if_neg h2, if_neg h3, if_neg h4, if_neg h5]

theorem wrap64_small (a : Int) (h0 : -1000000 ≤ a) (h1 : a ≤ 1000000) : wrap64 a = a := by unfold wrap64; omega

/-- What a take-back makes of the nodes, whatever they are; and of a join's. -/
structure Cut (n : Nat) (F F' : Nat → Int) (c : Nat) (l : Int) : Prop where
  par : ∀ i, i < n → ∃ q : Nat, q < n ∧ F' (i * 4) = (q : Int)
  good : ∀ (g : Uf.G) (r : Nat), c ≠ r → r < n → (g.N c).par = c → l = ((g.N r).lst : Int) → (g.N r).siz + (g.N c).siz ≤ 100000 → (∀ j, j < n * 4 → intC F j = nodeC (Uf.hang g c r) j) → ∀ j, j < n * 4 → intC F' j = nodeC g j

theorem unhang_any (w : World) (p nb n : Nat) (F : Nat → Int) (c0 : w.cell? ⟨p, 0, none⟩ = some (.slice (some ⟨nb, 0, none⟩) n n)) (hN : w.rowIs nb 130 (n * 4) (intC F)) (hn : n ≤ 100000) (hpar : ∀ i, i < n → ∃ q : Nat, q < n ∧ F (i * 4) = (q : Int)) (c : Nat) (hc : c < n) (l : Int) :
    Calls Try.prog 82 #[.pointer (some ⟨p, 0, none⟩), .agg #[.int .i64 c, .int .i64 l]] w fun e w' => e = .returned (.tuple #[]) ∧ (∃ F', w'.rowIs nb 130 (n * 4) (intC F') ∧ Cut n F F' c l) ∧ Kept1 nb w w' := by
  obtain ⟨q, hq, hFq⟩ := hpar c hc
  by_cases e : c = q
  · subst e
    refine (unhang_self w p nb n F c0 hN hn c hc hFq l).mono ?_
    rintro e w' ⟨he, ⟨F', h1, h2⟩, hk⟩
    refine ⟨he, ⟨F', h1, ⟨fun i hi => by rw [h2]; exact hpar i hi, ?_⟩⟩, hk⟩
    intro g r hne hr hcc hl hsz hall
    have := hall (c * 4) (by omega)
    rw [nodeC_par] at this
    simp [intC, hFq, Uf.hang] at this
    omega
  · refine (unhang_gen w p nb n F c0 hN hn c q hc hq e hFq l).mono ?_
    rintro e' w' ⟨he, h1, hk⟩
    refine ⟨he, ⟨_, h1, ⟨?_, ?_⟩⟩, hk⟩
    · intro i hi
      by_cases ei : i = c
      · subst ei
        refine ⟨i, hi, ?_⟩
        unfold cutF
        rw [if_neg (by omega), if_neg (by omega), if_neg (by omega), if_neg (by omega), if_pos rfl]
      · unfold cutF
        rw [if_neg (by omega), if_neg (by omega), if_neg (by omega), if_neg (by omega), if_neg (by omega)]
        exact hpar i hi
    · intro g r hne hr hcc hl hsz hall j hj
      have e0 := hall (c * 4) (by omega)
      rw [nodeC_par] at e0
      simp [intC, hFq, Uf.hang] at e0
      obtain rfl : q = r := by omega
      have e1 := hall (c * 4 + 1) (by omega)
      rw [nodeC_nxt] at e1
      have e2 := hall (c * 4 + 2) (by omega)
      rw [nodeC_siz] at e2
      have f1 := hall (q * 4 + 1) (by omega)
      rw [nodeC_nxt] at f1
      have f2 := hall (q * 4 + 2) (by omega)
      rw [nodeC_siz] at f2
      simp [intC, Uf.hang] at e1 e2
      simp [intC, Uf.hang, Ne.symm hne] at f1 f2
      rw [← unhang_cells g c q hne hcc j, ← hall j hj]
      unfold intC cutF
      rw [e1, e2, f1, f2, hl, wrap64_small _ (by omega) (by omega)]
      rw [show ((g.N q).siz + (g.N c).siz : Int) - ((g.N c).siz : Int) = ((g.N q).siz : Int) from by omega]
      repeat' split
      all_goals rfl

end Go.Proofs.Ytinphcnknionmaa
