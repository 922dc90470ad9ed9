/- Package find: hang. -/
import Derived.Test.YtjfekcjhflcnaaaFindA
namespace Go.Proofs.Ytjfekcjhflcnaaa
open Go.RowKit

/-- All blocks but those of S are as they were. -/
structure Kept (S : Nat → Prop) (w w' : World) : Prop where
  os : w'.os = w.os
  tape : w'.tape = w.tape
  output : w'.output = w.output
  size : w.heap.size ≤ w'.heap.size
  block : ∀ k, k < w.heap.size → ¬ S k → w'.heap[k]? = w.heap[k]?

theorem Kept.refl (S : Nat → Prop) (w : World) : Kept S w w := ⟨rfl, rfl, rfl, Nat.le_refl _, fun _ _ _ => rfl⟩
theorem Kept.trans {S : Nat → Prop} {a b c : World} (h : Kept S a b) (k : Kept S b c) : Kept S a c :=
  ⟨k.os.trans h.os, k.tape.trans h.tape, k.output.trans h.output, Nat.le_trans h.size k.size, fun i hi hs => (k.block i (Nat.lt_of_lt_of_le hi h.size) hs).trans (h.block i hi hs)⟩
theorem Kept.mono {S T : Nat → Prop} {w w' : World} (h : Kept S w w') (hst : ∀ k, k < w.heap.size → S k → T k) : Kept T w w' :=
  ⟨h.os, h.tape, h.output, h.size, fun k hk hs => h.block k hk (fun x => hs (hst k hk x))⟩
theorem Kept.drewN {S : Nat → Prop} {a w : World} (h : Kept S a w) (m : Nat) : Kept S a (w.drewN m) := ⟨h.os, h.tape, h.output, h.size, h.block⟩
theorem Kept.drew {S : Nat → Prop} {a w : World} (h : Kept S a w) : Kept S a w.drew := ⟨h.os, h.tape, h.output, h.size, h.block⟩
theorem Kept.setCell {S : Nat → Prop} {a w : World} (h : Kept S a w) {p : Addr} (hp : S p.block) (u : Value) : Kept S a (w.setCell p u) :=
  h.trans ⟨rfl, rfl, rfl, by simp [World.setCell], fun k _ hs => Below.heap_setCell _ _ _ _ (fun e => hs (e ▸ hp))⟩
theorem Kept.alloc {S : Nat → Prop} {a w : World} (h : Kept S a w) (o : Obj) : Kept S a (w.alloc o) :=
  h.trans ⟨rfl, rfl, rfl, by simp, fun k hk _ => Below.heap_alloc _ _ _ hk⟩
theorem Kept.grown {S : Nat → Prop} {a w w' : World} {row : Option Nat} (h : Kept S a w) (hg : w.grownBy w' row) (hr : ∀ k, row = some k → S k) : Kept S a w' :=
  h.trans ⟨hg.os, hg.tape, hg.output, hg.size, fun k hk hs => hg.block k hk (fun e => hs (hr k e.symm))⟩
theorem Kept.below {S : Nat → Prop} {w w' : World} {B : Nat} (h : Kept S w w') (hB : B ≤ w.heap.size) (hs : ∀ k, S k → B ≤ k) : Below B w w' :=
  ⟨h.os, h.tape, h.output, h.size, fun k hk => h.block k (by omega) (fun x => by have := hs k x; omega)⟩

abbrev Kept1 (nb : Nat) (w w' : World) : Prop := Kept (fun k => k = nb) w w'
theorem Kept1.set {nb : Nat} {a w : World} (h : Kept1 nb a w) (o : Nat) (u : Value) : Kept1 nb a (w.setCell ⟨nb, o, none⟩ u) := Kept.setCell h rfl u

theorem Kept1.grownBy {nb : Nat} {w w' : World} (h : Kept1 nb w w') : w.grownBy w' (some nb) :=
  ⟨h.os, h.tape, h.output, h.size, fun k hk hs => h.block k hk (fun e => hs (by rw [e]))⟩

/-- New nodes, all else as it was. -/
theorem Lies.renode {w w' : World} {base p nb n : Nat} {g g' : Uf.G} {jv : Value} {js : List (Nat × Nat)} (h : Lies w base p nb n g jv js) (K : Kept1 nb w w') {f : Nat → Value} (R : w'.rowIs nb 130 (n * 4) f) (hf : ∀ j, j < n * 4 → f j = nodeC g' j) : Lies w' base p nb n g' jv js :=
  ⟨h.sets.of_block (K.block p h.sets.lt h.ne), R.congr hf, h.joins.kept K.grownBy (Or.inr h.jn), h.ne, h.jp, h.jn, h.bp, h.bn, h.small⟩

theorem quarters (j : Nat) : ∃ q, j = q * 4 ∨ j = q * 4 + 1 ∨ j = q * 4 + 2 ∨ j = q * 4 + 3 := ⟨j / 4, by omega⟩

theorem hang_cells (g : Uf.G) (c r : Nat) (hne : c ≠ r) (j : Nat) :
    (if j = r * 4 + 3 then .int .i64 (if (g.N c).lst < (g.N r).lst then ((g.N c).lst : Int) else ((g.N r).lst : Int)) else if j = r * 4 + 2 then .int .i64 ((g.N r).siz + (g.N c).siz : Int) else if j = r * 4 + 1 then .int .i64 ((g.N c).nxt : Int) else if j = c * 4 + 1 then .int .i64 ((g.N r).nxt : Int) else if j = c * 4 then .int .i64 (r : Int) else nodeC g j) = nodeC (Uf.hang g c r) j := by
  obtain ⟨q, hq⟩ := quarters j
  by_cases e1 : q = c
  · subst e1
    rcases hq with rfl | rfl | rfl | rfl
    · rw [if_neg (by omega), if_neg (by omega), if_neg (by omega), if_neg (by omega), if_pos rfl, nodeC_par]; simp [Uf.hang]
    · rw [if_neg (by omega), if_neg (by omega), if_neg (by omega), if_pos rfl, nodeC_nxt]; simp [Uf.hang]
    · rw [if_neg (by omega), if_neg (by omega), if_neg (by omega), if_neg (by omega), if_neg (by omega), nodeC_siz, nodeC_siz]; simp [Uf.hang]
    · rw [if_neg (by omega), if_neg (by omega), if_neg (by omega), if_neg (by omega), if_neg (by omega), nodeC_lst, nodeC_lst]; simp [Uf.hang]
  · by_cases e2 : q = r
    · subst e2
      rcases hq with rfl | rfl | rfl | rfl
      · rw [if_neg (by omega), if_neg (by omega), if_neg (by omega), if_neg (by omega), if_neg (by omega), nodeC_par, nodeC_par]; simp [Uf.hang, e1]
      · rw [if_neg (by omega), if_neg (by omega), if_pos rfl, nodeC_nxt]; simp [Uf.hang, e1]
      · rw [if_neg (by omega), if_pos rfl, nodeC_siz]; simp [Uf.hang, e1]
      · rw [if_pos rfl, nodeC_lst]; simp only [Uf.hang, e1, if_false, if_true]; split <;> (congr 1; omega)
    · have e : (Uf.hang g c r).N q = g.N q := by simp [Uf.hang, e1, e2]
      rcases hq with rfl | rfl | rfl | rfl
      · rw [if_neg (by omega), if_neg (by omega), if_neg (by omega), if_neg (by omega), if_neg (by omega), nodeC_par, nodeC_par, e]
      · rw [if_neg (by omega), if_neg (by omega), if_neg (by omega), if_neg (by omega), if_neg (by omega), nodeC_nxt, nodeC_nxt, e]
      · rw [if_neg (by omega), if_neg (by omega), if_neg (by omega), if_neg (by omega), if_neg (by omega), nodeC_siz, nodeC_siz, e]
      · rw [if_neg (by omega), if_neg (by omega), if_neg (by omega), if_neg (by omega), if_neg (by omega), nodeC_lst, nodeC_lst, e]

set_option maxHeartbeats 1000000 in
theorem hang_in (w : World) (base p nb n : Nat) (g : Uf.G) (jv : Value) (js : List (Nat × Nat)) (h : Lies w base p nb n g jv js) (c r : Nat) (hc : c < n) (hr : r < n) (hne : c ≠ r)
    (hsz : (g.N r).siz + (g.N c).siz ≤ 100000) :
    Calls Try.prog 77 #[.pointer (some ⟨p, 0, none⟩), .int .i64 c, .int .i64 r] w fun e w' => e = .returned (.tuple #[]) ∧ Lies w' base p nb n (Uf.hang g c r) jv js ∧ Kept1 nb w w' := by
  have c0 := h.c0
  have hn := h.small
  have x0 := h.par hc
  have x1 := h.nxt hc
  have y1 := h.nxt hr
  have fx0 := h.nodes.frozen (c * 4)
  have fx1 := h.nodes.frozen (c * 4 + 1)
  have fy1 := h.nodes.frozen (r * 4 + 1)
  have e1 : ¬ (c * 4 = r * 4 + 1) := by omega
  have e2 : ¬ (c * 4 + 1 = r * 4 + 1) := by omega
  have e3 : ¬ (c = r) := hne
  go_enter Try.func77, Try.ntmps77
  go_wp2_with fail
  go_quiet (fail)
  go_wp2_with fail
  go_region
  generalize hw1 : (((w.drewN (nq + 1)).setCell ⟨nb, c * 4, none⟩ (.int .i64 (r : Int))).setCell ⟨nb, c * 4 + 1, none⟩ (.int .i64 ((g.N r).nxt : Int))).setCell ⟨nb, r * 4 + 1, none⟩ (.int .i64 ((g.N c).nxt : Int)) = w1
  have R1 : w1.rowIs nb 130 (n * 4) (fun j => if j = r * 4 + 1 then .int .i64 ((g.N c).nxt : Int) else if j = c * 4 + 1 then .int .i64 ((g.N r).nxt : Int) else if j = c * 4 then .int .i64 (r : Int) else nodeC g j) := by
    rw [← hw1]; exact ((h.drewN.nodes.set _ _).set _ _).set _ _
  have K1 : Kept1 nb w w1 := by
    rw [← hw1]; exact Kept1.set (Kept1.set (Kept1.set ((Kept.refl _ w).drewN _) _ _) _ _) _ _
  have x2 : w1.cell? ⟨nb, c * 4 + 2, none⟩ = some (.int .i64 ((g.N c).siz : Int)) := by
    rw [R1.cell (i := c * 4 + 2) (by omega), if_neg (by omega), if_neg (by omega), if_neg (by omega), nodeC_siz]
  have y2 : w1.cell? ⟨nb, r * 4 + 2, none⟩ = some (.int .i64 ((g.N r).siz : Int)) := by
    rw [R1.cell (i := r * 4 + 2) (by omega), if_neg (by omega), if_neg (by omega), if_neg (by omega), nodeC_siz]
  have fy2 := R1.frozen (r * 4 + 2)
  clear x0 x1 y1 fx0 fx1 fy1 hw1 e1 e2 c0
  go_wp2_with fail
  go_region
  generalize hw2 : (w1.setCell ⟨nb, r * 4 + 2, none⟩ (.int .i64 ((g.N r).siz + (g.N c).siz : Int))).drew = w2
  have R2 := (R1.set (r * 4 + 2) (.int .i64 ((g.N r).siz + (g.N c).siz : Int))).drew
  have K2 := (Kept1.set K1 (r * 4 + 2) (.int .i64 ((g.N r).siz + (g.N c).siz : Int))).drew
  rw [hw2] at R2 K2
  have x3 : w2.cell? ⟨nb, c * 4 + 3, none⟩ = some (.int .i64 ((g.N c).lst : Int)) := by
    rw [R2.cell (i := c * 4 + 3) (by omega), if_neg (by omega), if_neg (by omega), if_neg (by omega), if_neg (by omega), nodeC_lst]
  have y3 : w2.cell? ⟨nb, r * 4 + 3, none⟩ = some (.int .i64 ((g.N r).lst : Int)) := by
    rw [R2.cell (i := r * 4 + 3) (by omega), if_neg (by omega), if_neg (by omega), if_neg (by omega), if_neg (by omega), nodeC_lst]
  have fy3 := R2.frozen (r * 4 + 3)
  clear x2 y2 fy2 hw2 K1 R1
  go_wp2_with fail
  go_region
  have R3 := (R2.set (r * 4 + 3) (.int .i64 (if (g.N c).lst < (g.N r).lst then ((g.N c).lst : Int) else ((g.N r).lst : Int)))).drew
  have K3 := (Kept1.set K2 (r * 4 + 3) (.int .i64 (if (g.N c).lst < (g.N r).lst then ((g.N c).lst : Int) else ((g.N r).lst : Int)))).drew
  go_end0
  exact ⟨rfl, h.renode K3 R3 (fun j _ => hang_cells g c r hne j), K3⟩

end Go.Proofs.Ytjfekcjhflcnaaa
