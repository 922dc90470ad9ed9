/- Package term: clear of the end of a row of entries. -/
import Derived.Test.YtjfekcjhflcnaaaTermI
import Derived.Lib.SliceRun
namespace Go.Proofs.Ytjfekcjhflcnaaa
open Go.RowKit Go.Maps

/-- A row by what is ahead of its cut. -/
def RowTo (w : World) (base g cap k : Nat) (xs : List Value) : Prop :=
  ∃ cur, base ≤ g ∧ w.heap[g]? = some (.cells cur 124 (0, 0)) ∧ cap ≤ maxLen ∧ cur.size = cap * 6 ∧ cur.toList.take (k * 6) = xs

theorem RowTo.owns {w : World} {base g cap k : Nat} {xs : List Value} (h : RowTo w base g cap k xs) (hk : k ≤ cap) : w.ownsRow base 124 6 (.slice (some ⟨g, 0, none⟩) k cap) k xs := by
  obtain ⟨cur, h1, h2, h3, h4, h5⟩ := h
  refine ⟨?_, Or.inr ⟨g, cap, cur, rfl, h1, h2, hk, h3, h4, h5⟩⟩
  rw [← h5, List.length_take]
  simp [h4]
  omega

theorem RowTo.of {w : World} {base g cap n : Nat} {xs : List Value} (h : w.ownsRow base 124 6 (.slice (some ⟨g, 0, none⟩) n cap) n xs) {k : Nat} (hk : k ≤ n) : RowTo w base g cap k (xs.take (k * 6)) ∧ n ≤ cap := by
  rcases h.2 with ⟨e, _⟩ | ⟨g', cap', cur, e, h1, h2, h3, h4, h5, h6⟩
  · cases e
  · injection e with e1 e2 e3
    injection e1 with e1
    injection e1 with e1 _ _
    subst e1
    subst e3
    refine ⟨⟨cur, h1, h2, h4, h5, ?_⟩, h3⟩
    rw [← h6, List.take_take]
    congr 1
    omega

theorem RowTo.set {w : World} {base g cap k : Nat} {xs : List Value} (h : RowTo w base g cap k xs) {o : Nat} (ho : k * 6 ≤ o) (u : Value) : RowTo (w.setCell ⟨g, o, none⟩ u) base g cap k xs := by
  obtain ⟨cur, h1, h2, h3, h4, h5⟩ := h
  refine ⟨cur.setIfInBounds o u, h1, ?_, h3, by simpa using h4, ?_⟩
  · rw [setCell_eq_setRow w g o cur _ (0, 0) _ h2, setRow_heap w g _ _ _ _ h2]
  · rw [← h5]
    simp [List.take_set]
    rw [List.set_eq_of_length_le]
    simp
    omega

theorem RowTo.sets {base g cap k : Nat} {xs : List Value} : ∀ (vs : List Value) (o : Nat) (w : World), RowTo w base g cap k xs → k * 6 ≤ o → RowTo (w.setCells g o vs) base g cap k xs
  | [], _, _, h, _ => h
  | v :: vs, o, w, h, ho => RowTo.sets vs (o + 1) (w.setCell ⟨g, o, none⟩ v) (h.set ho v) (by omega)

/-- 'clear(s)' of elements of several cells. -/
theorem run_clear_many {P : Program} (w : World) (t e ty : TypeId) (z : Value) (ht : P.underlying t = some (.slice e)) (hv : ∀ w, (zeroValue e).run P w = .ok z w) (b o n c : Nat) (hn : 0 < n) (vs : List Value) (hvs : (Builtin.zeroCells z.cells n).toList = vs) (h1 : ∀ v ∈ vs, v.oneCell' = true)
    (hc : ∀ j, j < vs.length → (w.cell? ⟨b, o + j, none⟩).isSome = true) (hf : ∀ j, j < vs.length → w.frozen? ⟨b, o + j, none⟩ = false) :
    (Builtin.clear_ #[t] ty #[.slice (some ⟨b, o, none⟩) n c]).run P w = .ok (.tuple #[]) (w.setCells b o vs) := by
  have hst := run_storeCells_cells (P := P) b o vs 0 w (by simpa using hc) (by simpa using hf) h1
  simp only [Nat.add_zero] at hst
  obtain ⟨m, rfl⟩ : ∃ m, n = m + 1 := ⟨n - 1, by omega⟩
  simp [Builtin.clear_, run_underlying ht, hv, hvs, hst]
