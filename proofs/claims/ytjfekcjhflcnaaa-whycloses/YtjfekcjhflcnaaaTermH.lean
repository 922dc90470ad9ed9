/- Package term: add as one; New. -/
import Derived.Test.YtjfekcjhflcnaaaTermG
namespace Go.Proofs.Ytjfekcjhflcnaaa
open Go.RowKit Go.Maps

theorem add_in (w : World) (base p : Nat) (ev : Value) (nb fb : Nat) (l : List Tm) (h : Bk w base p ev nb fb l) (t : Tm) (ht : t.ok) (hlt : l.length < 1000) (hbase : base ≤ w.heap.size) :
    Calls Try.prog 144 #[.pointer (some ⟨p, 0, none⟩), entryV t] w fun e w' => e = .returned (.int .i64 (addN l t : Int)) ∧ ∃ ev', Bk w' base p ev' nb fb (addL l t) ∧ Kept (BFoot p ev nb fb) w w' ∧ (ev'.ownBlock = ev.ownBlock ∨ ∀ k, ev'.ownBlock = some k → w.heap.size ≤ k) := by
  cases hi : nix l t with
  | some i =>
    refine (add_old w base p ev nb fb l h t ht i hi).mono ?_
    rintro e w' ⟨rfl, H, K⟩
    exact ⟨by simp [addN, hi], ev, by simpa [addL, hi] using H, Kept.mono K (fun _ _ x => x.elim), Or.inl rfl⟩
  | none =>
    refine (add_new w base p ev nb fb l h t ht hi hlt hbase).mono ?_
    rintro e w' ⟨rfl, ev', H, K, L⟩
    exact ⟨by simp [addN, hi], ev', by simpa [addL, hi] using H, K, L⟩

theorem Tells.empty : Tells [] (.map []) (.map []) :=
  ⟨rfl, fun t _ => ⟨rfl, rfl⟩, rfl, fun n _ => ⟨rfl, rfl⟩, by simp, List.nodup_nil, by simp⟩

theorem made_bank (w : World) : Bk (((w.alloc (Obj.map #[] 0)).alloc (Obj.map #[] 0)).alloc (Obj.cells #[.slice none 0 0, .map (some w.heap.size), .map (some (w.heap.size + 1))] 105)) w.heap.size (w.heap.size + 1 + 1) (.slice none 0 0) w.heap.size (w.heap.size + 1) [] := by
  have h1 : (w.alloc (Obj.map #[] 0)).heap.size = w.heap.size + 1 := by simp
  have h2 : ((w.alloc (Obj.map #[] 0)).alloc (Obj.map #[] 0)).heap.size = w.heap.size + 1 + 1 := by simp
  have m1 := World.ownsMap_made (H := Unit) w Try.prog 124 (plainElem Try.prog 3)
  have m2 := World.ownsMap_made (H := Unit) (w.alloc (Obj.map #[] 0)) Try.prog 9 (plainElem Try.prog 3)
  have r := made_row ((w.alloc (Obj.map #[] 0)).alloc (Obj.map #[] 0)) #[.slice none 0 0, .map (some w.heap.size), .map (some (w.heap.size + 1))] 105
  rw [h1] at m2
  rw [h2] at r
  refine Bq.whole (Dn := .map []) (Df := .map []) ⟨World.rowIs.congr r ?_, World.ownsRow_nil _ _ _ _, mapIs_of ((m1.alloc _).alloc _), mapIs_of (m2.alloc _), by omega, by omega, by omega, by simp [Value.ownBlock], by simp [Value.ownBlock], by simp [Value.ownBlock], by omega, by omega, by omega⟩ Tells.empty
  intro i hi
  have hi' : i < 3 := hi
  rcases (by omega : i = 0 ∨ i = 1 ∨ i = 2) with rfl | rfl | rfl <;> rfl

set_option maxHeartbeats 400000 in
theorem tNew_any (w : World) :
    Calls Try.prog 15 #[] w fun e w' => ∃ p nb fb, e = .returned (.pointer (some ⟨p, 0, none⟩)) ∧ Bk w' w.heap.size p (.slice none 0 0) nb fb [] ∧ Below w.heap.size w w' := by
  have hmm := @run_makeMap Try.prog
  go_enter Try.func15, Try.ntmps15
  go_wp2_with fail
  go_ret
  refine ⟨_, _, _, rfl, made_bank w, ?_⟩
  exact Kept.below (((Kept.refl (fun _ => False) w).alloc _ |>.alloc _).alloc _) (Nat.le_refl _) (fun _ x => x.elim)
