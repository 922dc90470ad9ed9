/- Package term: fits. -/
import Derived.Test.YtjfekcjhflcnaaaTermD
namespace Go.Proofs.Ytjfekcjhflcnaaa
open Go.RowKit Go.Maps

def fitsB (l : List Tm) (t : Tm) : Bool := match fst l t.name with
  | none => true
  | some i => match l[i]? with
    | none => true
    | some u => decide (u.args.length = t.args.length)

theorem fst_some {l : List Tm} {n : ByteArray} {i : Nat} (h : fst l n = some i) : ∃ u, l[i]? = some u ∧ u.name = n := by
  obtain ⟨hi, hp, _⟩ := List.findIdx?_eq_some_iff_getElem.1 h
  exact ⟨l[i], List.getElem?_eq_getElem hi, of_decide_eq_true hp⟩

/-- The box of an entry. -/
theorem boxed (w : World) (t : Tm) : ∀ j u, (entryL t)[j]? = some u → (w.alloc (.cells (entryL t).toArray 124)).cell? ⟨w.heap.size, j, none⟩ = some u := by
  intro j u hj
  rw [World.cell?_alloc_at _ _ _ _ rfl, List.getElem?_toArray]
  exact hj

set_option maxHeartbeats 400000 in
theorem fits_in (w : World) (base p : Nat) (ev : Value) (nb fb : Nat) (l : List Tm) (h : Bk w base p ev nb fb l) (t : Tm) (ht : t.ok) :
    Calls Try.prog 143 #[.pointer (some ⟨p, 0, none⟩), entryV t] w fun e w' => e = .returned (.bool (fitsB l t)) ∧ Bk w' base p ev nb fb l ∧ Kept0 w w' := by
  have c0 := h.c0
  have c2 := h.c2
  have b0 := boxed w t 0 _ rfl
  have b1 := boxed w t 1 _ rfl
  unfold entryV entryL
  unfold entryL at b0 b1
  go_enter Try.func143, Try.ntmps143
  go_wp2_with fail
  generalize hw1 : w.alloc (Obj.cells #[.string t.name, .int .i64 (t.args.length : Int), .int .i64 (t.arg 0 : Int), .int .i64 (t.arg 1 : Int), .int .i64 (t.arg 2 : Int), .int .i64 (t.arg 3 : Int)] 124) = w1 at b0 b1 ⊢
  have K1 : Kept0 w w1 := hw1 ▸ Kept.alloc (Kept.refl _ w) _
  have H1 := h.kept0 K1
  have c0 := H1.c0
  have c2 := H1.c2
  have LF := fun m => (H1.drewN m).lookF ht.name
  cases hf : fst l t.name with
  | none =>
    rw [hf] at LF
    simp only [Option.getD_none, Option.isSome_none] at LF
    have hB : fitsB l t = true := by simp [fitsB, hf]
    go_quiet (fail)
    go_wp2_with fail
    go_quiet (fail)
    go_wp2_with fail
    go_ret
    exact ⟨ret_bool hB.symm, (H1.drewN _).drewN _, (Kept.drewN K1 _).drewN _⟩
  | some i =>
    rw [hf] at LF
    simp only [Option.getD_some, Option.isSome_some] at LF
    obtain ⟨u, hu, hun⟩ := fst_some hf
    have hil : i < l.length := (List.getElem?_eq_some_iff.1 hu).1
    have hsm := h.small
    have hB : fitsB l t = decide (u.args.length = t.args.length) := by simp [fitsB, hf, hu]
    obtain ⟨g, cap, rfl, hg⟩ := H1.at hu
    have g1 := hg 1 _ rfl
    go_quiet (fail)
    go_wp2_with fail
    go_quiet (fail)
    go_wp2_with fail
    go_ret
    refine ⟨ret_bool ?_, (H1.drewN _).drewN _, (Kept.drewN K1 _).drewN _⟩
    rw [hB, Bool.eq_iff_iff]
    simp
    omega
