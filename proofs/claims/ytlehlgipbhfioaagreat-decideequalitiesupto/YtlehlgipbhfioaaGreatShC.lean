/- Package logic: Show, the walk. -/
import Derived.Test.YtlehlgipbhfioaaGreatP32
namespace Go.Proofs.YtlehlgipbhfioaaGreat
open Go.RowKit Go.Shelf

attribute [local go_sem] Oper.semAt_some

theorem region_roundH {l n id : Nat} {Q : Exit → Act → World → Prop} {ops : Array Oper} {a : Act} {w : World} (S : World → Prop) (hno : ops.any (fun o => isDefer o.op) = false) (hQ : ¬ LetsOut Q) (h0 : S w.drew) (h : S w.drew → wpAnyH Tryz.prog .any ops Q S ops.size (Array.replicate ops.size false) a w.drew) :
    (Code.region id ops true).wpIn (Fence.wide.inRound l) n Tryz.prog Q a w :=
  region_round hno hQ (wpAny_of_held _ _ _ _ (h h0))

theorem one_rowS (w : World) (v : Value) (ty : TypeId) : (w.alloc (.cells #[v] ty)).rowIs w.heap.size ty 1 (fun _ => v) := World.rowIs.congr (made_row w #[v] ty) (fun j hj => by
  have : j = 0 := by simp at hj; omega
  subst this; rfl)
theorem row_allocS {w : World} {b n : Nat} {f : Nat → Value} {ty : TypeId} (o : Obj) (h : w.rowIs b ty n f) : (w.alloc o).rowIs b ty n f := h.of_block (Below.heap_alloc w o b (World.rowIs.lt h))

end Go.Proofs.YtlehlgipbhfioaaGreat
