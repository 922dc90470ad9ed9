/- Statements of chapter 2: alive. -/
import Derived.Test.YtpipihllofpnaaaFindG
namespace Go.Proofs.Ytpipihllofpnaaa
open Go.RowKit

theorem St.below {w w' : World} {base p nb n B : Nat} {jv : Value} {g : Uf.G} {t : List Uf.Rec} (h : St w base p nb jv n g t) (hK : Kept (Foot p nb jv) w w') (hB : B ≤ base) : Below B w w' := by
  refine hK.below (Nat.le_trans hB h.low) ?_
  intro k hk
  rcases hk with rfl | rfl | hk
  · exact Nat.le_trans hB h.lies.bp
  · exact Nat.le_trans hB h.lies.bn
  · exact Nat.le_trans hB (h.lies.joins.lt k hk).1

theorem below_drewN {B : Nat} {a w : World} (h : Below B a w) (m : Nat) : Below B a (w.drewN m) := ⟨h.os, h.tape, h.output, h.size, h.block⟩

theorem Count_st (w : World) (base p nb : Nat) (jv : Value) (n : Nat) (g : Uf.G) (t : List Uf.Rec) (h : St w base p nb jv n g t) :
    Calls Try.prog 26 #[.pointer (some ⟨p, 0, none⟩)] w fun e w' => e = .returned (.int .i64 ((n : Int) - t.length)) ∧ ∃ m, w' = w.drewN m := by
  have := Count_in w base p nb n g jv _ h.lies (by rw [Uf.recs_length]; exact h.ok.num_le)
  rw [Uf.recs_length] at this
  exact this

set_option maxHeartbeats 1000000 in
theorem alive_in (w : World) : Calls Try.prog 25 #[] w fun e w' => e = .returned (.bool true) ∧ Below w.heap.size w w' := by
  have N3 := New_st w 3 (by omega)
  rw [show ((3 : Nat) : Int) = 3 from rfl] at N3
  go_enter Try.func25, Try.ntmps25
  go_wp2_with fail
  refine N3.mono ?_
  rintro e w1 ⟨rfl, h1, b1⟩
  clear N3
  go_wp2_with fail
  refine (Join_st _ _ _ _ _ _ _ _ h1 2 1).mono ?_
  rintro e w2 ⟨rfl, jv2, h2, k2, _⟩
  have b2 := h1.below k2 (Nat.le_refl _)
  rw [show joins 3 Uf.g0 2 1 = true from by decide]
  go_wp2_with fail
  refine (Join_st _ _ _ _ _ _ _ _ h2 1 2).mono ?_
  rintro e w3 ⟨rfl, jv3, h3, k3, _⟩
  have b3 := h2.below k3 (Nat.le_refl _)
  rw [show joins 3 (joinG 3 Uf.g0 2 1) 1 2 = false from by decide]
  go_wp2_with fail
  refine (Least_in _ _ _ _ _ _ _ _ h3.lies _ h3.ok 2).mono ?_
  rintro e w4 ⟨rfl, m4, rfl⟩
  rw [show (if inB 3 2 = true then ((joinG 3 (joinG 3 Uf.g0 2 1) 1 2).lo (2 : Int).toNat : Int) else -1) = 1 from by decide]
  go_wp2_with fail
  refine (Count_st _ _ _ _ _ _ _ _ h3.drewN).mono ?_
  rintro e w5 ⟨rfl, m5, rfl⟩
  rw [show (((3 : Nat) : Int) - (joinT 3 (joinG 3 Uf.g0 2 1) (joinT 3 Uf.g0 [] 2 1) 1 2).length) = 2 from by decide]
  go_wp2_with fail
  refine (Undo_st _ _ _ _ _ _ _ _ h3.drewN 0).mono ?_
  rintro e w6 ⟨rfl, jv6, h6, k6, _⟩
  have b6 := h3.drewN.below k6 (Nat.le_refl _)
  rw [show undoes (joinT 3 (joinG 3 Uf.g0 2 1) (joinT 3 Uf.g0 [] 2 1) 1 2) 0 = true from by decide]
  go_wp2_with fail
  refine (Count_st _ _ _ _ _ _ _ _ h6).mono ?_
  rintro e w7 ⟨rfl, m7, rfl⟩
  rw [show (((3 : Nat) : Int) - (List.drop (undoK (joinT 3 (joinG 3 Uf.g0 2 1) (joinT 3 Uf.g0 [] 2 1) 1 2) 0) (joinT 3 (joinG 3 Uf.g0 2 1) (joinT 3 Uf.g0 [] 2 1) 1 2)).length) = 3 from by decide]
  go_wp2
  go_ret
  exact ⟨rfl, below_drewN ((((b1.trans b2).trans b3).trans (below_drewN (Below.refl _ _) _)).trans b6) _⟩

end Go.Proofs.Ytpipihllofpnaaa
