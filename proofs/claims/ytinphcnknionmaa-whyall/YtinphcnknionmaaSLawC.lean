/- Statements of chapter 2: what FindLaws leans on. -/
import Derived.Test.YtinphcnknionmaaG06
namespace Go.Proofs.Ytinphcnknionmaa
open Go.RowKit

/-- A Sets from block B on; below it all is as it was. -/
structure One (w W : World) (B p nb n : Nat) (s : GT) : Prop where
  has : ∃ jv, St W B p nb jv n s.1 s.2
  below : Below B w W

theorem One.ok {w W : World} {B p nb n : Nat} {s : GT} (h : One w W B p nb n s) : Uf.Ok n s.1 s.2.length := by
  obtain ⟨jv, h1⟩ := h.has
  exact h1.ok
theorem One.drewN {w W : World} {B p nb n : Nat} {s : GT} (h : One w W B p nb n s) {m : Nat} : One w (W.drewN m) B p nb n s := by
  obtain ⟨jv, h1⟩ := h.has
  exact ⟨⟨jv, h1.drewN⟩, below_drewN h.below m⟩
theorem One.join {w W : World} {B p nb n : Nat} {s : GT} (h : One w W B p nb n s) (a b : Int) :
    Calls Try.prog 29 #[.pointer (some ⟨p, 0, none⟩), .int .i64 a, .int .i64 b] W fun e W' => e = .returned (.bool (joins n s.1 a b)) ∧ One w W' B p nb n (stp n s (a, b)) := by
  obtain ⟨jv, h1⟩ := h.has
  refine (Join_st W B p nb jv n s.1 s.2 h1 a b).mono ?_
  rintro e W' ⟨he, jv', h1', hK, _⟩
  exact ⟨he, ⟨jv', h1'⟩, h.below.trans (h1.below hK (Nat.le_refl _))⟩
theorem One.count {w W : World} {B p nb n : Nat} {s : GT} (h : One w W B p nb n s) :
    Calls Try.prog 26 #[.pointer (some ⟨p, 0, none⟩)] W fun e W' => e = .returned (.int .i64 ((n : Int) - s.2.length)) ∧ ∃ m, W' = W.drewN m := by
  obtain ⟨jv, h1⟩ := h.has
  exact Count_st W B p nb jv n s.1 s.2 h1
theorem One.least {w W : World} {B p nb n : Nat} {s : GT} (h : One w W B p nb n s) (a : Int) :
    Calls Try.prog 27 #[.pointer (some ⟨p, 0, none⟩), .int .i64 a] W fun e W' => e = .returned (.int .i64 (leastV n s.1 a)) ∧ ∃ m, W' = W.drewN m := by
  obtain ⟨jv, h1⟩ := h.has
  exact Least_in W B p nb n s.1 jv _ h1.lies _ h1.ok a
theorem One.same {w W : World} {B p nb n : Nat} {s : GT} (h : One w W B p nb n s) (a b : Int) :
    Calls Try.prog 34 #[.pointer (some ⟨p, 0, none⟩), .int .i64 a, .int .i64 b] W fun e W' => e = .returned (.bool (sameB n s.1 a b)) ∧ ∃ m, W' = W.drewN m := by
  obtain ⟨jv, h1⟩ := h.has
  exact Same_in W B p nb n s.1 jv _ h1.lies _ h1.ok a b

theorem same_comm (n : Nat) (g : Uf.G) (a b : Int) : sameB n g b a = sameB n g a b := by
  unfold sameB
  rw [Bool.and_comm (inB n b), show decide (g.rt b.toNat = g.rt a.toNat) = decide (g.rt a.toNat = g.rt b.toNat) from decide_eq_decide.2 eq_comm]
theorem same_iff {n : Nat} {g : Uf.G} {a b : Int} : sameB n g a b = true ↔ inB n a = true ∧ inB n b = true ∧ g.rt a.toNat = g.rt b.toNat := by
  unfold sameB
  simp only [Bool.and_eq_true, decide_eq_true_eq, and_assoc]
theorem same_trans {n : Nat} {g : Uf.G} {a b c : Int} (h1 : sameB n g a b = true) (h2 : sameB n g b c = true) : sameB n g a c = true := by
  rw [same_iff] at h1 h2 ⊢
  exact ⟨h1.1, h2.2.1, h1.2.2.trans h2.2.2⟩
theorem leastV_in {n : Nat} {g : Uf.G} {a : Int} (h : inB n a = true) : leastV n g a = (g.lo a.toNat : Int) := by rw [leastV, if_pos h]
theorem leastV_out {n : Nat} {g : Uf.G} {a : Int} (h : inB n a = false) : leastV n g a = -1 := by rw [leastV, h]; rfl
theorem least_nonneg (n : Nat) (g : Uf.G) (a : Int) : decide (0 ≤ leastV n g a) = inB n a := by
  cases h : inB n a
  · rw [leastV_out h]; rfl
  · rw [leastV_in h]; exact decide_eq_true (by omega)
theorem same_self (n : Nat) (g : Uf.G) (a : Int) : sameB n g a a = inB n a := by simp [sameB]

theorem lo_root {n : Nat} {g : Uf.G} {k : Nat} (h : Uf.Ok n g k) {i j : Nat} (hi : i < n) (hj : j < n) : g.lo i = g.lo j ↔ g.rt i = g.rt j := by
  constructor
  · intro e
    rw [← h.loin i hi, e, h.loin j hj]
  · intro e
    simp only [Uf.G.lo, e]

theorem inB_toNat {n : Nat} {a : Int} (h : inB n a = true) : a.toNat < n := by have := inB_true h; omega

/-- Same is: Least is a number of it, and the same. -/
theorem same_least {n : Nat} {g : Uf.G} {k : Nat} (h : Uf.Ok n g k) (a b : Int) : (inB n a && (leastV n g a == leastV n g b)) = sameB n g a b := by
  cases ha : inB n a
  · simp [sameB, ha]
  · cases hb : inB n b
    · rw [leastV_in ha, leastV_out hb]
      have : ((g.lo a.toNat : Int) == -1) = false := beq_eq_false_iff_ne.2 (by omega)
      simp [sameB, hb, this]
    · rw [leastV_in ha, leastV_in hb]
      have := lo_root h (inB_toNat ha) (inB_toNat hb)
      by_cases e : g.rt a.toNat = g.rt b.toNat
      · have e' := this.2 e
        simp [sameB, ha, hb, e, e']
      · have e' : ¬ g.lo a.toNat = g.lo b.toNat := fun x => e (this.1 x)
        have : ((g.lo a.toNat : Int) == (g.lo b.toNat : Int)) = false := beq_eq_false_iff_ne.2 (by omega)
        simp [sameB, e, this]

theorem same_lo {n : Nat} {g : Uf.G} {k : Nat} (h : Uf.Ok n g k) {i : Nat} (hi : i < n) : sameB n g (i : Int) (g.lo i : Int) = true := by
  have h1 := h.lole i hi
  refine same_iff.2 ⟨inB_nat hi, inB_nat (by omega), ?_⟩
  rw [Int.toNat_natCast, Int.toNat_natCast]
  exact (h.loin i hi).symm

/-- Behind a join the two are in one class. -/
theorem same_joined {n : Nat} {s : GT} {a b : Int} (ha : inB n a = true) (hb : inB n b = true) (hne : sameB n s.1 a b = false) : sameB n (stp n s (a, b)).1 a b = true := by
  have hr : s.1.rt a.toNat ≠ s.1.rt b.toNat := by
    intro e
    rw [same_iff.2 ⟨ha, hb, e⟩] at hne
    cases hne
  have hj : joins n s.1 a b = true := by simp [joins, ha, hb, hr]
  refine same_iff.2 ⟨ha, hb, ?_⟩
  simp only [stp, joinG, if_pos hj, Uf.pick]
  split
  · simp [Uf.hang, hr]
  · simp [Uf.hang, Ne.symm hr]
theorem joins_same {n : Nat} {g : Uf.G} {a b : Int} (ha : inB n a = true) (hb : inB n b = true) : joins n g a b = !sameB n g a b := by simp [joins, sameB, ha, hb]
theorem joins_out {n : Nat} {g : Uf.G} {a b : Int} (h : inB n a = false ∨ inB n b = false) : joins n g a b = false := by
  rcases h with h | h <;> simp [joins, h]
theorem same_out {n : Nat} {g : Uf.G} {a b : Int} (h : inB n a = false ∨ inB n b = false) : sameB n g a b = false := by
  rcases h with h | h <;> simp [sameB, h]
theorem stp_no {n : Nat} {s : GT} {a b : Int} (h : joins n s.1 a b = false) : stp n s (a, b) = s := by
  simp [stp, joinG, joinT, h]
theorem stp_yes {n : Nat} {s : GT} {a b : Int} (h : joins n s.1 a b = true) : (stp n s (a, b)).2.length = s.2.length + 1 := by
  simp [stp, joinT, h]

end Go.Proofs.Ytinphcnknionmaa
