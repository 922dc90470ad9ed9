/- Statements of chapter 2: alive. Statements of chapter 2: runs of joins; two Sets beside each other; a script in memory. -/
import Derived.Test.YtinphcnknionmaaSFindG
namespace Go.Proofs.Ytinphcnknionmaa
open Go.RowKit

theorem St.below {w w' : World} {base p nb n B : Nat} {jv : Value} {g : Uf.G} {t : List Uf.Rec} (h : St w base p nb jv n g t) (hK : Kept (Foot p nb jv) w w') (hB : B ≤ base) : Below B w w' := by
  refine hK.below (Nat.le_trans hB h.low) ?_
  intro k hk
  rcases hk with rfl | rfl | hk
  · exact Nat.le_trans hB h.lies.bp
  · exact Nat.le_trans hB h.lies.bn
  · exact Nat.le_trans hB (h.lies.joins.lt k hk).1

theorem below_drewN {B : Nat} {a w : World} (h : Below B a w) (m : Nat) : Below B a (w.drewN m) := ⟨h.os, h.tape, h.output, h.size, h.block⟩

theorem Count_st (w : World) (base p nb : Nat) (jv : Value) (n : Nat) (g : Uf.G) (t : List Uf.Rec) (h : St w base p nb jv n g t) :
    Calls Try.prog 26 #[.pointer (some ⟨p, 0, none⟩)] w fun e w' => e = .returned (.int .i64 ((n : Int) - t.length)) ∧ ∃ m, w' = w.drewN m := by
  have := Count_in w base p nb n g jv _ h.lies (by rw [Uf.recs_length]; exact h.ok.num_le)
  rw [Uf.recs_length] at this
  exact this

set_option maxHeartbeats 1000000 in
theorem alive_in (w : World) : Calls Try.prog 25 #[] w fun e w' => e = .returned (.bool true) ∧ Below w.heap.size w w' := by
  have N3 := New_st w 3 (by omega)
  rw [show ((3 : Nat) : Int) = 3 from rfl] at N3
  go_enter Try.func25, Try.ntmps25
  go_wp2_with fail
  refine N3.mono ?_
  rintro e w1 ⟨rfl, h1, b1⟩
  clear N3
  go_wp2_with fail
  refine (Join_st _ _ _ _ _ _ _ _ h1 2 1).mono ?_
  rintro e w2 ⟨rfl, jv2, h2, k2, _⟩
  have b2 := h1.below k2 (Nat.le_refl _)
  rw [show joins 3 Uf.g0 2 1 = true from by decide]
  go_wp2_with fail
  refine (Join_st _ _ _ _ _ _ _ _ h2 1 2).mono ?_
  rintro e w3 ⟨rfl, jv3, h3, k3, _⟩
  have b3 := h2.below k3 (Nat.le_refl _)
  rw [show joins 3 (joinG 3 Uf.g0 2 1) 1 2 = false from by decide]
  go_wp2_with fail
  refine (Least_in _ _ _ _ _ _ _ _ h3.lies _ h3.ok 2).mono ?_
  rintro e w4 ⟨rfl, m4, rfl⟩
  rw [show (if inB 3 2 = true then ((joinG 3 (joinG 3 Uf.g0 2 1) 1 2).lo (2 : Int).toNat : Int) else -1) = 1 from by decide]
  go_wp2_with fail
  refine (Count_st _ _ _ _ _ _ _ _ h3.drewN).mono ?_
  rintro e w5 ⟨rfl, m5, rfl⟩
  rw [show (((3 : Nat) : Int) - (joinT 3 (joinG 3 Uf.g0 2 1) (joinT 3 Uf.g0 [] 2 1) 1 2).length) = 2 from by decide]
  go_wp2_with fail
  refine (Undo_st _ _ _ _ _ _ _ _ h3.drewN 0).mono ?_
  rintro e w6 ⟨rfl, jv6, h6, k6, _⟩
  have b6 := h3.drewN.below k6 (Nat.le_refl _)
  rw [show undoes (joinT 3 (joinG 3 Uf.g0 2 1) (joinT 3 Uf.g0 [] 2 1) 1 2) 0 = true from by decide]
  go_wp2_with fail
  refine (Count_st _ _ _ _ _ _ _ _ h6).mono ?_
  rintro e w7 ⟨rfl, m7, rfl⟩
  rw [show (((3 : Nat) : Int) - (List.drop (undoK (joinT 3 (joinG 3 Uf.g0 2 1) (joinT 3 Uf.g0 [] 2 1) 1 2) 0) (joinT 3 (joinG 3 Uf.g0 2 1) (joinT 3 Uf.g0 [] 2 1) 1 2)).length) = 3 from by decide]
  go_wp2
  go_ret
  exact ⟨rfl, below_drewN ((((b1.trans b2).trans b3).trans (below_drewN (Below.refl _ _) _)).trans b6) _⟩

end Go.Proofs.Ytinphcnknionmaa

namespace Go.Proofs.Ytinphcnknionmaa
open Go.RowKit

abbrev GT : Type := Uf.G × List Uf.Rec
def stp (n : Nat) (s : GT) (x : Int × Int) : GT := (joinG n s.1 x.1 x.2, joinT n s.1 s.2 x.1 x.2)
def runs (n : Nat) (s : GT) (xs : List (Int × Int)) : GT := xs.foldl (stp n) s

theorem runs_nil (n : Nat) (s : GT) : runs n s [] = s := rfl
theorem runs_snoc (n : Nat) (s : GT) (xs : List (Int × Int)) (x : Int × Int) : runs n s (xs ++ [x]) = stp n (runs n s xs) x := by simp [runs]

/-- s' has come of s by joins. -/
def From (s s' : GT) : Prop := ∃ ext : List Uf.Rec, s'.2 = ext ++ s.2 ∧ Uf.back s'.1 s'.2 ext.length = s.1

theorem From.refl (s : GT) : From s s := ⟨[], by simp, by simp [back_zero]⟩
theorem From.step {s s' : GT} (h : From s s') (n : Nat) (x : Int × Int) : From s (stp n s' x) := by
  obtain ⟨ext, e1, e2⟩ := h
  unfold stp joinG joinT
  by_cases hj : joins n s'.1 x.1 x.2 = true
  · refine ⟨⟨_, _, s'.1⟩ :: ext, by simp only [if_pos hj]; rw [e1]; rfl, ?_⟩
    simp only [if_pos hj, List.length_cons, Uf.back]
    exact e2
  · exact ⟨ext, by simp only [if_neg hj]; exact e1, by simp only [if_neg hj]; exact e2⟩
theorem From.runs (n : Nat) (s : GT) : ∀ (xs : List (Int × Int)) (s' : GT), From s s' → From s (runs n s' xs)
  | [], _, h => h
  | x :: xs, s', h => From.runs n s xs (stp n s' x) (h.step n x)

theorem From.undo {s s' : GT} (h : From s s') : undoes s'.2 (s.2.length : Int) = true ∧ Uf.back s'.1 s'.2 (undoK s'.2 (s.2.length : Int)) = s.1 ∧ s'.2.drop (undoK s'.2 (s.2.length : Int)) = s.2 := by
  obtain ⟨ext, e1, e2⟩ := h
  have hl : s'.2.length = ext.length + s.2.length := by rw [e1]; simp
  have hu : undoes s'.2 (s.2.length : Int) = true := decide_eq_true (by omega)
  have hk : undoK s'.2 (s.2.length : Int) = ext.length := by rw [undoK, hu, if_pos rfl, Int.toNat_natCast]; omega
  exact ⟨hu, by rw [hk]; exact e2, by rw [hk, e1]; simp⟩

theorem undo_all (s : GT) : undoes s.2 0 = true ∧ s.2.drop (undoK s.2 0) = [] := by
  have hu : undoes s.2 0 = true := decide_eq_true (by omega)
  exact ⟨hu, by rw [undoK, hu, if_pos rfl]; simp⟩

theorem Lies.base {w : World} {base base' p nb n : Nat} {g : Uf.G} {jv : Value} {js : List (Nat × Nat)} (h : Lies w base p nb n g jv js) (hb : base' ≤ base) : Lies w base' p nb n g jv js :=
  ⟨h.sets, h.nodes, ⟨h.joins.1, h.joins.2.imp id fun ⟨g, cap, cur, h1, h2, h3⟩ => ⟨g, cap, cur, h1, Nat.le_trans hb h2, h3⟩⟩, h.ne, h.jp, h.jn, Nat.le_trans hb h.bp, Nat.le_trans hb h.bn, h.small⟩
theorem St.base {w : World} {base base' p nb n : Nat} {jv : Value} {g : Uf.G} {t : List Uf.Rec} (h : St w base p nb jv n g t) (hb : base' ≤ base) : St w base' p nb jv n g t := ⟨h.lies.base hb, h.hist, Nat.le_trans hb h.low⟩

/-- A Sets in a state, wherever its joins lie by now. -/
def AtS (w : World) (base p nb n : Nat) (s : GT) : Prop := ∃ jv, St w base p nb jv n s.1 s.2

theorem foot_lt {w : World} {base p nb n : Nat} {jv : Value} {g : Uf.G} {t : List Uf.Rec} (h : St w base p nb jv n g t) (k : Nat) (hk : Foot p nb jv k) : k < w.heap.size := by
  rcases hk with rfl | rfl | hk
  · exact h.lies.sets.lt
  · exact h.lies.nodes.lt
  · exact (h.lies.joins.lt k hk).2

/-- Two Sets that share nothing, from block B on; below it all is as it was. -/
structure Two (w W : World) (B p nb q mb n : Nat) (s r : GT) : Prop where
  both : ∃ jv kv, St W B p nb jv n s.1 s.2 ∧ St W B q mb kv n r.1 r.2 ∧ ∀ k, Foot p nb jv k → ¬ Foot q mb kv k
  below : Below B w W

theorem Two.swap {w W : World} {B p nb q mb n : Nat} {s r : GT} (h : Two w W B p nb q mb n s r) : Two w W B q mb p nb n r s := by
  obtain ⟨jv, kv, h1, h2, h3⟩ := h.both
  exact ⟨⟨kv, jv, h2, h1, fun k a b => h3 k b a⟩, h.below⟩

theorem Two.step {w W W' : World} {B p nb q mb n : Nat} {s s' r : GT} {jv kv jv' : Value} (h1 : St W B p nb jv n s.1 s.2) (h2 : St W B q mb kv n r.1 r.2) (h3 : ∀ k, Foot p nb jv k → ¬ Foot q mb kv k) (hB : Below B w W)
    (h1' : St W' B p nb jv' n s'.1 s'.2) (hK : Kept (Foot p nb jv) W W') (hloc : jv'.ownBlock = jv.ownBlock ∨ ∀ k, jv'.ownBlock = some k → W.heap.size ≤ k) : Two w W' B p nb q mb n s' r := by
  refine ⟨⟨jv', kv, h1', h2.other hK (fun x => h3 q x (Or.inl rfl)) (fun x => h3 mb x (Or.inr (Or.inl rfl))) (fun k hk x => h3 k x (Or.inr (Or.inr hk))), ?_⟩, hB.trans (h1.below hK (Nat.le_refl _))⟩
  intro k hk hq
  rcases hk with hk | hk | hk
  · exact h3 k (Or.inl hk) hq
  · exact h3 k (Or.inr (Or.inl hk)) hq
  · rcases hloc with e | e
    · rw [e] at hk; exact h3 k (Or.inr (Or.inr hk)) hq
    · have := e k hk
      have := foot_lt h2 k hq
      omega

theorem Two.drewN {w W : World} {B p nb q mb n : Nat} {s r : GT} (h : Two w W B p nb q mb n s r) {m : Nat} : Two w (W.drewN m) B p nb q mb n s r := by
  obtain ⟨jv, kv, h1, h2, h3⟩ := h.both
  exact ⟨⟨jv, kv, h1.drewN, h2.drewN, h3⟩, below_drewN h.below m⟩

theorem Two.join {w W : World} {B p nb q mb n : Nat} {s r : GT} (h : Two w W B p nb q mb n s r) (a b : Int) :
    Calls Try.prog 29 #[.pointer (some ⟨p, 0, none⟩), .int .i64 a, .int .i64 b] W fun e W' => e = .returned (.bool (joins n s.1 a b)) ∧ Two w W' B p nb q mb n (stp n s (a, b)) r := by
  obtain ⟨jv, kv, h1, h2, h3⟩ := h.both
  refine (Join_st W B p nb jv n s.1 s.2 h1 a b).mono ?_
  rintro e W' ⟨he, jv', h1', hK, hloc⟩
  exact ⟨he, Two.step h1 h2 h3 h.below h1' hK hloc⟩

theorem Two.undo {w W : World} {B p nb q mb n : Nat} {s r : GT} (h : Two w W B p nb q mb n s r) (m : Int) :
    Calls Try.prog 31 #[.pointer (some ⟨p, 0, none⟩), .int .i64 m] W fun e W' => e = .returned (.bool (undoes s.2 m)) ∧ Two w W' B p nb q mb n (Uf.back s.1 s.2 (undoK s.2 m), s.2.drop (undoK s.2 m)) r := by
  obtain ⟨jv, kv, h1, h2, h3⟩ := h.both
  refine (Undo_st W B p nb jv n s.1 s.2 h1 m).mono ?_
  rintro e W' ⟨he, jv', h1', hK, hloc⟩
  exact ⟨he, Two.step (s' := (Uf.back s.1 s.2 (undoK s.2 m), s.2.drop (undoK s.2 m))) h1 h2 h3 h.below h1' hK (Or.inl hloc)⟩

theorem Two.mark {w W : World} {B p nb q mb n : Nat} {s r : GT} (h : Two w W B p nb q mb n s r) :
    Calls Try.prog 36 #[.pointer (some ⟨p, 0, none⟩)] W fun e W' => e = .returned (.int .i64 (s.2.length : Int)) ∧ W = W' := by
  obtain ⟨jv, kv, h1, _, _⟩ := h.both
  have := Mark_in W B p nb n s.1 jv _ h1.lies
  rw [Uf.recs_length] at this
  exact this

theorem Two.count {w W : World} {B p nb q mb n : Nat} {s r : GT} (h : Two w W B p nb q mb n s r) :
    Calls Try.prog 26 #[.pointer (some ⟨p, 0, none⟩)] W fun e W' => e = .returned (.int .i64 ((n : Int) - s.2.length)) ∧ ∃ m, W' = W.drewN m := by
  obtain ⟨jv, kv, h1, _, _⟩ := h.both
  exact Count_st W B p nb jv n s.1 s.2 h1

def leastV (n : Nat) (g : Uf.G) (a : Int) : Int := if inB n a then (g.lo a.toNat : Int) else -1

theorem Two.least {w W : World} {B p nb q mb n : Nat} {s r : GT} (h : Two w W B p nb q mb n s r) (a : Int) :
    Calls Try.prog 27 #[.pointer (some ⟨p, 0, none⟩), .int .i64 a] W fun e W' => e = .returned (.int .i64 (leastV n s.1 a)) ∧ ∃ m, W' = W.drewN m := by
  obtain ⟨jv, kv, h1, _, _⟩ := h.both
  exact Least_in W B p nb n s.1 jv _ h1.lies _ h1.ok a

/-- A script that lies in memory. -/
structure Script (w : World) (a : Option Addr) (ops : List (Int × Int × Int)) : Prop where
  at_ : ∀ k, k < ops.length → ∃ b off, a = some ⟨b, off, none⟩ ∧ b < w.heap.size ∧ w.cell? ⟨b, off + k * 3, none⟩ = some (.int .i64 ((ops[k]?.getD (0, 0, 0)).1)) ∧
    w.cell? ⟨b, off + k * 3 + 1, none⟩ = some (.int .i64 ((ops[k]?.getD (0, 0, 0)).2.1)) ∧ w.cell? ⟨b, off + k * 3 + 2, none⟩ = some (.int .i64 ((ops[k]?.getD (0, 0, 0)).2.2))

def pairs (ops : List (Int × Int × Int)) : List (Int × Int) := ops.map fun x => (x.2.1, x.2.2)
theorem pairs_take (ops : List (Int × Int × Int)) (k : Nat) (hk : k < ops.length) : pairs (ops.take (k + 1)) = pairs (ops.take k) ++ [((ops[k]?.getD (0, 0, 0)).2.1, (ops[k]?.getD (0, 0, 0)).2.2)] := by
  unfold pairs
  rw [List.take_succ_eq_append_getElem hk, List.map_append, List.getElem?_eq_getElem hk]
  rfl

end Go.Proofs.Ytinphcnknionmaa
