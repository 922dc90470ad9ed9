/- The document's own Sets (equateref02): Class; all that a run of FindAll holds. shows: are all classes the document's? FindAll. -/
import Derived.Test.YtinphcnknionmaaSFindX
namespace Go.Proofs.Ytinphcnknionmaa
open Go.RowKit

theorem Ref.later {w W : World} {base rp n : Nat} {lv : Value} {log : List (List Nat)} (h : Ref w base rp n lv log) (hB : Below w.heap.size w W) : Ref W base rp n lv log :=
  h.other (S := fun k => w.heap.size ≤ k) ⟨hB.os, hB.tape, hB.output, hB.size, fun k hk _ => hB.block k hk⟩ (fun k _ _ hk _ hs => by have := (Array.getElem?_eq_some_iff.1 hk).1; omega)

theorem St.later {w W : World} {base p nb n : Nat} {jv : Value} {g : Uf.G} {t : List Uf.Rec} (h : St w base p nb jv n g t) (hB : Below w.heap.size w W) : St W base p nb jv n g t :=
  h.other (S := fun k => w.heap.size ≤ k) ⟨hB.os, hB.tape, hB.output, hB.size, fun k hk _ => hB.block k hk⟩ (by have := h.lies.sets.lt; omega) (by have := h.lies.nodes.lt; omega) (fun k hk => by have := (h.lies.joins.lt k hk).2; omega)

/-- A class, up to k. -/
def classTo (g : Uf.G) (i k : Nat) : List Nat := (List.range k).filter fun j => decide (g.rt j = g.rt i)
theorem classTo_succ (g : Uf.G) (i k : Nat) : classTo g i (k + 1) = classTo g i k ++ if g.rt k = g.rt i then [k] else [] := by
  unfold classTo
  rw [List.range_succ, List.filter_append]
  by_cases h : g.rt k = g.rt i <;> simp [h]
theorem classTo_length (g : Uf.G) (i k : Nat) : (classTo g i k).length ≤ k := by
  have := List.length_filter_le (fun j => decide (g.rt j = g.rt i)) (List.range k)
  rw [List.length_range] at this
  exact this
theorem classL_to {n : Nat} {g : Uf.G} {i : Nat} (hi : i < n) : classL n g (i : Int) = classTo g i n := by
  unfold classL classTo
  rw [if_pos (inB_nat hi), Int.toNat_natCast]

set_option maxRecDepth 100000 in
set_option maxHeartbeats 1000000 in
theorem rClass_in (w : World) (base rp n : Nat) (lv : Value) (s : GT) (h : RefS w base rp n lv s) (ht : s.2.length ≤ 150) (k : Nat) (hok : Uf.Ok n s.1 k) (a : Int) :
    Calls Try.prog 86 #[.pointer (some ⟨rp, 0, none⟩), .int .i64 a] w fun e w' => ∃ v, e = .returned v ∧ Below w.heap.size w w' ∧ w'.ownsRow w.heap.size 3 1 v (classL n s.1 a).length (intsC (classL n s.1 a)) := by
  have HA := rhas_in _ _ _ _ _ _ h a
  cases hb : inB n a
  · have hcl : classL n s.1 a = [] := by unfold classL; rw [hb]; rfl
    rw [hcl]
    rw [hb] at HA
    clear h
    go_enter Try.func86, Try.ntmps86
    go_wp2_with fail
    refine HA.mono ?_
    rintro e w' ⟨rfl, rfl⟩
    go_wp2
    go_ret
    exact ⟨_, rfl, Below.refl _ _, World.ownsRow_nil _ _ _ _⟩
  · have hb' := hb
    rw [hb] at HA
    obtain ⟨b1, b2⟩ := inB_true hb
    obtain ⟨i, rfl⟩ := Int.eq_ofNat_of_zero_le b1
    have hi : i < n := by omega
    rw [classL_to hi]
    have hn60 := h.small
    obtain ⟨i0, hi0, hz0, hz1, hz2⟩ := info_parts infoInt
    have LAT : Hid (∀ W, Below w.heap.size w W → RefS W base rp n lv s) := fun W hB => h.later hB
    have SAM : Hid (∀ W, Below w.heap.size w W → ∀ q, q < n → Calls Try.prog 35 #[.pointer (some ⟨rp, 0, none⟩), .int .i64 i, .int .i64 q] W fun e w' => e = .returned (.bool (decide (s.1.rt q = s.1.rt i))) ∧ ∃ m, w' = W.drewN m) := by
      intro W hB q hq
      have := rSame_in W base rp n lv s (h.later hB) ht k hok (i : Int) (q : Int)
      rw [show sameB n s.1 (i : Int) (q : Int) = decide (s.1.rt q = s.1.rt i) from by
        unfold sameB
        rw [hb', inB_nat hq, Int.toNat_natCast, Int.toNat_natCast, Bool.true_and, Bool.true_and]
        exact decide_eq_decide.2 eq_comm] at this
      exact this
    clear h hb hb' hok
    go_enter Try.func86, Try.ntmps86
    go_wp2_with fail
    refine HA.mono ?_
    rintro e w' ⟨rfl, rfl⟩
    clear HA
    go_wp2_with fail
    go_loopw [5, 6] (fun v t W => ∃ q : Nat, q ≤ n ∧ t = .int .i64 q ∧ W.ownsRow w.heap.size 3 1 v (classTo s.1 i q).length (intsC (classTo s.1 i q)) ∧ Hid (Below w.heap.size w W)) (fun _ t _ => n - (intOf t).toNat)
    case atStart => exact ⟨0, Nat.zero_le _, rfl, World.ownsRow_nil _ _ _ _, Below.refl _ _⟩
    case round =>
      obtain ⟨q, hq, rfl, hown, hB⟩ := hrel
      have c0 := (LAT.out _ hB.out).c0
      by_cases hlt : q < n
      · have hsn := classTo_succ s.1 i q
        have hlen := classTo_length s.1 i q
        have SQ := SAM.out _ hB.out q hlt
        have hl := hown.lt
        have HLT : Hid (∀ k, Value.ownBlock _ = some k → w.heap.size ≤ k) := fun k hk => (hl k hk).1
        clear hl
        by_cases hr : s.1.rt q = s.1.rt i
        · rw [if_pos hr] at hsn
          rw [decide_eq_true hr] at SQ
          have HSN : Hid (classTo s.1 i (q + 1) = classTo s.1 i q ++ [q]) := hsn
          generalize classTo s.1 i q = L at *
          clear hsn hr
          go_wp2_with fail
          refine SQ.mono ?_
          rintro e w4 ⟨rfl, m4, rfl⟩
          clear SQ
          go_wp2_with (at_builtin; refine wpList_append_own _ rfl _ _ 40 rfl w.heap.size 3 i0 _ 1 8 Try.underlying40 hi0 hz0 hz1 hz2 rfl (by decide) _ _ _ rfl (by exact World.ownsRow.alloc hown _) ⟨wr.heap.size, 0, none⟩ 1 1 [.int .i64 (q : Int)] rfl rfl (by exact cell_one_new wr _ _) (by simp [Value.oneCell']) (by unfold maxLen; omega) (by omega) (by have := hB.out.size; simp; omega) ?_; intro v' w5 hown5 hgrow5 _; have hB5 : Hid (Below w.heap.size w w5) := Below.grown (below_drewN (hB.out.alloc hB.out.size _) m4) hgrow5 (by have := hB.out.size; simp; omega) (fun k hk => HLT.out k hk))
          go_roundw
          case rel => exact ⟨q + 1, by omega, by go_num, by rw [HSN.out, List.length_append, intsC_snoc]; exact hown5, hB5⟩
          case measure => simp [intOf]; omega
        · rw [if_neg hr, List.append_nil] at hsn
          rw [decide_eq_false hr] at SQ
          have HSN : Hid (classTo s.1 i (q + 1) = classTo s.1 i q) := hsn
          generalize classTo s.1 i q = L at *
          clear hsn hr
          go_wp2_with fail
          refine SQ.mono ?_
          rintro e w4 ⟨rfl, m4, rfl⟩
          clear SQ
          go_wp2
          go_roundw
          case rel => exact ⟨q + 1, by omega, by go_num, by rw [HSN.out]; exact hown, below_drewN hB.out m4⟩
          case measure => simp [intOf]; omega
      · obtain rfl : q = n := by omega
        have HO : Hid _ := hown
        clear hown
        go_wp2
        go_ret
        exact ⟨_, rfl, hB.out, HO.out⟩

/-- All that a run of FindAll holds: s and the document's Sets in one state; another Sets beside them. -/
structure Three (w W : World) (B p nb q mb rp n : Nat) (s r : GT) : Prop where
  two : Two w W B p nb q mb n s r
  ref : ∃ lv, RefS W B rp n lv s
  low : B ≤ W.heap.size
  small : n ≤ 60

theorem Three.below {w W : World} {B p nb q mb rp n : Nat} {s r : GT} (h : Three w W B p nb q mb rp n s r) : Below B w W := h.two.below
theorem Three.st {w W : World} {B p nb q mb rp n : Nat} {s r : GT} (h : Three w W B p nb q mb rp n s r) : ∃ jv, St W B p nb jv n s.1 s.2 := by
  obtain ⟨jv, kv, h1, _, _⟩ := h.two.both
  exact ⟨jv, h1⟩
theorem Three.ok {w W : World} {B p nb q mb rp n : Nat} {s r : GT} (h : Three w W B p nb q mb rp n s r) : Uf.Ok n s.1 s.2.length := by
  obtain ⟨jv, h1⟩ := h.st
  exact h1.ok
theorem Three.len {w W : World} {B p nb q mb rp n : Nat} {s r : GT} (h : Three w W B p nb q mb rp n s r) : s.2.length ≤ 150 := by have := h.ok.num_le; have := h.small; omega
theorem Three.drewN {w W : World} {B p nb q mb rp n : Nat} {s r : GT} (h : Three w W B p nb q mb rp n s r) {m : Nat} : Three w (W.drewN m) B p nb q mb rp n s r := by
  obtain ⟨lv, hr⟩ := h.ref
  exact ⟨h.two.drewN, ⟨lv, hr.drewN⟩, h.low, h.small⟩

/-- New blocks alone. -/
theorem Three.later {w W W' : World} {B p nb q mb rp n : Nat} {s r : GT} (h : Three w W B p nb q mb rp n s r) (hB : Below W.heap.size W W') : Three w W' B p nb q mb rp n s r := by
  obtain ⟨lv, hr⟩ := h.ref
  obtain ⟨jv, kv, h1, h2, h3⟩ := h.two.both
  exact ⟨⟨⟨jv, kv, h1.later hB, h2.later hB, h3⟩, h.two.below.trans (hB.mono h.low)⟩, ⟨lv, hr.later hB⟩, Nat.le_trans h.low hB.size, h.small⟩

/-- The document's Sets is turned alone. -/
theorem Two.ref {w W W' : World} {B p nb q mb rp n : Nat} {s r s' : GT} {lv : Value} (h : Two w W B p nb q mb n s r) (hr : RefS W B rp n lv s') (hK : Kept (SFoot rp lv) W W') : Two w W' B p nb q mb n s r := by
  obtain ⟨jv, kv, h1, h2, h3⟩ := h.both
  have nf : ∀ {x y : Nat} {v : Value} {g : Uf.G} {t : List Uf.Rec}, St W B x y v n g t → ∀ k, Foot x y v k → ¬ SFoot rp lv k := by
    intro x y v g t hst k hk hf
    have key : ∃ cur e, W.heap[k]? = some (.cells cur e (0, 0)) ∧ (e = 128 ∨ e = 130 ∨ e = 135) := by
      rcases hk with rfl | rfl | hk
      · obtain ⟨c, hc, _⟩ := hst.lies.sets; exact ⟨c, _, hc, Or.inl rfl⟩
      · obtain ⟨c, hc, _⟩ := hst.lies.nodes; exact ⟨c, _, hc, Or.inr (Or.inl rfl)⟩
      · obtain ⟨c, hc⟩ := row_block hst.lies.joins hk; exact ⟨c, _, hc, Or.inr (Or.inr rfl)⟩
    obtain ⟨cur, e, hc, he⟩ := key
    have := rfoot_types hr hc hf
    rcases he with rfl | rfl | rfl <;> rcases this with h | h <;> exact absurd h (by decide)
  have other : ∀ {x y : Nat} {v : Value} {g : Uf.G} {t : List Uf.Rec}, St W B x y v n g t → St W' B x y v n g t := fun hst =>
    hst.other hK (nf hst _ (Or.inl rfl)) (nf hst _ (Or.inr (Or.inl rfl))) (fun k hk => nf hst k (Or.inr (Or.inr hk)))
  refine ⟨⟨jv, kv, other h1, other h2, h3⟩, h.below.trans (hK.below h1.low ?_)⟩
  intro k hk
  rcases hk with rfl | hk
  · exact hr.low
  · obtain ⟨vals, _, v2, _⟩ := hr.rows
    exact (v2.lt k hk).1

/-- A boxed step of the script is as it was. -/
def OpKept (W W' : World) : Prop := ∀ (k : Nat) (cur : Array Value), W.heap[k]? = some (.cells cur 53 (0, 0)) → W'.heap[k]? = some (.cells cur 53 (0, 0))
theorem opKept_foot {W W' : World} {B p nb n : Nat} {jv : Value} {g : Uf.G} {t : List Uf.Rec} (h : St W B p nb jv n g t) (hK : Kept (Foot p nb jv) W W') : OpKept W W' := by
  intro k cur hk
  rw [hK.block k (Array.getElem?_eq_some_iff.1 hk).1 ?_]
  · exact hk
  · intro hf
    rcases hf with rfl | rfl | hf
    · obtain ⟨c, hc, _⟩ := h.lies.sets
      rw [hc] at hk; cases hk
    · obtain ⟨c, hc, _⟩ := h.lies.nodes
      rw [hc] at hk; cases hk
    · obtain ⟨c, hc⟩ := row_block h.lies.joins hf
      rw [hc] at hk; cases hk
theorem opKept_rfoot {W W' : World} {B rp n : Nat} {lv : Value} {log : List (List Nat)} (h : Ref W B rp n lv log) (hK : Kept (SFoot rp lv) W W') : OpKept W W' := by
  intro k cur hk
  rw [hK.block k (Array.getElem?_eq_some_iff.1 hk).1 ?_]
  · exact hk
  · intro hf
    rcases rfoot_types h hk hf with e | e <;> exact absurd e (by decide)
theorem opKept_below {W W' : World} (hB : Below W.heap.size W W') : OpKept W W' := fun k cur hk => by rw [hB.block k (Array.getElem?_eq_some_iff.1 hk).1]; exact hk

theorem Three.join2 {w W : World} {B p nb q mb rp n : Nat} {s r : GT} (h : Three w W B p nb q mb rp n s r) (a b : Int) :
    Calls Try.prog 29 #[.pointer (some ⟨q, 0, none⟩), .int .i64 a, .int .i64 b] W fun e W' => (∃ x, e = .returned (.bool x)) ∧ (∃ r', Three w W' B p nb q mb rp n s r') ∧ OpKept W W' := by
  obtain ⟨lv, hr⟩ := h.ref
  obtain ⟨jv, kv, h1, h2, h3⟩ := h.two.both
  refine (Join_st W B q mb kv n r.1 r.2 h2 a b).mono ?_
  rintro e W' ⟨he, kv', h2', hK, hloc⟩
  refine ⟨⟨_, he⟩, ⟨stp n r (a, b), ⟨?_, ⟨lv, hr.other hK (foot_types h2)⟩, Nat.le_trans h.low hK.size, h.small⟩⟩, opKept_foot h2 hK⟩
  exact (Two.step (s := r) (r := s) (s' := stp n r (a, b)) h2 h1 (fun k x y => h3 k y x) h.two.below h2' hK hloc).swap

/-- s alone has been turned: the document's Sets is still in the old state. -/
structure Half (w W : World) (B p nb q mb rp n : Nat) (s s' r : GT) : Prop where
  two : Two w W B p nb q mb n s' r
  ref : ∃ lv, RefS W B rp n lv s
  low : B ≤ W.heap.size
  small : n ≤ 60
  ok : ∃ k, Uf.Ok n s.1 k
  len : s.2.length ≤ 150

theorem Three.join1 {w W : World} {B p nb q mb rp n : Nat} {s r : GT} (h : Three w W B p nb q mb rp n s r) (a b : Int) :
    Calls Try.prog 29 #[.pointer (some ⟨p, 0, none⟩), .int .i64 a, .int .i64 b] W fun e W' => e = .returned (.bool (joins n s.1 a b)) ∧ Half w W' B p nb q mb rp n s (stp n s (a, b)) r ∧ OpKept W W' := by
  obtain ⟨lv, hr⟩ := h.ref
  obtain ⟨jv, kv, h1, h2, h3⟩ := h.two.both
  refine (Join_st W B p nb jv n s.1 s.2 h1 a b).mono ?_
  rintro e W' ⟨he, jv', h1', hK, hloc⟩
  exact ⟨he, ⟨Two.step (s' := stp n s (a, b)) h1 h2 h3 h.two.below h1' hK hloc, ⟨lv, hr.other hK (foot_types h1)⟩, Nat.le_trans h.low hK.size, h.small, ⟨_, h.ok⟩, h.len⟩, opKept_foot h1 hK⟩

theorem Three.undo1 {w W : World} {B p nb q mb rp n : Nat} {s r : GT} (h : Three w W B p nb q mb rp n s r) (m : Int) :
    Calls Try.prog 31 #[.pointer (some ⟨p, 0, none⟩), .int .i64 m] W fun e W' => e = .returned (.bool (undoes s.2 m)) ∧ Half w W' B p nb q mb rp n s (Uf.back s.1 s.2 (undoK s.2 m), s.2.drop (undoK s.2 m)) r ∧ OpKept W W' := by
  obtain ⟨lv, hr⟩ := h.ref
  obtain ⟨jv, kv, h1, h2, h3⟩ := h.two.both
  refine (Undo_st W B p nb jv n s.1 s.2 h1 m).mono ?_
  rintro e W' ⟨he, jv', h1', hK, hloc⟩
  exact ⟨he, ⟨Two.step (s' := (Uf.back s.1 s.2 (undoK s.2 m), s.2.drop (undoK s.2 m))) h1 h2 h3 h.two.below h1' hK (Or.inl hloc), ⟨lv, hr.other hK (foot_types h1)⟩, Nat.le_trans h.low hK.size, h.small, ⟨_, h.ok⟩, h.len⟩, opKept_foot h1 hK⟩

theorem Half.join {w W : World} {B p nb q mb rp n : Nat} {s r : GT} (a b : Int) (h : Half w W B p nb q mb rp n s (stp n s (a, b)) r) :
    Calls Try.prog 30 #[.pointer (some ⟨rp, 0, none⟩), .int .i64 a, .int .i64 b] W fun e W' => e = .returned (.bool (joins n s.1 a b)) ∧ Three w W' B p nb q mb rp n (stp n s (a, b)) r ∧ OpKept W W' := by
  obtain ⟨lv, hr⟩ := h.ref
  obtain ⟨k, hok⟩ := h.ok
  refine (rJoin_in W B rp n lv s hr h.low (Nat.le_trans h.len (by decide)) k hok a b).mono ?_
  rintro e W' ⟨he, lv', hr', hK⟩
  exact ⟨he, ⟨h.two.ref hr hK, ⟨lv', hr'⟩, Nat.le_trans h.low hK.size, h.small⟩, opKept_rfoot hr hK⟩

theorem Half.undo {w W : World} {B p nb q mb rp n : Nat} {s r : GT} (m : Int) (h : Half w W B p nb q mb rp n s (Uf.back s.1 s.2 (undoK s.2 m), s.2.drop (undoK s.2 m)) r) :
    Calls Try.prog 32 #[.pointer (some ⟨rp, 0, none⟩), .int .i64 m] W fun e W' => e = .returned (.bool (undoes s.2 m)) ∧ Three w W' B p nb q mb rp n (Uf.back s.1 s.2 (undoK s.2 m), s.2.drop (undoK s.2 m)) r ∧ OpKept W W' := by
  obtain ⟨lv, hr⟩ := h.ref
  refine (rUndo_in W B rp n lv s hr (Nat.le_trans h.len (by decide)) m).mono ?_
  rintro e W' ⟨he, lv', hr', hK⟩
  exact ⟨he, ⟨h.two.ref hr hK, ⟨lv', hr'⟩, Nat.le_trans h.low hK.size, h.small⟩, opKept_rfoot hr hK⟩

end Go.Proofs.Ytinphcnknionmaa

namespace Go.Proofs.Ytinphcnknionmaa
open Go.RowKit

theorem Three.class {w W : World} {B p nb q mb rp n : Nat} {s r : GT} (h : Three w W B p nb q mb rp n s r) (a : Int) :
    Calls Try.prog 84 #[.pointer (some ⟨p, 0, none⟩), .int .i64 a] W fun e w' => ∃ v, e = .returned v ∧ Below W.heap.size W w' ∧ w'.ownsRow W.heap.size 3 1 v (classL n s.1 a).length (intsC (classL n s.1 a)) := by
  obtain ⟨jv, h1⟩ := h.st
  exact Class_in W B p nb jv n s h1 h.small a
theorem Three.rclass {w W : World} {B p nb q mb rp n : Nat} {s r : GT} (h : Three w W B p nb q mb rp n s r) (a : Int) :
    Calls Try.prog 86 #[.pointer (some ⟨rp, 0, none⟩), .int .i64 a] W fun e w' => ∃ v, e = .returned v ∧ Below W.heap.size W w' ∧ w'.ownsRow W.heap.size 3 1 v (classL n s.1 a).length (intsC (classL n s.1 a)) := by
  obtain ⟨lv, hr⟩ := h.ref
  exact rClass_in W B rp n lv s hr h.len _ h.ok a
theorem Three.least {w W : World} {B p nb q mb rp n : Nat} {s r : GT} (h : Three w W B p nb q mb rp n s r) (a : Int) :
    Calls Try.prog 27 #[.pointer (some ⟨p, 0, none⟩), .int .i64 a] W fun e w' => e = .returned (.int .i64 (leastV n s.1 a)) ∧ ∃ m, w' = W.drewN m := h.two.least a
theorem Three.rleast {w W : World} {B p nb q mb rp n : Nat} {s r : GT} (h : Three w W B p nb q mb rp n s r) (a : Int) :
    Calls Try.prog 79 #[.pointer (some ⟨rp, 0, none⟩), .int .i64 a] W fun e w' => e = .returned (.int .i64 (leastV n s.1 a)) ∧ ∃ m, w' = W.drewN m := by
  obtain ⟨lv, hr⟩ := h.ref
  exact rLeast_in W B rp n lv s hr h.len a
theorem Three.same {w W : World} {B p nb q mb rp n : Nat} {s r : GT} (h : Three w W B p nb q mb rp n s r) (a b : Int) :
    Calls Try.prog 34 #[.pointer (some ⟨p, 0, none⟩), .int .i64 a, .int .i64 b] W fun e w' => e = .returned (.bool (sameB n s.1 a b)) ∧ ∃ m, w' = W.drewN m := by
  obtain ⟨jv, h1⟩ := h.st
  exact Same_in W B p nb n s.1 jv _ h1.lies _ h1.ok a b
theorem Three.rsame {w W : World} {B p nb q mb rp n : Nat} {s r : GT} (h : Three w W B p nb q mb rp n s r) (a b : Int) :
    Calls Try.prog 35 #[.pointer (some ⟨rp, 0, none⟩), .int .i64 a, .int .i64 b] W fun e w' => e = .returned (.bool (sameB n s.1 a b)) ∧ ∃ m, w' = W.drewN m := by
  obtain ⟨lv, hr⟩ := h.ref
  exact rSame_in W B rp n lv s hr h.len _ h.ok a b
theorem Three.rcount {w W : World} {B p nb q mb rp n : Nat} {s r : GT} (h : Three w W B p nb q mb rp n s r) :
    Calls Try.prog 83 #[.pointer (some ⟨rp, 0, none⟩)] W fun e w' => e = .returned (.int .i64 ((n : Int) - s.2.length)) ∧ ∃ m, w' = W.drewN m := by
  obtain ⟨lv, hr⟩ := h.ref
  exact rCount_in W B rp n lv _ hr s.2.length (Uf.logOf_length n s.2 s.1) h.len
theorem Three.cells {w W : World} {B p nb q mb rp n : Nat} {s r : GT} (h : Three w W B p nb q mb rp n s r) : W.cell? ⟨rp, 0, none⟩ = some (.int .i64 (n : Int)) ∧ ∃ a c, W.cell? ⟨rp, 1, none⟩ = some (.slice a (s.2.length + 1) c) := by
  obtain ⟨lv, hr⟩ := h.ref
  obtain ⟨a, c, rfl⟩ := hr.form
  refine ⟨hr.c0, a, c, ?_⟩
  rw [← Uf.logOf_length n s.2 s.1]
  exact hr.c1

theorem quiet_eq {P : Program} {f : FuncId} {args : Array Value} {w : World} {v : Value} (h : Calls P f args w fun e w' => e = .returned v ∧ w = w') : Calls P f args w fun e w' => e = .returned v ∧ ∃ m, w' = w.drewN m :=
  h.mono fun _ _ x => ⟨x.1, 0, x.2.symm⟩

set_option maxRecDepth 100000 in
set_option maxHeartbeats 4000000 in
theorem shows_in (w W : World) (B p nb q mb rp n : Nat) (s r : GT) (h : Three w W B p nb q mb rp n s r) :
    Calls Try.prog 33 #[.pointer (some ⟨p, 0, none⟩), .pointer (some ⟨rp, 0, none⟩)] W fun e W' => e = .returned (.bool true) ∧ Below W.heap.size W W' := by
  obtain ⟨c0, la, lc, c1⟩ := h.cells
  have hlen := h.len
  have hsm := h.small
  have CNT := fun m => (h.drewN (m := m)).two.count
  have RCN := fun m => (h.drewN (m := m)).rcount
  have MRK := fun m => quiet_eq (h.drewN (m := m)).two.mark
  generalize hcn : (n : Int) - s.2.length = cn at *
  have hle := h.ok.num_le
  generalize htt : s.2.length = tt at *
  have q2 : IntKind.i64.wrap ((tt : Int) + 1 - 1) = (tt : Int) := by rw [IntKind.wrap_i64]; omega
  have q3 : wrap64 ((tt : Int) + 1 - 1) = (tt : Int) := by unfold wrap64; omega
  have HLAT : Hid (∀ W', Below W.heap.size W W' → Three w W' B p nb q mb rp n s r) := fun W' hB => h.later hB
  clear hcn htt h hle
  go_enter Try.func33, Try.ntmps33
  go_wp2_with fail
  go_quiet (first | (go_at_call 26; exact Calls.quiet_of (CNT _)) | (go_at_call 83; exact Calls.quiet_of (RCN _)) | (go_at_call 36; exact Calls.quiet_of (MRK _)))
  clear CNT RCN MRK q2 q3 c1
  go_wp2_with fail
  go_loopw [5] (fun t W1 => ∃ k : Nat, k ≤ n + 2 ∧ t = .int .i64 ((k : Int) - 1) ∧ Hid (Below W.heap.size W W1)) (fun t _ => (n + 1 - (intOf t)).toNat)
  case atStart => exact ⟨0, by omega, rfl, below_drewN (Below.refl _ _) _⟩
  case round =>
    obtain ⟨k, hk, rfl, hB⟩ := hrel
    have h1 := HLAT.out _ hB.out
    obtain ⟨c0r, _⟩ := h1.cells
    by_cases hlt : k < n + 2
    · obtain ⟨ai, hai⟩ : ∃ ai : Int, (k : Int) - 1 = ai := ⟨_, rfl⟩
      have hai2 : ai ≤ (n : Int) := by omega
      have hai3 : -1 ≤ ai := by omega
      have HAI : Hid ((k : Int) - 1 = ai) := hai
      rw [hai]
      clear hai
      have CL := h1.class ai
      have hcl := class_length n s.1 ai
      generalize hL : classL n s.1 ai = L at CL hcl
      have HL : Hid (classL n s.1 ai = L) := hL
      clear hL
      go_wp2_with fail
      refine CL.mono ?_
      rintro e w3 ⟨v1, rfl, b3, o3⟩
      clear CL
      have hB3 : Hid (Below W.heap.size W w3) := hB.out.trans (b3.mono hB.out.size)
      have h3 := HLAT.out _ hB3.out
      have RC := h3.rclass ai
      rw [HL.out] at RC
      go_wp2_with fail
      refine RC.mono ?_
      rintro e w4 ⟨v2, rfl, b4, o4⟩
      clear RC
      have hB4 : Hid (Below W.heap.size W w4) := hB3.out.trans (b4.mono hB3.out.size)
      have o34 : w4.ownsRow wr.heap.size 3 1 v1 L.length (intsC L) :=
        owns_kept o3 (S := fun k => w3.heap.size ≤ k) ⟨b4.os, b4.tape, b4.output, b4.size, fun k hk _ => b4.block k hk⟩ (fun k hk => by have := (o3.lt k hk).2; omega)
      have IN := ints_eq w4 _ _ v1 v2 L (by omega) o34 o4
      have h4 := HLAT.out _ hB4.out
      have LE := fun m => (h4.drewN (m := m)).least ai
      have RL := fun m => (h4.drewN (m := m)).rleast ai
      generalize leastV n s.1 ai = lz at LE RL
      obtain ⟨a1, cp1, hv1⟩ : ∃ a c, v1 = .slice a L.length c := by
        rcases o34.2 with ⟨e, h0⟩ | ⟨b, cap, cur, e, _⟩
        · rw [h0]; exact ⟨_, _, e⟩
        · exact ⟨_, _, e⟩
      have b34 : Below wr.heap.size wr w4 := b3.trans (b4.mono b3.size)
      have hww := hB.out.size
      have H34 : Hid (w4.ownsRow wr.heap.size 3 1 v1 L.length (intsC L) ∧ Below wr.heap.size wr w4) := ⟨o34, b34⟩
      subst hv1
      have hL60 : L.length ≤ 60 := by omega
      clear o3 o4 o34 b3 b4 h3 h4 h1 b34 c0r hcl
      go_wp2_with fail
      refine IN.mono ?_
      rintro e w5 ⟨rfl, m5, rfl⟩
      clear IN
      go_wp2_with fail
      refine (LE _).mono ?_
      rintro e w5 ⟨rfl, m6, rfl⟩
      go_wp2_with fail
      refine (RL _).mono ?_
      rintro e w5 ⟨rfl, m7, rfl⟩
      clear LE RL
      go_wp2_with fail
      go_loopw [8] (fun t W1 => ∃ j : Nat, j ≤ L.length ∧ t = .int .i64 j ∧ (∃ xs, W1.ownsRow wr.heap.size 3 1 (.slice a1 L.length cp1) L.length xs) ∧ Hid (Below wr.heap.size wr W1)) (fun t _ => L.length - (intOf t).toNat)
      case atStart => exact ⟨0, Nat.zero_le _, rfl, ⟨_, H34.out.1⟩, below_drewN H34.out.2 _⟩
      case round =>
        obtain ⟨j, hj, rfl, ⟨xs, hox⟩, hBx⟩ := hrel
        by_cases hjl : j < L.length
        · have hfr := hox
          rcases hfr.2 with ⟨e, h0⟩ | ⟨g, cap, cur, e, hg1, hg2, _⟩
          · omega
          · simp only [Value.slice.injEq] at e
            obtain ⟨rfl, _, rfl⟩ := e
            have hst := hox.stored j (.int .i64 (-7))
            have hcl : ∃ u, wr.cell? ⟨g, j, none⟩ = some u := by
              have := hox.cellAt j (by omega)
              rw [this]
              have hxl : j < xs.length := by rw [hox.1]; omega
              exact ⟨_, List.getElem?_eq_getElem hxl⟩
            obtain ⟨u, hcu⟩ := hcl
            have hfz := hox.frozenAt j
            have HST : Hid _ := hst
            clear hst hox hfr
            go_wp2
            go_roundw
            case rel => exact ⟨j + 1, by omega, by go_num, ⟨_, HST.out.1⟩, hBx.out.setCell hg1 _⟩
            case measure => simp [intOf]; omega
        · clear hox
          go_wp2
          go_roundw
          case rel => exact ⟨k + 1, by omega, by rw [← HAI.out]; go_num, hB.out.trans (hBx.out.mono hB.out.size)⟩
          case measure => simp [intOf]; omega
    · go_wp2
      go_ret
      exact ⟨rfl, hB.out⟩

end Go.Proofs.Ytinphcnknionmaa

namespace Go.Proofs.Ytinphcnknionmaa
open Go.RowKit

set_option maxRecDepth 100000 in
set_option maxHeartbeats 1000000 in
theorem FindAll_nil (w : World) (n : Int) (h0 : n < 0 ∨ 100000 < n) (a1 : Option Addr) (l1 c1 : Nat) (a b : Int) :
    Calls Try.prog 5 #[.int .i64 n, .slice a1 l1 c1, .int .i64 a, .int .i64 b] w fun e w' => e = .returned (.bool true) ∧ Below w.heap.size w w' := by
  have hN := fun w => New_no w n h0
  by_cases h1 : n < 0
  · clear h0
    have d1 : decide (n < 0) = true := by simp [h1]
    go_enter Try.func5, Try.ntmps5
    go_wp2_with fail
    refine (hN _).mono ?_
    rintro e w1 ⟨rfl, rfl⟩
    go_wp2_with fail
    refine (hN _).mono ?_
    rintro e w1 ⟨rfl, rfl⟩
    clear hN
    go_wp2_with fail
    refine (alive_in _).mono ?_
    rintro e w1 ⟨rfl, hb⟩
    go_wp2
    go_ret
    exact ⟨rfl, hb⟩
  · have d1 : decide (n < 0) = false := by simp; omega
    have d2 : decide (100000 < n) = true := by simp; omega
    clear h0
    go_enter Try.func5, Try.ntmps5
    go_wp2_with fail
    refine (hN _).mono ?_
    rintro e w1 ⟨rfl, rfl⟩
    go_wp2_with fail
    refine (hN _).mono ?_
    rintro e w1 ⟨rfl, rfl⟩
    clear hN
    go_wp2_with fail
    refine (alive_in _).mono ?_
    rintro e w1 ⟨rfl, hb⟩
    go_wp2
    go_ret
    exact ⟨rfl, hb⟩

set_option maxRecDepth 100000 in
set_option maxHeartbeats 1000000 in
theorem FindAll_great (w : World) (n : Nat) (h0 : 60 < n) (h1 : n ≤ 100000) (a1 : Option Addr) (l1 c1 : Nat) (a b : Int) :
    Calls Try.prog 5 #[.int .i64 n, .slice a1 l1 c1, .int .i64 a, .int .i64 b] w fun e w' => e = .returned (.bool true) ∧ Below w.heap.size w w' := by
  have hN := fun w => New_st w n h1
  have d1 : decide ((n : Int) < 0) = false := by simp
  have d2 : decide (100000 < (n : Int)) = false := by simp; omega
  have d3 : (60 : Int) < (n : Int) := by omega
  have q3 : wrap64 ((n : Int) - 1) = (n : Int) - 1 := by unfold wrap64; omega
  have hl : leastV n Uf.g0 ((n : Int) - 1) = (n : Int) - 1 := by
    have : inB n ((n : Int) - 1) = true := decide_eq_true (by omega)
    rw [leastV_in this]
    show (((((n : Int) - 1).toNat) : Nat) : Int) = _
    omega
  have HL : Hid (leastV n Uf.g0 ((n : Int) - 1) = (n : Int) - 1) := hl
  have hpos : 1 ≤ n := by omega
  have hup : n < 1000000 := by omega
  clear h1 hl h0
  go_enter Try.func5, Try.ntmps5
  go_wp2_with fail
  refine (hN _).mono ?_
  rintro e w1 ⟨rfl, s1, b1⟩
  go_wp2_with fail
  refine (hN _).mono ?_
  rintro e w2 ⟨rfl, _, b2⟩
  clear hN
  have s2 := s1.later b2
  have C := Count_st _ _ _ _ _ _ _ _ s2
  have Le := fun m => Least_in (w2.drewN m) _ _ _ _ _ _ _ s2.lies.drewN _ s2.ok ((n : Int) - 1)
  have hb2 := b1.trans (b2.mono b1.size)
  rw [show (if inB n ((n : Int) - 1) = true then ((Uf.g0.lo ((n : Int) - 1).toNat : Nat) : Int) else -1) = (n : Int) - 1 from HL.out] at Le
  rw [show ((n : Int) - (([] : List Uf.Rec).length : Nat)) = (n : Int) from by simp] at C
  go_wp2_with fail
  refine C.mono ?_
  rintro e w3 ⟨rfl, m3, rfl⟩
  go_wp2_with fail
  refine (Le _).mono ?_
  rintro e w3 ⟨rfl, m4, rfl⟩
  clear C Le
  go_wp2_with fail
  refine (alive_in _).mono ?_
  rintro e w9 ⟨rfl, hb⟩
  go_wp2
  go_ret
  exact ⟨rfl, (below_drewN hb2 _).trans (hb.mono (below_drewN hb2 _).size)⟩

theorem Ref.base {w : World} {base base' rp n : Nat} {lv : Value} {log : List (List Nat)} (h : Ref w base rp n lv log) (hb : base' ≤ base) : Ref w base' rp n lv log := by
  obtain ⟨vals, h1, h2, h3⟩ := h.rows
  refine ⟨h.sets, Nat.le_trans hb h.low, ⟨vals, h1, owns_base h2 hb, fun k l hl => ?_⟩, h.small⟩
  obtain ⟨v, hv, ho⟩ := h3 k l hl
  exact ⟨v, hv, owns_base ho hb⟩

theorem Two.later {w W W' : World} {B p nb q mb n : Nat} {s r : GT} (h : Two w W B p nb q mb n s r) (hB : Below W.heap.size W W') : Two w W' B p nb q mb n s r := by
  obtain ⟨jv, kv, h1, h2, h3⟩ := h.both
  exact ⟨⟨jv, kv, h1.later hB, h2.later hB, h3⟩, h.below.trans (hB.mono h1.low)⟩

theorem two_new {w w1 w2 : World} {n : Nat} (s1 : St w1 w.heap.size (w.heap.size + 1) w.heap.size (.slice none 0 0) n Uf.g0 []) (b1 : Below w.heap.size w w1)
    (s2 : St w2 w1.heap.size (w1.heap.size + 1) w1.heap.size (.slice none 0 0) n Uf.g0 []) (b2 : Below w1.heap.size w1 w2) :
    Two w w2 w.heap.size (w.heap.size + 1) w.heap.size (w1.heap.size + 1) w1.heap.size n (Uf.g0, []) (Uf.g0, []) := by
  have hf := fun k hk => foot_lt s1 k hk
  refine ⟨⟨_, _, s1.later b2, s2.base b1.size, ?_⟩, b1.trans (b2.mono b1.size)⟩
  intro k hk hq
  have := hf k hk
  rcases hq with hq | hq | hq
  · omega
  · omega
  · simp [Value.ownBlock] at hq

set_option maxRecDepth 100000 in
set_option maxHeartbeats 4000000 in
theorem FindAll_main (w : World) (n : Nat) (hn : n ≤ 60) (a1 : Option Addr) (c1 : Nat) (o1 : List (Int × Int × Int)) (h1 : Script w a1 o1) (m1 : o1.length ≤ maxLen) (a b : Int) :
    Calls Try.prog 5 #[.int .i64 n, .slice a1 o1.length c1, .int .i64 a, .int .i64 b] w fun e w' => e = .returned (.bool true) ∧ Below w.heap.size w w' := by
  unfold maxLen at m1
  have hN := fun w => New_st w n (by omega)
  have hR := fun w => rNew_in w n (by omega)
  have hn2 : decide ((60 : Int) < (n : Int)) = false := by simp; omega
  have hn3 : decide ((n : Int) < 0) = false := by simp
  have hn4 : decide (100000 < (n : Int)) = false := by simp; omega
  go_enter Try.func5, Try.ntmps5
  go_wp2_with fail
  refine (hN _).mono ?_
  rintro e w1 ⟨rfl, s1, b1⟩
  go_wp2_with fail
  refine (hN _).mono ?_
  rintro e w2 ⟨rfl, s2, b2⟩
  clear hN
  have T0 := two_new s1 b1 s2 b2
  have hsz : w.heap.size ≤ w2.heap.size := Nat.le_trans b1.size b2.size
  clear s1 b1 s2 b2
  generalize w1.heap.size + 1 = q at *
  generalize w1.heap.size = mb at *
  generalize w.heap.size + 1 = p at *
  go_wp2_with fail
  refine (hR _).mono ?_
  rintro e w3 ⟨rp, lv, rfl, r3, b3⟩
  clear hR
  have T1 : Three w w3 w.heap.size p w.heap.size q mb rp n (Uf.g0, []) (Uf.g0, []) := ⟨T0.later b3, ⟨lv, r3.base hsz⟩, Nat.le_trans hsz b3.size, hn⟩
  clear T0 r3 b3 hsz
  go_wp2_with fail
  go_loopw [12] (fun t W => ∃ k : Nat, k ≤ o1.length ∧ t = .int .i64 k ∧ ∃ s r, Three w W w.heap.size p w.heap.size q mb rp n s r) (fun t _ => o1.length - (intOf t).toNat)
  case atStart => exact ⟨0, Nat.zero_le _, rfl, _, _, T1⟩
  case round =>
    clear T1
    obtain ⟨k, hk, rfl, s, r, hT⟩ := hrel
    by_cases hlt : k < o1.length
    · obtain ⟨bb, off, rfl, hb, k0, k1, k2⟩ := h1.at_ k hlt
      generalize (o1[k]?.getD (0, 0, 0)).1 = Kd at k0
      generalize (o1[k]?.getD (0, 0, 0)).2.1 = A at k1
      generalize (o1[k]?.getD (0, 0, 0)).2.2 = C at k2
      have d0 := (hT.below.cell (p := ⟨bb, off + k * 3, none⟩) hb).trans k0
      have d1 := (hT.below.cell (p := ⟨bb, off + k * 3 + 1, none⟩) hb).trans k1
      have d2 := (hT.below.cell (p := ⟨bb, off + k * 3 + 2, none⟩) hb).trans k2
      have hT1 := hT.later ((Below.refl wr.heap.size wr).alloc (Nat.le_refl _) (.cells #[.int .i64 Kd, .int .i64 A, .int .i64 C] 53))
      have HX : Hid (∀ W', OpKept (wr.alloc (.cells #[.int .i64 Kd, .int .i64 A, .int .i64 C] 53)) W' → W'.cell? ⟨wr.heap.size, 0, none⟩ = some (.int .i64 Kd) ∧ W'.cell? ⟨wr.heap.size, 1, none⟩ = some (.int .i64 A) ∧ W'.cell? ⟨wr.heap.size, 2, none⟩ = some (.int .i64 C)) := by
        intro W' hO
        have hk := hO wr.heap.size _ (World.alloc_heap_new wr (.cells #[.int .i64 Kd, .int .i64 A, .int .i64 C] 53))
        exact ⟨by simp [World.cell?, hk], by simp [World.cell?, hk], by simp [World.cell?, hk]⟩
      go_wp2_with fail
      refine (hT1.join2 _ _).mono ?_
      rintro e w4 ⟨⟨x4, rfl⟩, ⟨r4, hT4⟩, ok4⟩
      obtain ⟨e0, e1, e2⟩ := HX.out _ ok4
      have OK4 : Hid (OpKept _ _) := ok4
      clear d0 d1 d2 k0 k1 k2 hT hT1 ok4
      by_cases hkd : Kd = 0
      · subst hkd
        go_wp2_with fail
        refine (hT4.join1 A C).mono ?_
        rintro e w5 ⟨rfl, hH5, ok5⟩
        have OK5 : Hid (OpKept _ w5) := fun k cur hk => ok5 k cur (OK4.out k cur hk)
        obtain ⟨f0, f1, f2⟩ := HX.out _ OK5.out
        clear e0 e1 e2 hT4 ok5
        go_wp2_with fail
        refine (hH5.join A C).mono ?_
        rintro e w6 ⟨rfl, hT6, _⟩
        clear f0 f1 f2 hH5 OK5 OK4 HX
        have SH := shows_in w w6 _ _ _ _ _ _ _ _ _ hT6
        generalize joins n s.1 A C = jb at *
        generalize stp n s (A, C) = s6 at *
        go_wp2_with fail
        refine SH.mono ?_
        rintro e w7 ⟨rfl, b7⟩
        have hT7 := hT6.later b7
        clear SH hT6 b7
        have SA := hT7.same a b
        have SB := fun m => (hT7.drewN (m := m)).rsame a b
        generalize sameB n s6.1 a b = sb at SA SB
        go_wp2_with fail
        refine SA.mono ?_
        rintro e w8 ⟨rfl, m8, rfl⟩
        go_wp2_with fail
        refine (SB _).mono ?_
        rintro e w9 ⟨rfl, m9, rfl⟩
        clear SA SB
        go_wp2
        go_roundw
        case rel => exact ⟨k + 1, by omega, by go_num, _, _, hT7.drewN⟩
        case measure => simp [intOf]; omega
      · have hk0 : (Kd == 0) = false := beq_eq_false_iff_ne.2 hkd
        clear hkd
        go_wp2_with fail
        refine (hT4.undo1 A).mono ?_
        rintro e w5 ⟨rfl, hH5, ok5⟩
        have OK5 : Hid (OpKept _ w5) := fun k cur hk => ok5 k cur (OK4.out k cur hk)
        obtain ⟨f0, f1, f2⟩ := HX.out _ OK5.out
        clear e0 e1 e2 hT4 ok5
        go_wp2_with fail
        refine (hH5.undo A).mono ?_
        rintro e w6 ⟨rfl, hT6, _⟩
        clear f0 f1 f2 hH5 OK5 OK4 HX
        have SH := shows_in w w6 _ _ _ _ _ _ _ _ _ hT6
        generalize undoes s.2 A = jb at *
        generalize (Uf.back s.1 s.2 (undoK s.2 A), s.2.drop (undoK s.2 A)) = s6 at *
        go_wp2_with fail
        refine SH.mono ?_
        rintro e w7 ⟨rfl, b7⟩
        have hT7 := hT6.later b7
        clear SH hT6 b7
        have SA := hT7.same a b
        have SB := fun m => (hT7.drewN (m := m)).rsame a b
        generalize sameB n s6.1 a b = sb at SA SB
        go_wp2_with fail
        refine SA.mono ?_
        rintro e w8 ⟨rfl, m8, rfl⟩
        go_wp2_with fail
        refine (SB _).mono ?_
        rintro e w9 ⟨rfl, m9, rfl⟩
        clear SA SB
        go_wp2
        go_roundw
        case rel => exact ⟨k + 1, by omega, by go_num, _, _, hT7.drewN⟩
        case measure => simp [intOf]; omega
    · go_wp2_with fail
      refine (alive_in _).mono ?_
      rintro e w9 ⟨rfl, hb⟩
      go_wp2
      go_ret
      exact ⟨rfl, hT.below.trans (hb.mono hT.below.size)⟩

end Go.Proofs.Ytinphcnknionmaa
