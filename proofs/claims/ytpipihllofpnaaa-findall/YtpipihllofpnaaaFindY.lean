/- The document's own Sets (equateref02): Class; all that a run of FindAll holds. -/
import Derived.Test.YtpipihllofpnaaaFindX
namespace Go.Proofs.Ytpipihllofpnaaa
open Go.RowKit

theorem Ref.later {w W : World} {base rp n : Nat} {lv : Value} {log : List (List Nat)} (h : Ref w base rp n lv log) (hB : Below w.heap.size w W) : Ref W base rp n lv log :=
  h.other (S := fun k => w.heap.size ≤ k) ⟨hB.os, hB.tape, hB.output, hB.size, fun k hk _ => hB.block k hk⟩ (fun k _ _ hk _ hs => by have := (Array.getElem?_eq_some_iff.1 hk).1; omega)

theorem St.later {w W : World} {base p nb n : Nat} {jv : Value} {g : Uf.G} {t : List Uf.Rec} (h : St w base p nb jv n g t) (hB : Below w.heap.size w W) : St W base p nb jv n g t :=
  h.other (S := fun k => w.heap.size ≤ k) ⟨hB.os, hB.tape, hB.output, hB.size, fun k hk _ => hB.block k hk⟩ (by have := h.lies.sets.lt; omega) (by have := h.lies.nodes.lt; omega) (fun k hk => by have := (h.lies.joins.lt k hk).2; omega)

/-- A class, up to k. -/
def classTo (g : Uf.G) (i k : Nat) : List Nat := (List.range k).filter fun j => decide (g.rt j = g.rt i)
theorem classTo_succ (g : Uf.G) (i k : Nat) : classTo g i (k + 1) = classTo g i k ++ if g.rt k = g.rt i then [k] else [] := by
  unfold classTo
  rw [List.range_succ, List.filter_append]
  by_cases h : g.rt k = g.rt i <;> simp [h]
theorem classTo_length (g : Uf.G) (i k : Nat) : (classTo g i k).length ≤ k := by
  have := List.length_filter_le (fun j => decide (g.rt j = g.rt i)) (List.range k)
  rw [List.length_range] at this
  exact this
theorem classL_to {n : Nat} {g : Uf.G} {i : Nat} (hi : i < n) : classL n g (i : Int) = classTo g i n := by
  unfold classL classTo
  rw [if_pos (inB_nat hi), Int.toNat_natCast]

set_option maxRecDepth 100000 in
set_option maxHeartbeats 1000000 in
theorem rClass_in (w : World) (base rp n : Nat) (lv : Value) (s : GT) (h : RefS w base rp n lv s) (ht : s.2.length ≤ 60) (k : Nat) (hok : Uf.Ok n s.1 k) (a : Int) :
    Calls Try.prog 86 #[.pointer (some ⟨rp, 0, none⟩), .int .i64 a] w fun e w' => ∃ v, e = .returned v ∧ Below w.heap.size w w' ∧ w'.ownsRow w.heap.size 3 1 v (classL n s.1 a).length (intsC (classL n s.1 a)) := by
  have HA := rhas_in _ _ _ _ _ _ h a
  cases hb : inB n a
  · have hcl : classL n s.1 a = [] := by unfold classL; rw [hb]; rfl
    rw [hcl]
    rw [hb] at HA
    clear h
    go_enter Try.func86, Try.ntmps86
    go_wp2_with fail
    refine HA.mono ?_
    rintro e w' ⟨rfl, rfl⟩
    go_wp2
    go_ret
    exact ⟨_, rfl, Below.refl _ _, World.ownsRow_nil _ _ _ _⟩
  · have hb' := hb
    rw [hb] at HA
    obtain ⟨b1, b2⟩ := inB_true hb
    obtain ⟨i, rfl⟩ := Int.eq_ofNat_of_zero_le b1
    have hi : i < n := by omega
    rw [classL_to hi]
    have hn60 := h.small
    obtain ⟨i0, hi0, hz0, hz1, hz2⟩ := info_parts infoInt
    have LAT : Hid (∀ W, Below w.heap.size w W → RefS W base rp n lv s) := fun W hB => h.later hB
    have SAM : Hid (∀ W, Below w.heap.size w W → ∀ q, q < n → Calls Try.prog 35 #[.pointer (some ⟨rp, 0, none⟩), .int .i64 i, .int .i64 q] W fun e w' => e = .returned (.bool (decide (s.1.rt q = s.1.rt i))) ∧ ∃ m, w' = W.drewN m) := by
      intro W hB q hq
      have := rSame_in W base rp n lv s (h.later hB) ht k hok (i : Int) (q : Int)
      rw [show sameB n s.1 (i : Int) (q : Int) = decide (s.1.rt q = s.1.rt i) from by
        unfold sameB
        rw [hb', inB_nat hq, Int.toNat_natCast, Int.toNat_natCast, Bool.true_and, Bool.true_and]
        exact decide_eq_decide.2 eq_comm] at this
      exact this
    clear h hb hb' hok
    go_enter Try.func86, Try.ntmps86
    go_wp2_with fail
    refine HA.mono ?_
    rintro e w' ⟨rfl, rfl⟩
    clear HA
    go_wp2_with fail
    go_loopw [5, 6] (fun v t W => ∃ q : Nat, q ≤ n ∧ t = .int .i64 q ∧ W.ownsRow w.heap.size 3 1 v (classTo s.1 i q).length (intsC (classTo s.1 i q)) ∧ Hid (Below w.heap.size w W)) (fun _ t _ => n - (intOf t).toNat)
    case atStart => exact ⟨0, Nat.zero_le _, rfl, World.ownsRow_nil _ _ _ _, Below.refl _ _⟩
    case round =>
      obtain ⟨q, hq, rfl, hown, hB⟩ := hrel
      have c0 := (LAT.out _ hB.out).c0
      by_cases hlt : q < n
      · have hsn := classTo_succ s.1 i q
        have hlen := classTo_length s.1 i q
        have SQ := SAM.out _ hB.out q hlt
        have hl := hown.lt
        have HLT : Hid (∀ k, Value.ownBlock _ = some k → w.heap.size ≤ k) := fun k hk => (hl k hk).1
        clear hl
        by_cases hr : s.1.rt q = s.1.rt i
        · rw [if_pos hr] at hsn
          rw [decide_eq_true hr] at SQ
          have HSN : Hid (classTo s.1 i (q + 1) = classTo s.1 i q ++ [q]) := hsn
          generalize classTo s.1 i q = L at *
          clear hsn hr
          go_wp2_with fail
          refine SQ.mono ?_
          rintro e w4 ⟨rfl, m4, rfl⟩
          clear SQ
          go_wp2_with (at_builtin; refine wpList_append_own _ rfl _ _ 40 rfl w.heap.size 3 i0 _ 1 8 Try.underlying40 hi0 hz0 hz1 hz2 rfl (by decide) _ _ _ rfl (by exact World.ownsRow.alloc hown _) ⟨wr.heap.size, 0, none⟩ 1 1 [.int .i64 (q : Int)] rfl rfl (by exact cell_one_new wr _ _) (by simp [Value.oneCell']) (by unfold maxLen; omega) (by omega) (by have := hB.out.size; simp; omega) ?_; intro v' w5 hown5 hgrow5 _; have hB5 : Hid (Below w.heap.size w w5) := Below.grown (below_drewN (hB.out.alloc hB.out.size _) m4) hgrow5 (by have := hB.out.size; simp; omega) (fun k hk => HLT.out k hk))
          go_roundw
          case rel => exact ⟨q + 1, by omega, by go_num, by rw [HSN.out, List.length_append, intsC_snoc]; exact hown5, hB5⟩
          case measure => simp [intOf]; omega
        · rw [if_neg hr, List.append_nil] at hsn
          rw [decide_eq_false hr] at SQ
          have HSN : Hid (classTo s.1 i (q + 1) = classTo s.1 i q) := hsn
          generalize classTo s.1 i q = L at *
          clear hsn hr
          go_wp2_with fail
          refine SQ.mono ?_
          rintro e w4 ⟨rfl, m4, rfl⟩
          clear SQ
          go_wp2
          go_roundw
          case rel => exact ⟨q + 1, by omega, by go_num, by rw [HSN.out]; exact hown, below_drewN hB.out m4⟩
          case measure => simp [intOf]; omega
      · obtain rfl : q = n := by omega
        have HO : Hid _ := hown
        clear hown
        go_wp2
        go_ret
        exact ⟨_, rfl, hB.out, HO.out⟩

/-- All that a run of FindAll holds: s and the document's Sets in one state; another Sets beside them. -/
structure Three (w W : World) (B p nb q mb rp n : Nat) (s r : GT) : Prop where
  two : Two w W B p nb q mb n s r
  ref : ∃ lv, RefS W B rp n lv s
  low : B ≤ W.heap.size
  small : n ≤ 60

theorem Three.below {w W : World} {B p nb q mb rp n : Nat} {s r : GT} (h : Three w W B p nb q mb rp n s r) : Below B w W := h.two.below
theorem Three.st {w W : World} {B p nb q mb rp n : Nat} {s r : GT} (h : Three w W B p nb q mb rp n s r) : ∃ jv, St W B p nb jv n s.1 s.2 := by
  obtain ⟨jv, kv, h1, _, _⟩ := h.two.both
  exact ⟨jv, h1⟩
theorem Three.ok {w W : World} {B p nb q mb rp n : Nat} {s r : GT} (h : Three w W B p nb q mb rp n s r) : Uf.Ok n s.1 s.2.length := by
  obtain ⟨jv, h1⟩ := h.st
  exact h1.ok
theorem Three.len {w W : World} {B p nb q mb rp n : Nat} {s r : GT} (h : Three w W B p nb q mb rp n s r) : s.2.length ≤ 60 := by have := h.ok.num_le; have := h.small; omega
theorem Three.drewN {w W : World} {B p nb q mb rp n : Nat} {s r : GT} (h : Three w W B p nb q mb rp n s r) {m : Nat} : Three w (W.drewN m) B p nb q mb rp n s r := by
  obtain ⟨lv, hr⟩ := h.ref
  exact ⟨h.two.drewN, ⟨lv, hr.drewN⟩, h.low, h.small⟩

/-- New blocks alone. -/
theorem Three.later {w W W' : World} {B p nb q mb rp n : Nat} {s r : GT} (h : Three w W B p nb q mb rp n s r) (hB : Below W.heap.size W W') : Three w W' B p nb q mb rp n s r := by
  obtain ⟨lv, hr⟩ := h.ref
  obtain ⟨jv, kv, h1, h2, h3⟩ := h.two.both
  exact ⟨⟨⟨jv, kv, h1.later hB, h2.later hB, h3⟩, h.two.below.trans (hB.mono h.low)⟩, ⟨lv, hr.later hB⟩, Nat.le_trans h.low hB.size, h.small⟩

/-- The document's Sets is turned alone. -/
theorem Two.ref {w W W' : World} {B p nb q mb rp n : Nat} {s r s' : GT} {lv : Value} (h : Two w W B p nb q mb n s r) (hr : RefS W B rp n lv s') (hK : Kept (RFoot rp lv) W W') : Two w W' B p nb q mb n s r := by
  obtain ⟨jv, kv, h1, h2, h3⟩ := h.both
  have nf : ∀ {x y : Nat} {v : Value} {g : Uf.G} {t : List Uf.Rec}, St W B x y v n g t → ∀ k, Foot x y v k → ¬ RFoot rp lv k := by
    intro x y v g t hst k hk hf
    have key : ∃ cur e, W.heap[k]? = some (.cells cur e (0, 0)) ∧ (e = 128 ∨ e = 130 ∨ e = 135) := by
      rcases hk with rfl | rfl | hk
      · obtain ⟨c, hc, _⟩ := hst.lies.sets; exact ⟨c, _, hc, Or.inl rfl⟩
      · obtain ⟨c, hc, _⟩ := hst.lies.nodes; exact ⟨c, _, hc, Or.inr (Or.inl rfl)⟩
      · obtain ⟨c, hc⟩ := row_block hst.lies.joins hk; exact ⟨c, _, hc, Or.inr (Or.inr rfl)⟩
    obtain ⟨cur, e, hc, he⟩ := key
    have := rfoot_types hr hc hf
    rcases he with rfl | rfl | rfl <;> rcases this with h | h <;> exact absurd h (by decide)
  have other : ∀ {x y : Nat} {v : Value} {g : Uf.G} {t : List Uf.Rec}, St W B x y v n g t → St W' B x y v n g t := fun hst =>
    hst.other hK (nf hst _ (Or.inl rfl)) (nf hst _ (Or.inr (Or.inl rfl))) (fun k hk => nf hst k (Or.inr (Or.inr hk)))
  refine ⟨⟨jv, kv, other h1, other h2, h3⟩, h.below.trans (hK.below h1.low ?_)⟩
  intro k hk
  rcases hk with rfl | hk
  · exact hr.low
  · obtain ⟨vals, _, v2, _⟩ := hr.rows
    exact (v2.lt k hk).1

/-- A boxed step of the script is as it was. -/
def OpKept (W W' : World) : Prop := ∀ (k : Nat) (cur : Array Value), W.heap[k]? = some (.cells cur 53 (0, 0)) → W'.heap[k]? = some (.cells cur 53 (0, 0))
theorem opKept_foot {W W' : World} {B p nb n : Nat} {jv : Value} {g : Uf.G} {t : List Uf.Rec} (h : St W B p nb jv n g t) (hK : Kept (Foot p nb jv) W W') : OpKept W W' := by
  intro k cur hk
  rw [hK.block k (Array.getElem?_eq_some_iff.1 hk).1 ?_]
  · exact hk
  · intro hf
    rcases hf with rfl | rfl | hf
    · obtain ⟨c, hc, _⟩ := h.lies.sets
      rw [hc] at hk; cases hk
    · obtain ⟨c, hc, _⟩ := h.lies.nodes
      rw [hc] at hk; cases hk
    · obtain ⟨c, hc⟩ := row_block h.lies.joins hf
      rw [hc] at hk; cases hk
theorem opKept_rfoot {W W' : World} {B rp n : Nat} {lv : Value} {log : List (List Nat)} (h : Ref W B rp n lv log) (hK : Kept (RFoot rp lv) W W') : OpKept W W' := by
  intro k cur hk
  rw [hK.block k (Array.getElem?_eq_some_iff.1 hk).1 ?_]
  · exact hk
  · intro hf
    rcases rfoot_types h hk hf with e | e <;> exact absurd e (by decide)
theorem opKept_below {W W' : World} (hB : Below W.heap.size W W') : OpKept W W' := fun k cur hk => by rw [hB.block k (Array.getElem?_eq_some_iff.1 hk).1]; exact hk

theorem Three.join2 {w W : World} {B p nb q mb rp n : Nat} {s r : GT} (h : Three w W B p nb q mb rp n s r) (a b : Int) :
    Calls Try.prog 29 #[.pointer (some ⟨q, 0, none⟩), .int .i64 a, .int .i64 b] W fun e W' => (∃ x, e = .returned (.bool x)) ∧ (∃ r', Three w W' B p nb q mb rp n s r') ∧ OpKept W W' := by
  obtain ⟨lv, hr⟩ := h.ref
  obtain ⟨jv, kv, h1, h2, h3⟩ := h.two.both
  refine (Join_st W B q mb kv n r.1 r.2 h2 a b).mono ?_
  rintro e W' ⟨he, kv', h2', hK, hloc⟩
  refine ⟨⟨_, he⟩, ⟨stp n r (a, b), ⟨?_, ⟨lv, hr.other hK (foot_types h2)⟩, Nat.le_trans h.low hK.size, h.small⟩⟩, opKept_foot h2 hK⟩
  exact (Two.step (s := r) (r := s) (s' := stp n r (a, b)) h2 h1 (fun k x y => h3 k y x) h.two.below h2' hK hloc).swap

/-- s alone has been turned: the document's Sets is still in the old state. -/
structure Half (w W : World) (B p nb q mb rp n : Nat) (s s' r : GT) : Prop where
  two : Two w W B p nb q mb n s' r
  ref : ∃ lv, RefS W B rp n lv s
  low : B ≤ W.heap.size
  small : n ≤ 60
  ok : ∃ k, Uf.Ok n s.1 k
  len : s.2.length ≤ 60

theorem Three.join1 {w W : World} {B p nb q mb rp n : Nat} {s r : GT} (h : Three w W B p nb q mb rp n s r) (a b : Int) :
    Calls Try.prog 29 #[.pointer (some ⟨p, 0, none⟩), .int .i64 a, .int .i64 b] W fun e W' => e = .returned (.bool (joins n s.1 a b)) ∧ Half w W' B p nb q mb rp n s (stp n s (a, b)) r ∧ OpKept W W' := by
  obtain ⟨lv, hr⟩ := h.ref
  obtain ⟨jv, kv, h1, h2, h3⟩ := h.two.both
  refine (Join_st W B p nb jv n s.1 s.2 h1 a b).mono ?_
  rintro e W' ⟨he, jv', h1', hK, hloc⟩
  exact ⟨he, ⟨Two.step (s' := stp n s (a, b)) h1 h2 h3 h.two.below h1' hK hloc, ⟨lv, hr.other hK (foot_types h1)⟩, Nat.le_trans h.low hK.size, h.small, ⟨_, h.ok⟩, h.len⟩, opKept_foot h1 hK⟩

theorem Three.undo1 {w W : World} {B p nb q mb rp n : Nat} {s r : GT} (h : Three w W B p nb q mb rp n s r) (m : Int) :
    Calls Try.prog 31 #[.pointer (some ⟨p, 0, none⟩), .int .i64 m] W fun e W' => e = .returned (.bool (undoes s.2 m)) ∧ Half w W' B p nb q mb rp n s (Uf.back s.1 s.2 (undoK s.2 m), s.2.drop (undoK s.2 m)) r ∧ OpKept W W' := by
  obtain ⟨lv, hr⟩ := h.ref
  obtain ⟨jv, kv, h1, h2, h3⟩ := h.two.both
  refine (Undo_st W B p nb jv n s.1 s.2 h1 m).mono ?_
  rintro e W' ⟨he, jv', h1', hK, hloc⟩
  exact ⟨he, ⟨Two.step (s' := (Uf.back s.1 s.2 (undoK s.2 m), s.2.drop (undoK s.2 m))) h1 h2 h3 h.two.below h1' hK (Or.inl hloc), ⟨lv, hr.other hK (foot_types h1)⟩, Nat.le_trans h.low hK.size, h.small, ⟨_, h.ok⟩, h.len⟩, opKept_foot h1 hK⟩

theorem Half.join {w W : World} {B p nb q mb rp n : Nat} {s r : GT} (a b : Int) (h : Half w W B p nb q mb rp n s (stp n s (a, b)) r) :
    Calls Try.prog 30 #[.pointer (some ⟨rp, 0, none⟩), .int .i64 a, .int .i64 b] W fun e W' => e = .returned (.bool (joins n s.1 a b)) ∧ Three w W' B p nb q mb rp n (stp n s (a, b)) r ∧ OpKept W W' := by
  obtain ⟨lv, hr⟩ := h.ref
  obtain ⟨k, hok⟩ := h.ok
  refine (rJoin_in W B rp n lv s hr h.low h.len k hok a b).mono ?_
  rintro e W' ⟨he, lv', hr', hK⟩
  exact ⟨he, ⟨h.two.ref hr hK, ⟨lv', hr'⟩, Nat.le_trans h.low hK.size, h.small⟩, opKept_rfoot hr hK⟩

theorem Half.undo {w W : World} {B p nb q mb rp n : Nat} {s r : GT} (m : Int) (h : Half w W B p nb q mb rp n s (Uf.back s.1 s.2 (undoK s.2 m), s.2.drop (undoK s.2 m)) r) :
    Calls Try.prog 32 #[.pointer (some ⟨rp, 0, none⟩), .int .i64 m] W fun e W' => e = .returned (.bool (undoes s.2 m)) ∧ Three w W' B p nb q mb rp n (Uf.back s.1 s.2 (undoK s.2 m), s.2.drop (undoK s.2 m)) r ∧ OpKept W W' := by
  obtain ⟨lv, hr⟩ := h.ref
  refine (rUndo_in W B rp n lv s hr h.len m).mono ?_
  rintro e W' ⟨he, lv', hr', hK⟩
  exact ⟨he, ⟨h.two.ref hr hK, ⟨lv', hr'⟩, Nat.le_trans h.low hK.size, h.small⟩, opKept_rfoot hr hK⟩

end Go.Proofs.Ytpipihllofpnaaa
