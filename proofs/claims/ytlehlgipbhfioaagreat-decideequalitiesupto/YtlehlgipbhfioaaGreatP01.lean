/- Package find: Join. Package sat: watch. Package sat: moves. Package sat: what the walks of visit and follow want of a search, plainly, and that the steps keep it. -/
import Derived.Test.YtlehlgipbhfioaaGreatP00
import Derived.Deep.RegionLaw
import Derived.RangeFuncBox
import Derived.WideShapes
import Derived.Deep.RegionHeld3
namespace Go.Proofs.YtlehlgipbhfioaaGreat
open Go.RowKit

/-- append onto a row of one's own: told besides: what comes lies where the row lay, or in a new block. -/
theorem run_append_here {P : Program} (w : World) (base : Nat) (t ty e : TypeId) (i : TypeInfo) (z : Value) (size bytes : Nat) (ht : P.underlying t = some (.slice e)) (hi : P.info? e = some i) (hz : i.zero = some z)
    (hsize : i.size = size) (hby : i.bytes = bytes) (hzs : z.cells.size = size) (hsz : 0 < size)
    (v : Value) (n : Nat) (xs : List Value) (hown : w.ownsRow base e size v n xs)
    (a : Addr) (m c : Nat) (news : List Value) (hl : news.length = m * size) (hnews : ∀ j u, news[j]? = some u → w.cell? (a.add j) = some u) (h1 : ∀ u ∈ news, u.oneCell' = true)
    (h63 : n + m ≤ maxLen) (hbytes : (n + m) * bytes ≤ 140737488355328) (hbase : base ≤ w.heap.size) :
    ∃ v' w', (Builtin.append_ #[t, t] ty #[v, .slice (some a) m c]).run P w = .ok v' w' ∧ w'.ownsRow base e size v' (n + m) (xs ++ news) ∧ w.grownBy w' v.ownBlock ∧
      (v'.ownBlock = v.ownBlock ∨ ∀ k, v'.ownBlock = some k → w.heap.size ≤ k) := by
  obtain ⟨v', w', hr, r1, r2, _⟩ := run_append_own (P := P) w base t ty e i z size bytes ht hi hz hsize hby hzs hsz v n xs hown a m c news hl hnews h1 h63 hbytes hbase
  refine ⟨v', w', hr, r1, r2, ?_⟩
  rcases hown.2 with ⟨rfl, rfl⟩ | ⟨g, cap, cur, rfl, hbg, hg, hnc, hcm, hcs, htake⟩
  · obtain rfl : xs = [] := List.eq_nil_of_length_eq_zero (by simpa using hown.1)
    obtain ⟨v2, w2, hr2, s1, _⟩ := run_append_own (P := P) w w.heap.size t ty e i z size bytes ht hi hz hsize hby hzs hsz (.slice none 0 0) 0 [] (World.ownsRow_nil w _ e size) a m c news hl hnews h1 h63 hbytes (Nat.le_refl _)
    rw [hr] at hr2
    cases hr2
    exact Or.inr fun k hk => (s1.lt k hk).1
  · by_cases hroom : n + m ≤ cap
    · subst hsize
      have hfit : n * i.size + news.length ≤ cur.size := by rw [hl, hcs, ← Nat.add_mul]; exact Nat.mul_le_mul_right _ hroom
      have hr2 := run_append_room (P := P) w t ty e i ht hi g n cap cur hg a m c news hl hnews h1 hroom hfit
      rw [hr] at hr2
      cases hr2
      exact Or.inl rfl
    · obtain ⟨v2, w2, hr2, s1, _⟩ := run_append_arg_grows (P := P) w t ty e i z size bytes ht hi hz hsize hby hzs hsz ⟨g, 0, none⟩ n cap xs hown.1 (hown.cells (g := g) rfl) a m c news hl hnews (by omega) h63 hbytes
      rw [hr] at hr2
      cases hr2
      exact Or.inr fun k hk => (s1.lt k hk).1

/-- .. as one step of a region that draws. -/
theorem step_append_here {P : Program} {ops : Array Oper} {o : Oper} {a : Act} {w : World} {K : Act → World → Prop} {Q : Exit → Act → World → Prop} {E : Prop}
    (hg : o.guard = none) (s x : Operand) (t : TypeId) (hop : o.op = Op.call { callee := Callee.builtin Builtin.append, args := #[s, x], argTypes := #[t, t] })
    (base : Nat) (e : TypeId) (i : TypeInfo) (z : Value) (size bytes : Nat) (h1 : P.underlying t = some (.slice e)) (h2 : P.info? e = some i) (h3 : i.zero = some z) (h4 : i.size = size) (h5 : i.bytes = bytes) (h6 : z.cells.size = size) (h7 : 0 < size)
    (v : Value) (n : Nat) (xs : List Value) (hs : a.eval s = v) (hown : w.ownsRow base e size v n xs)
    (ad : Addr) (m c : Nat) (news : List Value) (hx : a.eval x = .slice (some ad) m c) (hn : news.length = m * size) (hc : ∀ j u, news[j]? = some u → w.cell? (ad.add j) = some u) (h1c : ∀ u ∈ news, u.oneCell' = true)
    (b1 : n + m ≤ maxLen) (b2 : (n + m) * bytes ≤ 140737488355328) (hbase : base ≤ w.heap.size)
    (hK : ∀ v' w', w'.ownsRow base e size v' (n + m) (xs ++ news) → w.grownBy w' v.ownBlock → (v'.ownBlock = v.ownBlock ∨ ∀ k, v'.ownBlock = some k → w.heap.size ≤ k) → K (a.put o.dst v') w') :
    if Region.wanted o (yielded ops a.tmps) = true then Oper.wp P o a w K Q else E := by
  have hw : Region.wanted o (yielded ops a.tmps) = true := by simp [Region.wanted, hg]
  rw [if_pos hw]
  obtain ⟨v', w', hrun, r1, r2, r3⟩ := run_append_here (P := P) w base t o.type e i z size bytes h1 h2 h3 h4 h5 h6 h7 v n xs hown ad m c news hn hc h1c b1 b2 hbase
  unfold Oper.wp
  simp [execOp, hop, resolve, invoke, builtin, hs, hx, hrun, Result.andThen]
  exact hK v' w' r1 r2 r3

theorem cell_two_news (w : World) (m : Nat) (x y : Value) (t : TypeId) : ∀ j u, [x, y][j]? = some u → ((w.drewN m).alloc (.cells #[x, y] t)).cell? ((⟨w.heap.size, 0, none⟩ : Addr).add j) = some u := by
  intro j u hj
  have e : ∀ k, ((w.drewN m).alloc (.cells #[x, y] t)).cell? ⟨w.heap.size, k, none⟩ = #[x, y][k]? := fun k => World.cell?_alloc_at (w := w.drewN m) _ t _ k rfl
  match j, hj with
  | 0, hj => simp at hj; subst hj; rw [show (⟨w.heap.size, 0, none⟩ : Addr).add 0 = ⟨w.heap.size, 0, none⟩ from by simp [Addr.add], e]; rfl
  | 1, hj => simp at hj; subst hj; rw [show (⟨w.heap.size, 0, none⟩ : Addr).add 1 = ⟨w.heap.size, 1, none⟩ from by simp [Addr.add], e]; rfl
  | j + 2, hj => simp at hj

theorem infoJoin : (Tryz.prog.info? 220).map (fun i => (i.zero, i.size, i.bytes)) = some (some (.agg #[.int .i64 0, .int .i64 0]), 2, 16) := by kernel_rfl

set_option maxHeartbeats 1000000 in
theorem Join_no (w : World) (base p nb n : Nat) (g : Uf.G) (jv : Value) (js : List (Nat × Nat)) (h : Lies w base p nb n g jv js) (k : Nat) (hg : Uf.Ok n g k) (a b : Int) (hno : inB n a = false ∨ inB n b = false ∨ sameB n g a b = true) :
    Calls Tryz.prog 71 #[.pointer (some ⟨p, 0, none⟩), .int .i64 a, .int .i64 b] w fun e w' => e = .returned (.bool false) ∧ w = w' := by
  cases ha : inB n a
  · clear hno
    go_enter Tryz.func71, Tryz.ntmps71
    go_wp2_with fail
    refine (has_in _ _ _ _ _ _ _ _ h a).mono ?_
    rintro e w' ⟨rfl, rfl⟩
    rw [ha]
    go_wp2
    go_ret
    exact ⟨rfl, rfl⟩
  · cases hb : inB n b
    · clear hno
      go_enter Tryz.func71, Tryz.ntmps71
      go_wp2_with fail
      refine (has_in _ _ _ _ _ _ _ _ h a).mono ?_
      rintro e w' ⟨rfl, rfl⟩
      rw [ha]
      go_wp2_with fail
      refine (has_in _ _ _ _ _ _ _ _ h b).mono ?_
      rintro e w' ⟨rfl, rfl⟩
      rw [hb]
      go_wp2
      go_ret
      exact ⟨rfl, rfl⟩
    · have hs : sameB n g a b = true := by
        rcases hno with x | x | x
        · rw [ha] at x; cases x
        · rw [hb] at x; cases x
        · exact x
      obtain ⟨a1, a2⟩ := inB_true ha
      obtain ⟨b1, b2⟩ := inB_true hb
      obtain ⟨i, rfl⟩ := Int.eq_ofNat_of_zero_le a1
      obtain ⟨j, rfl⟩ := Int.eq_ofNat_of_zero_le b1
      have hi : i < n := by omega
      have hj : j < n := by omega
      have heq : g.rt i = g.rt j := by simpa [sameB, ha, hb] using hs
      have hr := root_in w base p nb n g jv js h k hg j hj
      rw [← heq] at hr
      clear hno hs heq
      go_enter Tryz.func71, Tryz.ntmps71
      go_wp2_with fail
      refine (has_in _ _ _ _ _ _ _ _ h i).mono ?_
      rintro e w' ⟨rfl, rfl⟩
      rw [ha]
      go_wp2_with fail
      refine (has_in _ _ _ _ _ _ _ _ h j).mono ?_
      rintro e w' ⟨rfl, rfl⟩
      rw [hb]
      go_wp2_with fail
      refine (root_in _ _ _ _ _ _ _ _ h _ hg i hi).mono ?_
      rintro e w' ⟨rfl, rfl⟩
      go_wp2_with fail
      refine hr.mono ?_
      rintro e w' ⟨rfl, rfl⟩
      go_wp2
      go_ret
      exact ⟨rfl, rfl⟩

theorem joinC_snoc (js : List (Nat × Nat)) (c l : Nat) : joinC (js ++ [(c, l)]) = joinC js ++ [.int .i64 (c : Int), .int .i64 (l : Int)] := by simp [joinC]

/-- A join is kept: all else as it was. -/
theorem Lies.kept {w w1 : World} {base p nb n : Nat} {g : Uf.G} {jv : Value} {js : List (Nat × Nat)} (h : Lies w base p nb n g jv js) (m : Nat) (O : Obj) (hgrow : ((w.drewN m).alloc O).grownBy w1 jv.ownBlock) :
    w1.cell? ⟨p, 1, none⟩ = some jv ∧ w1.frozen? ⟨p, 1, none⟩ = false ∧ w1.rowIs p 148 2 (setsC nb n jv) ∧ w1.rowIs nb 150 (n * 4) (nodeC g) := by
  have hp : w1.rowIs p 148 2 (setsC nb n jv) := (h.drewN.sets.alloc O).of_block (hgrow.block p (h.drewN.sets.alloc O).lt (fun e => h.jp e.symm))
  have hn : w1.rowIs nb 150 (n * 4) (nodeC g) := (h.drewN.nodes.alloc O).of_block (hgrow.block nb (h.drewN.nodes.alloc O).lt (fun e => h.jn e.symm))
  exact ⟨hp.cell (i := 1) (by omega), hp.frozen 1, hp, hn⟩

abbrev Foot (p nb : Nat) (jv : Value) (k : Nat) : Prop := k = p ∨ k = nb ∨ jv.ownBlock = some k

theorem rowIs_type {w : World} {b : Nat} {t e : TypeId} {n : Nat} {f : Nat → Value} (h : w.rowIs b t n f) (hne : t ≠ e) {base size k : Nat} {v : Value} {xs : List Value} (hr : w.ownsRow base e size v k xs) : v.ownBlock ≠ some b := by
  intro hb
  rcases hr.2 with ⟨rfl, _⟩ | ⟨g, cap, cur, rfl, _, hg, _⟩
  · simp [Value.ownBlock] at hb
  · simp [Value.ownBlock] at hb
    subst hb
    obtain ⟨c, hc, _⟩ := h
    rw [hc] at hg
    simp at hg
    exact hne hg.2

theorem joined_lies {w w1 : World} {base p nb n : Nat} {g : Uf.G} {jv : Value} {js : List (Nat × Nat)} (h : Lies w base p nb n g jv js) (m : Nat) (O : Obj) (c l : Nat) (v' : Value)
    (hown : w1.ownsRow base 220 2 v' (js.length + 1) (joinC js ++ [.int .i64 (c : Int), .int .i64 (l : Int)])) (hgrow : ((w.drewN m).alloc O).grownBy w1 jv.ownBlock)
    (hloc : v'.ownBlock = jv.ownBlock ∨ ∀ k, v'.ownBlock = some k → ((w.drewN m).alloc O).heap.size ≤ k) :
    Lies (w1.setCell ⟨p, 1, none⟩ v') base p nb n g v' (js ++ [(c, l)]) ∧ Kept (Foot p nb jv) w (w1.setCell ⟨p, 1, none⟩ v') ∧ (v'.ownBlock = jv.ownBlock ∨ ∀ k, v'.ownBlock = some k → w.heap.size ≤ k) := by
  obtain ⟨_, _, hp, hn⟩ := h.kept m O hgrow
  have np := rowIs_type hp (by decide) hown
  have nn := rowIs_type hn (by decide) hown
  refine ⟨⟨(hp.set 1 v').congr ?_, hn.setOther (Ne.symm h.ne) _, ?_, h.ne, np, nn, h.bp, h.bn, h.small⟩, ?_, ?_⟩
  · intro i hi
    unfold setsC
    by_cases e : i = 0
    · simp [e]
    · rw [if_pos (by omega), if_neg e]
  · rw [joinC_snoc, List.length_append]
    exact ownsRow_setCell_other hown np _
  · exact Kept.setCell (S := Foot p nb jv) (p := ⟨p, 1, none⟩) (Kept.grown (((Kept.refl (Foot p nb jv) w).drewN m).alloc O) hgrow (fun k hk => Or.inr (Or.inr hk))) (Or.inl rfl) _
  · rcases hloc with e | e
    · exact Or.inl e
    · exact Or.inr fun k hk => by have := e k hk; simp at this; omega

/-- What the two ways of Join have in common at their end. -/
theorem Join_fin {w w1 w2 : World} {base p nb n : Nat} {g : Uf.G} {jv v' : Value} {js : List (Nat × Nat)} {c r : Nat} (hL : Kept (Foot p nb jv) w w1) (hloc : v'.ownBlock = jv.ownBlock ∨ ∀ k, v'.ownBlock = some k → w.heap.size ≤ k)
    (hn : Lies w2 base p nb n (Uf.hang g c r) v' (js ++ [(c, (g.N r).lst)])) (hk : Kept1 nb w1 w2) :
    ∃ jv', Lies w2 base p nb n (Uf.hang g c r) jv' (js ++ [(c, (g.N r).lst)]) ∧ Kept (Foot p nb jv) w w2 ∧ (jv'.ownBlock = jv.ownBlock ∨ ∀ k, jv'.ownBlock = some k → w.heap.size ≤ k) :=
  ⟨v', hn, hL.trans (hk.mono fun _ _ hk => Or.inr (Or.inl hk)), hloc⟩

set_option maxHeartbeats 2000000 in
theorem Join_yes (w : World) (base p nb n : Nat) (g : Uf.G) (jv : Value) (js : List (Nat × Nat)) (h : Lies w base p nb n g jv js) (hg : Uf.Ok n g js.length) (i j : Nat) (hi : i < n) (hj : j < n) (hne : g.rt i ≠ g.rt j) (hb : base ≤ w.heap.size) :
    Calls Tryz.prog 71 #[.pointer (some ⟨p, 0, none⟩), .int .i64 i, .int .i64 j] w fun e w' => e = .returned (.bool true) ∧ ∃ jv', Lies w' base p nb n (Uf.hang g (Uf.pick g i j).1 (Uf.pick g i j).2) jv' (js ++ [((Uf.pick g i j).1, (g.N (Uf.pick g i j).2).lst)]) ∧
      Kept (Foot p nb jv) w w' ∧ (jv'.ownBlock = jv.ownBlock ∨ ∀ k, jv'.ownBlock = some k → w.heap.size ≤ k) := by
  have ha := inB_nat hi
  have hb' := inB_nat hj
  have hri := hg.rtlt i hi
  have hrj := hg.rtlt j hj
  have hjn := hg.num_le
  have hn := h.small
  have c0 := h.c0
  have c1 := h.c1
  have si := h.siz hri
  have sj := h.siz hrj
  have Ri := root_in w base p nb n g jv js h _ hg i hi
  have Rj := root_in w base p nb n g jv js h _ hg j hj
  have hsz := hg.sizes (g.rt i) (g.rt j) hri hrj hne (hg.rtrt i hi) (hg.rtrt j hj)
  have hp : Uf.pick g i j = if (g.N (g.rt j)).siz < (g.N (g.rt i)).siz then (g.rt j, g.rt i) else (g.rt i, g.rt j) := rfl
  rw [hp]
  clear hp hg
  generalize g.rt i = x at *
  generalize g.rt j = y at *
  have hne' : ((x : Int) == (y : Int)) = false := beq_eq_false_iff_ne.2 (by omega)
  obtain ⟨i0, hi0, hz0, hz1, hz2⟩ := info_parts infoJoin
  have f1 := h.sets.frozen 1
  obtain ⟨ja, jc, rfl⟩ := h.jform
  have plt := h.sets.lt
  have nlt := h.nodes.lt
  have A0 : ∀ m O, ((w.drewN m).alloc O).cell? ⟨p, 0, none⟩ = some (.slice (some ⟨nb, 0, none⟩) n n) := fun m O => (h.drewN.sets.alloc O).cell (by omega)
  have A1 : ∀ m O, ((w.drewN m).alloc O).cell? ⟨p, 1, none⟩ = some (.slice ja js.length jc) := fun m O => (h.drewN.sets.alloc O).cell (i := 1) (by omega)
  have OWN := fun m O => (h.drewN (m := m)).joins.alloc O
  by_cases hs : (g.N y).siz < (g.N x).siz
  · rw [if_pos hs]
    go_enter Tryz.func71, Tryz.ntmps71
    go_wp2_with fail
    refine (has_in _ _ _ _ _ _ _ _ h i).mono ?_
    rintro e w' ⟨rfl, rfl⟩
    rw [ha]
    go_wp2_with fail
    refine (has_in _ _ _ _ _ _ _ _ h j).mono ?_
    rintro e w' ⟨rfl, rfl⟩
    rw [hb']
    go_wp2_with fail
    refine Ri.mono ?_
    rintro e w' ⟨rfl, rfl⟩
    go_wp2_with fail
    refine Rj.mono ?_
    rintro e w' ⟨rfl, rfl⟩
    clear Ri Rj
    go_wp2_with fail
    go_quiet (fail)
    go_wp2_with fail
    have ll := h.lst hri
    have A2 : ∀ m O, ((w.drewN m).alloc O).cell? ⟨nb, x * 4 + 3, none⟩ = some (.int .i64 ((g.N x).lst : Int)) := fun m O => by rw [← nodeC_lst]; exact (h.drewN.nodes.alloc O).cell (by omega)
    have NEW := fun m => cell_two_news w m (.int .i64 (y : Int)) (.int .i64 ((g.N x).lst : Int)) 220
    clear si sj hs hne'
    go_region_law (refine step_append_here rfl (.tmp 51) (.tmp 62) 146 rfl base 220 i0 _ 2 16 Tryz.underlying146 hi0 hz0 hz1 hz2 rfl (by decide) _ js.length (joinC js) (by simp [Act.eval]; rfl) (by exact OWN _ _) ⟨w.heap.size, 0, none⟩ 1 1 [.int .i64 (y : Int), .int .i64 ((g.N x).lst : Int)] (by simp [Act.eval]) rfl (by exact NEW _) (by simp [Value.oneCell']) (by unfold maxLen; omega) (by omega) (by simp; omega) ?_; intro v' w1 hown1 hgrow hloc; obtain ⟨kp1, kf1, _, _⟩ := h.kept _ _ hgrow; obtain ⟨b1, cap1, hv1⟩ := ownsRow_succ hown1; subst hv1)
    all_goals
      obtain ⟨L1, L2, L3⟩ := joined_lies h _ _ y (g.N x).lst _ hown1 hgrow hloc
      clear hown1 hgrow hloc kp1 kf1 A0 A1 A2 OWN NEW ll c0 c1 f1
      go_wp2_with fail
      refine (hang_in _ base p nb n g _ _ L1 y x hrj hri (Ne.symm hne) (by omega)).mono ?_
      rintro e w2 ⟨rfl, H1, H2⟩
      clear L1
      go_wp2
      go_ret
      exact ⟨rfl, Join_fin L2 L3 H1 H2⟩
  · rw [if_neg hs]
    go_enter Tryz.func71, Tryz.ntmps71
    go_wp2_with fail
    refine (has_in _ _ _ _ _ _ _ _ h i).mono ?_
    rintro e w' ⟨rfl, rfl⟩
    rw [ha]
    go_wp2_with fail
    refine (has_in _ _ _ _ _ _ _ _ h j).mono ?_
    rintro e w' ⟨rfl, rfl⟩
    rw [hb']
    go_wp2_with fail
    refine Ri.mono ?_
    rintro e w' ⟨rfl, rfl⟩
    go_wp2_with fail
    refine Rj.mono ?_
    rintro e w' ⟨rfl, rfl⟩
    clear Ri Rj
    go_wp2_with fail
    go_quiet (fail)
    go_wp2_with fail
    have ll := h.lst hrj
    have A2 : ∀ m O, ((w.drewN m).alloc O).cell? ⟨nb, y * 4 + 3, none⟩ = some (.int .i64 ((g.N y).lst : Int)) := fun m O => by rw [← nodeC_lst]; exact (h.drewN.nodes.alloc O).cell (by omega)
    have NEW := fun m => cell_two_news w m (.int .i64 (x : Int)) (.int .i64 ((g.N y).lst : Int)) 220
    clear si sj hs hne'
    go_region_law (refine step_append_here rfl (.tmp 51) (.tmp 62) 146 rfl base 220 i0 _ 2 16 Tryz.underlying146 hi0 hz0 hz1 hz2 rfl (by decide) _ js.length (joinC js) (by simp [Act.eval]; rfl) (by exact OWN _ _) ⟨w.heap.size, 0, none⟩ 1 1 [.int .i64 (x : Int), .int .i64 ((g.N y).lst : Int)] (by simp [Act.eval]) rfl (by exact NEW _) (by simp [Value.oneCell']) (by unfold maxLen; omega) (by omega) (by simp; omega) ?_; intro v' w1 hown1 hgrow hloc; obtain ⟨kp1, kf1, _, _⟩ := h.kept _ _ hgrow; obtain ⟨b1, cap1, hv1⟩ := ownsRow_succ hown1; subst hv1)
    all_goals
      obtain ⟨L1, L2, L3⟩ := joined_lies h _ _ x (g.N y).lst _ hown1 hgrow hloc
      clear hown1 hgrow hloc kp1 kf1 A0 A1 A2 OWN NEW ll c0 c1 f1
      go_wp2_with fail
      refine (hang_in _ base p nb n g _ _ L1 x y hri hrj hne (by omega)).mono ?_
      rintro e w2 ⟨rfl, H1, H2⟩
      clear L1
      go_wp2
      go_ret
      exact ⟨rfl, Join_fin L2 L3 H1 H2⟩

end Go.Proofs.YtlehlgipbhfioaaGreat

namespace Go.Proofs.YtlehlgipbhfioaaGreat
open Go.RowKit Go.Maps

/-- What append leaves of a literal's watches. -/
theorem winGrow {W : World} {A : Ad} {s : Sv} (h : Mem W A s) {wb : Nat} (hwb : A.blk .wout = some wb) (l : Nat) (hl : l < 2 * s.n + 2) (c o : Nat) :
    ∃ ta tc, W.cell? ⟨wb, l, none⟩ = some (.slice ta (s.wat l).length tc) ∧ W.frozen? ⟨wb, l, none⟩ = false ∧ W.ownsRow 0 274 2 (.slice ta (s.wat l).length tc) (s.wat l).length (watC A (s.wat l)) ∧
      ∀ (w8 : World) (O : Obj) (v8 : Value), w8.ownsRow 0 274 2 v8 ((s.wat l).length + 1) (watC A (s.wat l) ++ [A.ptr (.clause c), i32 o]) → (W.alloc O).grownBy w8 (Value.slice ta (s.wat l).length tc).ownBlock → (v8.ownBlock = (Value.slice ta (s.wat l).length tc).ownBlock ∨ ∀ k, v8.ownBlock = some k → (W.alloc O).heap.size ≤ k) →
        w8.cell? ⟨wb, l, none⟩ = some (.slice ta (s.wat l).length tc) ∧ w8.frozen? ⟨wb, l, none⟩ = false ∧ (∃ b k, v8 = .slice (some ⟨b, 0, none⟩) ((s.wat l).length + 1) k) ∧ (∀ r b', r ≠ .win l → A.blk r = some b' → w8.heap[b']? = W.heap[b']?) ∧ ∃ A', Step W (w8.setCell ⟨wb, l, none⟩ v8) A A' (s.addW l c o) ∧ ∀ r, r ≠ .win l → A'.blk r = A.blk r ∧ A'.sp r = A.sp r := by
  obtain ⟨ta, tc, hts⟩ := slv_form h (r := .win l) rfl
  have hlw : l < s.ws.length := by rw [h.lw]; exact hl
  have hcc : (cellsR A s .wout)[l]? = some (.slice ta (s.wat l).length tc) := by
    have e : s.ws[l]? = some (s.wat l) := by unfold Sv.wat; rw [List.getElem?_eq_getElem hlw]; rfl
    show (s.ws.mapIdx _)[l]? = _
    rw [List.getElem?_mapIdx, e]
    exact congrArg some hts
  have c1 := h.cell hwb hcc
  have f1 := h.frozen hwb l
  have ow := h.owns (r := .win l) rfl
  refine ⟨ta, tc, c1, f1, hts ▸ ow, fun w8 O v8 h1 h2 h3 => ?_⟩
  rw [← show A.slv (.win l) (lenR s (.win l)) (sizR (.win l)) = .slice ta (s.wat l).length tc from hts] at h2 h3
  obtain ⟨b, sp, e1, e2, e3, e4, e5, e6⟩ := h.grown (r := .win l) rfl (news := [A.ptr (.clause c), i32 o]) h1 h2 h3
  have hs := (e6 .wout wb (by intro e; cases e) hwb)
  have P := h.pushWin hwb l c o hl e1 e2 e3 e4 e6
  refine ⟨(World.cell?_of_block (a := ⟨wb, l, none⟩) hs.1).trans c1, (World.frozen?_of_block (a := ⟨wb, l, none⟩) hs.1).trans f1, ⟨b, _, e1⟩, fun r b' hr hb' => (e6 r b' hr hb').1, A.up (.win l) b sp, ⟨P, ?_, fun k hk => ?_⟩, fun r hr => ⟨if_neg hr, if_neg hr⟩⟩
  · have K : Kept A.Foot W w8 := Kept.grown ((Kept.refl _ W).alloc O) h2 (fun k hk => ⟨.win l, by
      have : (A.slv (.win l) (lenR s (.win l)) (sizR (.win l))).ownBlock = A.blk (.win l) := by unfold Ad.slv; cases A.blk (.win l) <;> rfl
      rw [← this]; exact hk⟩)
    exact K.setCell (p := ⟨wb, l, none⟩) ⟨_, hwb⟩ _
  · obtain ⟨r, hr⟩ := hk
    by_cases er : r = .win l
    · subst er
      have : k = b := by simpa [Ad.up] using hr.symm
      subst this
      rcases e5 with e5 | e5
      · exact Or.inl ⟨_, e5⟩
      · exact Or.inr e5
    · exact Or.inl ⟨r, by simpa [Ad.up, er] using hr⟩

theorem cell_two1 (w : World) (a b : Value) (ty : TypeId) : ∀ j u, [a, b][j]? = some u → (w.alloc (.cells #[a, b] ty)).cell? ((⟨w.heap.size, 0, none⟩ : Addr).add j) = some u := by
  intro j u hj
  have h := World.alloc_heap_new w (Obj.cells #[a, b] ty)
  have e := Go.WideShapes.add_plain w.heap.size 0 j
  rw [Nat.zero_add] at e
  rw [e]
  unfold World.cell?
  simp only [h]
  simpa using hj
theorem infoWatch : (Tryz.prog.info? 274).map (fun i => (i.zero, i.size, i.bytes)) = some (some (.agg #[.pointer none, .int .i32 0]), 2, 16) := by kernel_rfl

set_option maxRecDepth 100000 in
set_option maxHeartbeats 2000000 in
theorem watch_in (w : World) (A : Ad) (s : Sv) (h : Mem w A s) (sb : Nat) (hsb : A.blk .search = some sb) (c : Nat) (cb : Nat) (hcb : A.blk (.clause c) = some cb) (a b : Nat) (rest : List Nat) (hlits : s.lits c = a :: b :: rest) (ha : a < 2 * s.n + 2) (hb : b < 2 * s.n + 2) (hab : a ≠ b) (hlim : ∀ l, (s.wat l).length ≤ 4398046511100) :
    Calls Tryz.prog 125 #[.pointer (some ⟨sb, 0, none⟩), .pointer (some ⟨cb, 0, none⟩)] w fun e w' => e = .returned (.tuple #[]) ∧ ∃ A', Step w w' A A' (s.watch c) ∧ ∀ r, r ≠ .win a → r ≠ .win b → A'.blk r = A.blk r ∧ A'.sp r = A.sp r := by
  obtain ⟨wb, hwb⟩ := h.fix .wout rfl
  have hc : c < s.cl.length := (h.cls c).1 ⟨_, hcb⟩
  obtain ⟨rb, hrb⟩ := (h.rows c).2 hc
  have c1 := h.cell hsb (i := 1) rfl
  simp only [Ad.slv, hwb, h.flat.2.1, List.length_nil, Nat.zero_div, Nat.add_zero] at c1
  have k0 := h.cell hcb (i := 0) rfl
  simp only [Ad.slv, hrb, hlits, List.length_cons] at k0
  have r0 := h.cell hrb (i := 0) (v := i32 a) (by simp [cellsR, hlits])
  have r1 := h.cell hrb (i := 1) (v := i32 b) (by simp [cellsR, hlits])
  unfold i32 at r0 r1
  have hsm := h.small
  have HM : Hid (Mem w A s) := h
  have hi1 : (0 : Int) < (rest.length : Int) + 1 + 1 := by omega
  have hi2 : (1 : Int) < (rest.length : Int) + 1 + 1 := by omega
  clear h
  go_enter Tryz.func125, Tryz.ntmps125
  go_wp2_with fail
  go_quiet (fail)
  have M1 : Mem (w.drewN (nq + 1)) A s := HM.out.keep (fun _ _ => rfl)
  have S1 : Hid (Step w (w.drewN (nq + 1)) A A s) := Step.drew HM.out (nq + 1)
  have zw : wb < w.heap.size := HM.out.lt hwb
  have zs : sb < w.heap.size := HM.out.lt hsb
  clear HM r0 r1 k0
  obtain ⟨ta, tc, t1', t2', t3, t4⟩ := winGrow M1 hwb a ha c b
  have t1 : w.cell? ⟨wb, a, none⟩ = some (.slice ta (s.wat a).length tc) := t1'
  have t2 : w.frozen? ⟨wb, a, none⟩ = false := t2'
  have t1a : ∀ O, ((w.drewN (nq + 1)).alloc O).cell? ⟨wb, a, none⟩ = some (.slice ta (s.wat a).length tc) := fun O => (World.cell?_of_block (a := ⟨wb, a, none⟩) (Below.heap_alloc _ O wb zw)).trans t1'
  have c1a : ∀ O, ((w.drewN (nq + 1)).alloc O).cell? ⟨sb, 1, none⟩ = some (.slice (some ⟨wb, 0, none⟩) (2 * s.n + 2) (2 * s.n + 2)) := fun O => (World.cell?_of_block (a := ⟨sb, 1, none⟩) (Below.heap_alloc _ O sb zs)).trans c1
  clear t1' t2'
  have HT : Hid _ := t4
  have OW : Hid _ := t3
  have da : (a : Int) < 2 * (s.n : Int) + 2 := by omega
  obtain ⟨i0, hi0, hz0, hz1, hz2⟩ := info_parts infoWatch
  have hcp : A.ptr (.clause c) = .pointer (some ⟨cb, 0, none⟩) := by simp [Ad.ptr, hcb]
  rw [hcp] at HT
  clear t4 t3 M1
  generalize hwl : (s.wat a).length = wl at *
  have hwm : wl ≤ 4398046511100 := hwl ▸ hlim a
  go_wp2_with fail
  go_cut [18] from 19 to 35 (fun _ wx => ∃ A', Step w wx A A' (s.addW a c b) ∧ ∀ r, r ≠ .win a → A'.blk r = A.blk r ∧ A'.sp r = A.sp r)
  case first =>
    go_region_law (first | (refine step_append_here rfl (.tmp 29) (.tmp 33) 272 rfl 0 274 i0 _ 2 16 Tryz.underlying272 hi0 hz0 hz1 hz2 rfl (by decide) (.slice ta wl tc) wl (watC A (s.wat a)) (by rfl) (by exact World.ownsRow.alloc OW.out _) ⟨w.heap.size, 0, none⟩ 1 1 [.pointer (some ⟨cb, 0, none⟩), .int .i32 (b : Int)] (by rfl) rfl (cell_two1 _ _ _ _) (by simp [Value.oneCell']) (by unfold maxLen; omega) (by omega) (by simp) ?_; intro v8 w8 hown8 hgrow8 hloc8; obtain ⟨d1, g1, ⟨b8, k8, hv8⟩, hoth, A', ST, hsame⟩ := HT.out w8 _ v8 hown8 hgrow8 hloc8; subst hv8; have d2 : w8.cell? ⟨sb, 1, none⟩ = some (.slice (some ⟨wb, 0, none⟩) (2 * s.n + 2) (2 * s.n + 2)) := (World.cell?_of_block (a := ⟨sb, 1, none⟩) (hoth .search sb (by intro e; cases e) hsb)).trans c1; have HF : Hid (_ ∧ _) := And.intro ST hsame; clear ST hsame hoth hown8 hgrow8 hloc8))
    all_goals
      try simp only [Act.put, List.getElem_toArray, List.getElem_cons_succ, List.getElem_cons_zero, List.setIfInBounds_toArray, List.set_cons_succ, List.set_cons_zero]
      go_wp2_with fail
      go_meet
      case rel => exact ⟨A', S1.out.trans HF.out.1, HF.out.2⟩
  case rest =>
    obtain ⟨A1, S2, hA1⟩ := hcut
    clear HT OW t1 t2 t1a c1a c1 zw zs hcp hwl hwm S1
    have hs1 : A1.blk .search = some sb := (hA1 .search (by intro e; cases e)).1.trans hsb
    have hw1 : A1.blk .wout = some wb := (hA1 .wout (by intro e; cases e)).1.trans hwb
    have hc1 : A1.blk (.clause c) = some cb := (hA1 (.clause c) (by intro e; cases e)).1.trans hcb
    have M0 : Mem wc A1 (s.addW a c b) := S2.mem
    have hn1 : (s.addW a c b).n = s.n := rfl
    have hwb1 : (s.addW a c b).wat b = s.wat b := by
      rw [wat_addW (by rw [← show (s.addW a c b).ws.length = s.ws.length by simp [Sv.addW], M0.lw, hn1]; exact ha), if_neg (fun e => hab e.symm)]
    have c1 := M0.cell hs1 (i := 1) rfl
    simp only [Ad.slv, hw1, M0.flat.2.1, List.length_nil, Nat.zero_div, Nat.add_zero, hn1] at c1
    have M1 : Mem (wc.drewN 1) A1 (s.addW a c b) := M0.keep (fun _ _ => rfl)
    have S3 : Hid (Step w (wc.drewN 1) A A1 (s.addW a c b)) := S2.trans (Step.drew M0 1)
    have zw : wb < wc.heap.size := M0.lt hw1
    have zs : sb < wc.heap.size := M0.lt hs1
    obtain ⟨ta', tc', t1', t2', t3, t4⟩ := winGrow M1 hw1 b hb c a
    rw [hwb1] at t1' t3 t4
    have t1 : wc.cell? ⟨wb, b, none⟩ = some (.slice ta' (s.wat b).length tc') := t1'
    have t2 : wc.frozen? ⟨wb, b, none⟩ = false := t2'
    have t1a : ∀ O, ((wc.drewN 1).alloc O).cell? ⟨wb, b, none⟩ = some (.slice ta' (s.wat b).length tc') := fun O => (World.cell?_of_block (a := ⟨wb, b, none⟩) (Below.heap_alloc _ O wb zw)).trans t1'
    have c1a : ∀ O, ((wc.drewN 1).alloc O).cell? ⟨sb, 1, none⟩ = some (.slice (some ⟨wb, 0, none⟩) (2 * s.n + 2) (2 * s.n + 2)) := fun O => (World.cell?_of_block (a := ⟨sb, 1, none⟩) (Below.heap_alloc _ O sb zs)).trans c1
    have hcp : A1.ptr (.clause c) = .pointer (some ⟨cb, 0, none⟩) := by simp [Ad.ptr, hc1]
    rw [hcp] at t4
    have HT : Hid _ := t4
    have OW : Hid _ := t3
    have db : (b : Int) < 2 * (s.n : Int) + 2 := by omega
    have HA1 : Hid _ := hA1
    clear t1' t2' t3 t4 M0 M1 S2 hA1 hwb1
    obtain ⟨w1, rfl⟩ : ∃ w1, w1 = wc := ⟨_, rfl⟩
    generalize hwl : (s.wat b).length = wl' at *
    have hwm : wl' ≤ 4398046511100 := hwl ▸ hlim b
    apply_assumption
    go_wp2_with fail
    go_region_law (first | (refine step_append_here rfl (.tmp 47) (.tmp 51) 272 rfl 0 274 i0 _ 2 16 Tryz.underlying272 hi0 hz0 hz1 hz2 rfl (by decide) (.slice ta' wl' tc') wl' (watC A1 (s.wat b)) (by rfl) (by exact World.ownsRow.alloc OW.out _) ⟨w1.heap.size, 0, none⟩ 1 1 [.pointer (some ⟨cb, 0, none⟩), .int .i32 (a : Int)] (by rfl) rfl (cell_two1 _ _ _ _) (by simp [Value.oneCell']) (by unfold maxLen; omega) (by omega) (by simp) ?_; intro v8 w8 hown8 hgrow8 hloc8; obtain ⟨d1, g1, ⟨b8, k8, hv8⟩, hoth, A', ST, hsame⟩ := HT.out w8 _ v8 hown8 hgrow8 hloc8; subst hv8; have d2 : w8.cell? ⟨sb, 1, none⟩ = some (.slice (some ⟨wb, 0, none⟩) (2 * s.n + 2) (2 * s.n + 2)) := (World.cell?_of_block (a := ⟨sb, 1, none⟩) (hoth .search sb (by intro e; cases e) hs1)).trans c1; have HF : Hid (_ ∧ _) := And.intro ST hsame; clear ST hsame hoth hown8 hgrow8 hloc8))
    all_goals
      try simp only [Act.put, List.getElem_toArray, List.getElem_cons_succ, List.getElem_cons_zero, List.setIfInBounds_toArray, List.set_cons_succ, List.set_cons_zero]
      go_wp2_with fail
      refine ⟨rfl, .tuple #[], by simp [results, Tryz.results125], rfl, A', ?_, fun r h1 h2 => ⟨(HF.out.2 r h2).1.trans (HA1.out r h1).1, (HF.out.2 r h2).2.trans (HA1.out r h1).2⟩⟩
      have : s.watch c = (s.addW a c b).addW b c a := by unfold Sv.watch; rw [hlits]; rfl
      rw [this]
      exact S3.out.trans HF.out.1

end Go.Proofs.YtlehlgipbhfioaaGreat

namespace Go.Proofs.YtlehlgipbhfioaaGreat
open Go.RowKit Go.Maps

theorem lits_set {s : Sv} {c : Nat} (hc : c < s.cl.length) (ls : List Nat) (c' : Nat) : ({ s with cl := s.cl.set c ls } : Sv).lits c' = if c' = c then ls else s.lits c' := by
  unfold Sv.lits
  by_cases e : c' = c
  · subst e; simp [hc]
  · rw [if_neg e]
    show (s.cl.set c ls)[c']?.getD [] = _
    rw [List.getElem?_set_ne (fun x => e x.symm)]

/-- A literal of a clause is another. -/
theorem Mem.setLit {W : World} {A : Ad} {s : Sv} (h : Mem W A s) {c rb : Nat} (hrb : A.blk (.crow c) = some rb) (i x : Nat) (hi : i < (s.lits c).length) :
    Mem (W.setCell ⟨rb, i, none⟩ (i32 x)) A { s with cl := s.cl.set c ((s.lits c).set i x) } := by
  have hc : c < s.cl.length := (h.rows c).1 ⟨_, hrb⟩
  have hl := lits_set hc ((s.lits c).set i x)
  refine { h with has := h.set hrb i (i32 x) ?_ (fun r' hr => ?_), cls := fun d => by simpa using h.cls d, rows := fun d => by simpa using h.rows d }
  · simp only [cellsR]
    rw [hl, if_pos rfl, List.map_set, List.set_append_left _ _ (by simpa using hi)]
  · cases r' <;> first | rfl | skip
    case clause d =>
      simp only [cellsR]
      rw [hl]
      by_cases e : d = c
      · subst e; rw [if_pos rfl, List.length_set]
      · rw [if_neg e]
    case crow d =>
      simp only [cellsR]
      rw [hl, if_neg (fun e => hr (by rw [e]))]

theorem Step.cell {w w1 : World} {A : Ad} {s s1 : Sv} (h1 : Step w w1 A A s) {r : Role} {b : Nat} (hb : A.blk r = some b) (i : Nat) (v : Value) (M : Mem (w1.setCell ⟨b, i, none⟩ v) A s1) : Step w (w1.setCell ⟨b, i, none⟩ v) A A s1 :=
  h1.trans ⟨M, (Kept.refl _ w1).setCell (p := ⟨b, i, none⟩) ⟨_, hb⟩ _, fun _ hk => Or.inl hk⟩

theorem free_congr {s s1 : Sv} (hv : s1.vals = s.vals) : ∀ (ls : List Nat) (i : Nat), s1.free ls i = s.free ls i
  | [], _ => rfl
  | l :: ls, i => by
    have e : s1.val l = s.val l := by unfold Sv.val; rw [hv]
    rw [Sv.free, Sv.free, e, free_congr hv ls (i + 1)]
/-- What moves comes to, behind its first step. -/
theorem moves_eq {s s1 : Sv} {c gone m0 m1 : Nat} {rest : List Nat} (hF : Sv.front (s.lits c) gone = m0 :: m1 :: rest) (hs1 : s1 = { s with cl := s.cl.set c (m0 :: m1 :: rest) }) :
    s.moves c gone = if s1.val m0 = 1 then (false, s1) else match s1.free rest 2 with
      | none => (false, s1)
      | some i => (true, Sv.addW { s1 with cl := s1.cl.set c (((m0 :: m1 :: rest).set 1 ((m0 :: m1 :: rest)[i]?.getD 0)).set i gone) } ((m0 :: m1 :: rest)[i]?.getD 0) c m0) := by
  have hv : s1.vals = s.vals := by rw [hs1]
  have e0 : s1.val m0 = s.val m0 := by unfold Sv.val; rw [hv]
  unfold Sv.moves
  rw [hF, e0, free_congr hv]
  simp only [List.getElem?_cons_zero, Option.getD_some, List.drop_succ_cons, List.drop_zero]
  split
  · rw [hs1]
  · cases s.free rest 2 with
    | none => rw [hs1]
    | some i => rw [hs1]; simp

set_option maxRecDepth 100000 in
set_option maxHeartbeats 2000000 in
theorem moves_in (w : World) (A : Ad) (s : Sv) (h : Mem w A s) (sb : Nat) (hsb : A.blk .search = some sb) (c : Nat) (cb : Nat) (hcb : A.blk (.clause c) = some cb) (l0 l1 : Nat) (rest : List Nat) (hlits : s.lits c = l0 :: l1 :: rest) (hlt : ∀ l ∈ s.lits c, l < 2 * s.n + 2) (gone : Nat) (hgone : gone < 2 * s.n + 2) (hlc : (s.lits c).length ≤ 4002) (hlim : ∀ l, (s.wat l).length ≤ 4398046511100) :
    Calls Tryz.prog 241 #[.pointer (some ⟨sb, 0, none⟩), .pointer (some ⟨cb, 0, none⟩), i32 gone] w fun e w' => e = .returned (.bool (s.moves c gone).1) ∧ ∃ A', Step w w' A A' (s.moves c gone).2 ∧ ∀ r, (∀ l, s.val l ≠ -1 → r ≠ .win l) → A'.blk r = A.blk r ∧ A'.sp r = A.sp r := by
  obtain ⟨vb, hvb⟩ := h.fix .vals rfl
  have hc : c < s.cl.length := (h.cls c).1 ⟨_, hcb⟩
  obtain ⟨rb, hrb⟩ := (h.rows c).2 hc
  have c0 := h.cell hsb (i := 0) rfl
  simp only [Ad.slv, hvb, h.flat.1, List.length_nil, Nat.zero_div, Nat.add_zero] at c0
  have k0 := h.cell hcb (i := 0) rfl
  simp only [Ad.slv, hrb, hlits, List.length_cons] at k0
  have r0 := h.cell hrb (i := 0) (v := i32 l0) (by simp [cellsR, hlits])
  have r1 := h.cell hrb (i := 1) (v := i32 l1) (by simp [cellsR, hlits])
  have f0 := h.frozen hrb 0
  have f1 := h.frozen hrb 1
  unfold i32 at r0 r1 ⊢
  generalize hln : rest.length + 1 + 1 = len at k0
  have hi1 : (0 : Int) < (len : Int) := by omega
  have hi2 : (1 : Int) < (len : Int) := by omega
  simp only [Nat.div_one] at k0
  generalize hcp : len + (A.sp (.crow c)).length = cap at k0
  have HM : Hid (Mem w A s) := h
  have hll : (s.lits c).length = rest.length + 2 := by rw [hlits]; rfl
  have hlen2 : len ≤ 4002 := by omega
  clear h
  obtain ⟨i0, hi0, hz0, hz1, hz2⟩ := info_parts infoWatch
  by_cases hfr : l0 = gone
  case' pos =>
    have d1 : ((l0 : Int) == (gone : Int)) = true := by rw [hfr]; simp
    go_enter Tryz.func241, Tryz.ntmps241
    go_wp2_with fail
    have hF : Sv.front (s.lits c) gone = l1 :: gone :: rest := by unfold Sv.front; rw [hlits, if_pos (by simpa using hfr)]; rfl
    obtain ⟨s1, hs1⟩ : ∃ s1, s1 = ({ s with cl := s.cl.set c (l1 :: gone :: rest) } : Sv) := ⟨_, rfl⟩
    have M1 : Mem ((w.setCell ⟨rb, 0, none⟩ (.int .i32 (l1 : Int))).setCell ⟨rb, 1, none⟩ (.int .i32 (gone : Int))) A s1 := by
      have h1 := HM.out.setLit hrb 0 l1 (by omega)
      have h2 := h1.setLit hrb 1 gone (by rw [lits_set hc, if_pos rfl, List.length_set]; omega)
      rw [lits_set hc, if_pos rfl, hlits] at h2
      rw [hs1]
      have e : (({ s with cl := s.cl.set c ((l0 :: l1 :: rest).set 0 l1) } : Sv).cl.set c (((l0 :: l1 :: rest).set 0 l1).set 1 gone)) = s.cl.set c (l1 :: gone :: rest) := by simp
      rw [e] at h2
      exact h2
    have S1 : Step w ((w.setCell ⟨rb, 0, none⟩ (.int .i32 (l1 : Int))).setCell ⟨rb, 1, none⟩ (.int .i32 (gone : Int))) A A s1 := ⟨M1, ((Kept.refl _ w).setCell (p := ⟨rb, 0, none⟩) ⟨_, hrb⟩ _).setCell (p := ⟨rb, 1, none⟩) ⟨_, hrb⟩ _, fun _ hk => Or.inl hk⟩
    have hm : s1.lits c = l1 :: gone :: rest := by rw [hs1, lits_set hc, if_pos rfl]
    have hmlt : ∀ l ∈ l1 :: gone :: rest, l < 2 * s.n + 2 := fun l hl => by
      simp at hl
      rcases hl with rfl | rfl | hl
      · exact hlt _ (by rw [hlits]; simp)
      · exact hgone
      · exact hlt _ (by rw [hlits]; simp [hl])
    have hn1 : s1.n = s.n := by rw [hs1]
    have hw1 : s1.ws = s.ws := by rw [hs1]
    have hv1 : s1.vals = s.vals := by rw [hs1]
    generalize ((w.setCell ⟨rb, 0, none⟩ (.int .i32 (l1 : Int))).setCell ⟨rb, 1, none⟩ (.int .i32 (gone : Int))) = w1 at *
    obtain ⟨m0, hm0e⟩ : ∃ m0, m0 = l1 := ⟨_, rfl⟩
    obtain ⟨m1, hm1e⟩ : ∃ m1, m1 = gone := ⟨_, rfl⟩
    rw [← hm0e, ← hm1e] at hm hmlt
    rw [← hm0e] at hF
    rw [← hm0e, ← hm1e] at hs1
    have HMV : Hid _ := moves_eq (gone := gone) (by rw [hF, hm1e]) hs1
    clear hs1 hF
    clear hm0e hm1e hfr d1 r0 r1 f0 f1 c0 k0 HM hlits
  case' neg =>
    have d1 : ((l0 : Int) == (gone : Int)) = false := by rw [beq_eq_false_iff_ne]; omega
    go_enter Tryz.func241, Tryz.ntmps241
    go_wp2_with fail
    have hF : Sv.front (s.lits c) gone = l0 :: l1 :: rest := by unfold Sv.front; rw [hlits, if_neg (by simpa using hfr)]
    obtain ⟨s1, hs1⟩ : ∃ s1, s1 = ({ s with cl := s.cl.set c (l0 :: l1 :: rest) } : Sv) := ⟨_, rfl⟩
    have hss : s1 = s := by
      rw [hs1]
      have e : s.cl.set c (l0 :: l1 :: rest) = s.cl := by
        rw [← hlits]
        unfold Sv.lits
        rw [List.getElem?_eq_getElem hc]
        exact List.set_getElem_self hc
      rw [e]
    have M1 : Mem w A s1 := hss ▸ HM.out
    have S1 : Step w w A A s1 := ⟨M1, Kept.refl _ w, fun _ hk => Or.inl hk⟩
    have hm : s1.lits c = l0 :: l1 :: rest := by rw [hss]; exact hlits
    have hmlt : ∀ l ∈ l0 :: l1 :: rest, l < 2 * s.n + 2 := by rw [← hlits]; exact hlt
    have hn1 : s1.n = s.n := by rw [hss]
    have hw1 : s1.ws = s.ws := by rw [hss]
    have hv1 : s1.vals = s.vals := by rw [hss]
    have HMV : Hid _ := moves_eq (gone := gone) hF hs1
    clear hs1 hF hss
    clear hfr d1 r0 r1 f0 f1 c0 k0 HM hlits
    obtain ⟨w1, rfl⟩ : ∃ w1, w1 = w := ⟨_, rfl⟩
    generalize hm0e : l0 = m0 at *
    generalize hm1e : l1 = m1 at *
    clear hm0e hm1e
  all_goals
    have hls1 : s1.n = s.n := hn1
    have hm0 : m0 < 2 * s.n + 2 := hmlt m0 (by simp)
    have c0' := M1.cell hsb (i := 0) rfl
    simp only [Ad.slv, hvb, M1.flat.1, List.length_nil, Nat.zero_div, Nat.add_zero, hls1] at c0'
    have r0' := M1.cell hrb (i := 0) (v := i32 m0) (by simp [cellsR, hm])
    have f1' := M1.frozen hrb 1
    have r1' := M1.cell hrb (i := 1) (v := i32 m1) (by simp [cellsR, hm])
    unfold i32 at r0' r1'
    have VV : Hid (∀ l, l < 2 * s.n + 2 → w1.cell? ⟨vb, l, none⟩ = some (.int .i8 (s1.val l))) := fun l hl => by
      refine M1.cell hvb ?_
      show (s1.vals.map _)[l]? = _
      have hl2 : l < s1.vals.length := by rw [M1.lv, hls1]; exact hl
      rw [List.getElem?_map, List.getElem?_eq_getElem hl2]
      simp [Sv.val, List.getElem?_eq_getElem hl2]
    have v0 := VV.out m0 hm0
    have dm0 : (m0 : Int) < 2 * (s.n : Int) + 2 := by omega
    have HM1 : Hid _ := M1
    have HS1 : Hid _ := S1
    clear M1 S1
    by_cases hv : s1.val m0 = 1
    · rw [hv] at v0
      go_quiet (fail)
      go_wp2_with fail
      go_ret
      have e := HMV.out
      rw [if_pos hv] at e
      rw [e]
      exact ⟨rfl, A, HS1.out.trans (Step.drew HM1.out _), fun _ _ => ⟨rfl, rfl⟩⟩
    · have dv : (s1.val m0 == 1) = false := by simpa using hv
      have e9 := HMV.out
      rw [if_neg hv] at e9
      have HMV2 : Hid _ := e9
      clear e9 HMV hv
      generalize s1.val m0 = vm at *
      go_quiet (fail)
      go_wp2_with fail
      clear v0 dv
      go_loopw [8] (fun t8 W => ∃ i m : Nat, 2 ≤ i ∧ i ≤ len ∧ t8 = .int .i64 (i : Int) ∧ W = w1.drewN m ∧ Hid (s1.free ((m0 :: m1 :: rest).drop i) i = s1.free rest 2)) (fun t8 _ => len - (intOf t8).toNat)
      case atStart => exact ⟨2, nq, by omega, by omega, rfl, rfl, rfl⟩
      case round =>
        obtain ⟨i, m, hi2, hil, rfl, rfl, HI⟩ := hrel
        by_cases hlt2 : i < len
        · have di : decide ((i : Int) < (len : Int)) = true := decide_eq_true (by omega)
          have hil2 : i < (m0 :: m1 :: rest).length := by simp; omega
          have hdr := List.drop_eq_getElem_cons hil2
          have hfree := HI.out
          rw [hdr, Sv.free] at hfree
          have hli := hmlt _ (List.getElem_mem hil2)
          have ri := HM1.out.cell hrb (i := i) (v := i32 ((m0 :: m1 :: rest)[i])) (by
            show ((s1.lits c).map i32 ++ A.sp (.crow c))[i]? = _
            rw [hm, List.getElem?_append_left (by simpa using hil2), List.getElem?_map, List.getElem?_eq_getElem hil2]
            rfl)
          have fi := HM1.out.frozen hrb i
          unfold i32 at ri
          have vi := VV.out _ hli
          have hgd : (m0 :: m1 :: rest)[i]?.getD 0 = (m0 :: m1 :: rest)[i] := by rw [List.getElem?_eq_getElem hil2]; rfl
          have HGD : Hid _ := hgd
          clear hdr hgd HI
          generalize (m0 :: m1 :: rest)[i] = li at *
          have dli : (li : Int) < 2 * (s.n : Int) + 2 := by omega
          by_cases hvi : s1.val li = -1
          · rw [hvi] at vi
            rw [if_neg (fun e => e hvi)] at hfree
            have HI2 : Hid _ := hfree
            have wrp : IntKind.i64.wrap ((i : Int) + 1) = (i : Int) + 1 := by rw [IntKind.wrap_i64]; omega
            clear hfree HMV2 VV
            go_wp2_with fail
            exact ⟨⟨i + 1, m, by omega, by omega, by simp, by first | rfl | rw [World.drewN_drewN], HI2.out⟩, by simp [intOf]; omega⟩
          · have dvi : (s1.val li != -1) = true := by simpa using hvi
            rw [if_pos hvi] at hfree
            have HI2 : Hid _ := hfree
            clear hfree
            have HNV : Hid (s.val li ≠ -1) := by unfold Sv.val at hvi ⊢; rw [← hv1]; exact hvi
            generalize s1.val li = vl at *
            clear hvi
            have fi2 : ((w1.drewN m).setCell ⟨rb, 1, none⟩ (.int .i32 (li : Int))).frozen? ⟨rb, i, none⟩ = false := (World.frozen?_setCell _ _ _ _).trans fi
            have ri2 : ((w1.drewN m).setCell ⟨rb, 1, none⟩ (.int .i32 (li : Int))).cell? ⟨rb, i, none⟩ = some (.int .i32 (li : Int)) := by
              rw [World.cell?_setCell_other _ _ _ _ (by intro e; cases e; omega)]
              exact ri
            go_wp2_with fail
            have M2 : Mem (((w1.drewN m).setCell ⟨rb, 1, none⟩ (.int .i32 (li : Int))).setCell ⟨rb, i, none⟩ (.int .i32 (gone : Int))) A { s1 with cl := s1.cl.set c (((m0 :: m1 :: rest).set 1 li).set i gone) } := by
              have h0 : Mem (w1.drewN m) A s1 := HM1.out.keep (fun _ _ => rfl)
              have hc1 : c < s1.cl.length := (h0.rows c).1 ⟨_, hrb⟩
              have h1 := h0.setLit hrb 1 li (by rw [hm]; simp)
              have h2 := h1.setLit hrb i gone (by rw [lits_set hc1, if_pos rfl, List.length_set, hm]; simpa using hil2)
              rw [lits_set hc1, if_pos rfl, hm] at h2
              have e : (({ s1 with cl := s1.cl.set c ((m0 :: m1 :: rest).set 1 li) } : Sv).cl.set c (((m0 :: m1 :: rest).set 1 li).set i gone)) = s1.cl.set c (((m0 :: m1 :: rest).set 1 li).set i gone) := by simp
              rw [e] at h2
              exact h2
            have S2 : Step w1 (((w1.drewN m).setCell ⟨rb, 1, none⟩ (.int .i32 (li : Int))).setCell ⟨rb, i, none⟩ (.int .i32 (gone : Int))) A A { s1 with cl := s1.cl.set c (((m0 :: m1 :: rest).set 1 li).set i gone) } := ⟨M2, (((Kept.refl _ w1).drewN m).setCell (p := ⟨rb, 1, none⟩) ⟨_, hrb⟩ _).setCell (p := ⟨rb, i, none⟩) ⟨_, hrb⟩ _, fun _ hk => Or.inl hk⟩
            obtain ⟨s2, hs2⟩ : ∃ s2, s2 = ({ s1 with cl := s1.cl.set c (((m0 :: m1 :: rest).set 1 li).set i gone) } : Sv) := ⟨_, rfl⟩
            rw [← hs2] at M2 S2
            have hn2 : s2.n = s.n := by rw [hs2]; exact hn1
            have hwt2 : s2.wat li = s.wat li := by rw [hs2]; unfold Sv.wat; rw [hw1]
            have r0'' : (((w1.drewN m).setCell ⟨rb, 1, none⟩ (.int .i32 (li : Int))).setCell ⟨rb, i, none⟩ (.int .i32 (gone : Int))).cell? ⟨rb, 0, none⟩ = some (.int .i32 (m0 : Int)) := by
              rw [World.cell?_setCell_other _ _ _ _ (by intro e; cases e; omega), World.cell?_setCell_other _ _ _ _ (by intro e; cases e)]
              exact r0'
            have HE : Hid (s.moves c gone = (true, s2.addW li c m0)) := by
              have e9 := HMV2.out
              rw [← HI2.out] at e9
              simp only [HGD.out] at e9
              rw [hs2]
              exact e9
            have HS2 : Hid _ := HS1.out.trans S2
            clear S2 hs2 HMV2 HI2 HGD HS1 HM1 fi2 ri2 fi ri r0' f1' r1' VV c0' vi dvi
            generalize (((w1.drewN m).setCell ⟨rb, 1, none⟩ (.int .i32 (li : Int))).setCell ⟨rb, i, none⟩ (.int .i32 (gone : Int))) = w2 at *
            obtain ⟨wb, hwb⟩ := M2.fix .wout rfl
            have c1 := M2.cell hsb (i := 1) rfl
            simp only [Ad.slv, hwb, M2.flat.2.1, List.length_nil, Nat.zero_div, Nat.add_zero, hn2] at c1
            have M3 : Mem (w2.drewN 1) A s2 := M2.keep (fun _ _ => rfl)
            have HS3 : Hid _ := HS2.out.trans (Step.drew M2 1)
            have zw : wb < w2.heap.size := M2.lt hwb
            have hne1 : wb ≠ sb := fun e => by have := M2.inj .wout .search wb hwb (e ▸ hsb); cases this
            have hne2 : wb ≠ rb := fun e => by have := M2.inj .wout (.crow c) wb hwb (e ▸ hrb); cases this
            have zs : sb < w2.heap.size := M2.lt hsb
            have zr : rb < w2.heap.size := M2.lt hrb
            obtain ⟨ta, tc, t1', t2', t3, t4⟩ := winGrow M3 hwb li (by rw [hn2]; exact hli) c m0
            rw [hwt2] at t1' t3 t4
            have t1 : w2.cell? ⟨wb, li, none⟩ = some (.slice ta (s.wat li).length tc) := t1'
            have t2 : w2.frozen? ⟨wb, li, none⟩ = false := t2'
            have t1a : ∀ O, ((w2.drewN 1).alloc O).cell? ⟨wb, li, none⟩ = some (.slice ta (s.wat li).length tc) := fun O => (World.cell?_of_block (a := ⟨wb, li, none⟩) (Below.heap_alloc _ O wb zw)).trans t1'
            have c1a : ∀ O, ((w2.drewN 1).alloc O).cell? ⟨sb, 1, none⟩ = some (.slice (some ⟨wb, 0, none⟩) (2 * s.n + 2) (2 * s.n + 2)) := fun O => (World.cell?_of_block (a := ⟨sb, 1, none⟩) (Below.heap_alloc _ O sb zs)).trans c1
            have hptr : A.ptr (.clause c) = .pointer (some ⟨cb, 0, none⟩) := by simp [Ad.ptr, hcb]
            rw [hptr] at t4
            have HT : Hid _ := t4
            have OW : Hid _ := t3
            clear t1' t2' t3 t4 M2 M3 HS2 hwt2 hptr
            generalize hwl : (s.wat li).length = wl at *
            have hwm : wl ≤ 4398046511100 := hwl ▸ hlim li
            have hpos : 0 < len := by omega
            have r0a : ∀ O, ((w2.drewN 1).alloc O).cell? ⟨rb, 0, none⟩ = some (.int .i32 (m0 : Int)) := fun O => (World.cell?_of_block (a := ⟨rb, 0, none⟩) (Below.heap_alloc _ O rb zr)).trans r0''
            refine wp_region_noPanic ?_
            refine wp_region_held_drew (S := (fun W => W.cell? ⟨sb, 1, none⟩ = some (.slice (some ⟨wb, 0, none⟩) (2 * s.n + 2) (2 * s.n + 2)) ∧ W.cell? ⟨rb, 0, none⟩ = some (.int .i32 (m0 : Int)))) (by kernel_rfl) ?_ (fun hHeld => ?_)
            · (first | exact ⟨c1, r0''⟩ | exact ⟨c1a _, r0a _⟩ | exact ⟨d2, d3⟩ | exact ⟨(World.cell?_setCell_far _ ⟨wb, li, none⟩ ⟨sb, 1, none⟩ _ hne1).trans d2, (World.cell?_setCell_far _ ⟨wb, li, none⟩ ⟨rb, 0, none⟩ _ hne2).trans d3⟩)
            refine wpAnyH_take (i := 0) (oi := _) (v := ?_) rfl (by kernel_rfl) (by kernel_rfl) (by kernel_rfl) (fun _ _ _ h => h) (Or.inl ⟨by rfl, ?_⟩) (by assumption) ?_
            rotate_left 1
            · intro w hSw; (try dsimp only at hSw); go_simp; (try with_reducible rfl)
            try simp only [Act.put, List.getElem_toArray, List.getElem_cons_zero, List.setIfInBounds_toArray, List.set_cons_zero, List.set_cons_succ]
            refine wpAnyH_take (i := 1) (oi := _) (v := ?_) rfl (by kernel_rfl) (by kernel_rfl) (by kernel_rfl) (fun _ _ _ h => h) (Or.inl ⟨by rfl, ?_⟩) (by assumption) ?_
            rotate_left 1
            · intro w hSw; (try dsimp only at hSw); go_simp; (try with_reducible rfl)
            try simp only [Act.put, List.getElem_toArray, List.getElem_cons_succ, List.getElem_cons_zero, List.setIfInBounds_toArray, List.set_cons_zero, List.set_cons_succ]
            refine wpAnyH_take (i := 2) (oi := _) (v := ?_) rfl (by kernel_rfl) (by kernel_rfl) (by kernel_rfl) (fun _ _ _ h => h) (Or.inl ⟨by rfl, ?_⟩) (by assumption) ?_
            rotate_left 1
            · intro w hSw; (try dsimp only at hSw); go_simp; (try with_reducible rfl)
            try simp only [Act.put, List.getElem_toArray, List.getElem_cons_succ, List.getElem_cons_zero, List.setIfInBounds_toArray, List.set_cons_zero, List.set_cons_succ]
            refine wpAnyH_take (i := 3) (oi := _) (v := ?_) rfl (by kernel_rfl) (by kernel_rfl) (by kernel_rfl) (fun _ _ _ h => h) (Or.inl ⟨by rfl, ?_⟩) (by assumption) ?_
            rotate_left 1
            · intro w hSw; (try dsimp only at hSw); go_simp; (try with_reducible rfl)
            try simp only [Act.put, List.getElem_toArray, List.getElem_cons_succ, List.getElem_cons_zero, List.setIfInBounds_toArray, List.set_cons_zero, List.set_cons_succ]
            refine wpAnyH_take (i := 4) (oi := _) (v := ?_) rfl (by kernel_rfl) (by kernel_rfl) (by kernel_rfl) (fun _ _ _ h => h) (Or.inl ⟨by rfl, ?_⟩) (by assumption) ?_
            rotate_left 1
            · intro w hSw; (try dsimp only at hSw); go_simp; (try with_reducible rfl)
            try simp only [Act.put, List.getElem_toArray, List.getElem_cons_succ, List.getElem_cons_zero, List.setIfInBounds_toArray, List.set_cons_zero, List.set_cons_succ]
            refine wpAnyH_take (i := 5) (oi := _) (v := ?_) rfl (by kernel_rfl) (by kernel_rfl) (by kernel_rfl) (fun _ _ _ h => h) (Or.inl ⟨by rfl, ?_⟩) (by assumption) ?_
            rotate_left 1
            · intro w hSw; (try dsimp only at hSw); go_simp; (try with_reducible rfl)
            try simp only [Act.put, List.getElem_toArray, List.getElem_cons_succ, List.getElem_cons_zero, List.setIfInBounds_toArray, List.set_cons_zero, List.set_cons_succ]
            refine wpAnyH_take (i := 6) (oi := _) (v := ?_) rfl (by kernel_rfl) (by kernel_rfl) (by kernel_rfl) (fun _ _ _ h => h) (Or.inl ⟨by rfl, ?_⟩) (by assumption) ?_
            rotate_left 1
            · intro w hSw; (try dsimp only at hSw); go_simp; (try with_reducible rfl)
            try simp only [Act.put, List.getElem_toArray, List.getElem_cons_succ, List.getElem_cons_zero, List.setIfInBounds_toArray, List.set_cons_zero, List.set_cons_succ]
            refine wpAnyH_take (i := 7) (oi := _) (v := ?_) rfl (by kernel_rfl) (by kernel_rfl) (by kernel_rfl) (fun _ _ _ h => h) (Or.inl ⟨by rfl, ?_⟩) (by assumption) ?_
            rotate_left 1
            · intro w hSw; (try dsimp only at hSw); go_simp; (try with_reducible rfl)
            try simp only [Act.put, List.getElem_toArray, List.getElem_cons_succ, List.getElem_cons_zero, List.setIfInBounds_toArray, List.set_cons_zero, List.set_cons_succ]
            refine wpAnyH_take (i := 8) (oi := _) (v := ?_) rfl (by kernel_rfl) (by kernel_rfl) (by kernel_rfl) (fun _ _ _ h => h) (Or.inl ⟨by rfl, ?_⟩) (by assumption) ?_
            rotate_left 1
            · intro w hSw; (try dsimp only at hSw); go_simp; (try with_reducible rfl)
            try simp only [Act.put, List.getElem_toArray, List.getElem_cons_succ, List.getElem_cons_zero, List.setIfInBounds_toArray, List.set_cons_zero, List.set_cons_succ]
            refine wpAnyH_take (i := 9) (oi := _) (v := ?_) rfl (by kernel_rfl) (by kernel_rfl) (by kernel_rfl) (fun _ _ _ h => h) (Or.inl ⟨by rfl, ?_⟩) (by assumption) ?_
            rotate_left 1
            · intro w hSw; (try dsimp only at hSw); go_simp; (try with_reducible rfl)
            try simp only [Act.put, List.getElem_toArray, List.getElem_cons_succ, List.getElem_cons_zero, List.setIfInBounds_toArray, List.set_cons_zero, List.set_cons_succ]
            refine wpAnyH_take (i := 10) (oi := _) (v := ?_) rfl (by kernel_rfl) (by kernel_rfl) (by kernel_rfl) (fun _ _ _ h => h) (Or.inl ⟨by rfl, ?_⟩) (by assumption) ?_
            rotate_left 1
            · intro w hSw; (try dsimp only at hSw); go_simp; (try with_reducible rfl)
            try simp only [Act.put, List.getElem_toArray, List.getElem_cons_succ, List.getElem_cons_zero, List.setIfInBounds_toArray, List.set_cons_zero, List.set_cons_succ]
            refine wpAnyH_take (i := 12) (oi := _) (v := ?_) rfl (by kernel_rfl) (by kernel_rfl) (by kernel_rfl) (fun _ _ _ h => h) (Or.inl ⟨by rfl, ?_⟩) (by assumption) ?_
            rotate_left 1
            · intro w hSw; (try dsimp only at hSw); go_simp; (try with_reducible rfl)
            try simp only [Act.put, List.getElem_toArray, List.getElem_cons_succ, List.getElem_cons_zero, List.setIfInBounds_toArray, List.set_cons_zero, List.set_cons_succ]
            refine wpAnyH_take (i := 13) (oi := _) (v := ?_) rfl (by kernel_rfl) (by kernel_rfl) (by kernel_rfl) (fun _ _ _ h => h) (Or.inl ⟨by rfl, ?_⟩) (by assumption) ?_
            rotate_left 1
            · intro w hSw; (try dsimp only at hSw); go_simp; (try with_reducible rfl)
            try simp only [Act.put, List.getElem_toArray, List.getElem_cons_succ, List.getElem_cons_zero, List.setIfInBounds_toArray, List.set_cons_zero, List.set_cons_succ]
            refine wpAnyH_take (i := 14) (oi := _) (v := ?_) rfl (by kernel_rfl) (by kernel_rfl) (by kernel_rfl) (fun _ _ _ h => h) (Or.inl ⟨by rfl, ?_⟩) (by assumption) ?_
            rotate_left 1
            · intro w hSw; (try dsimp only at hSw); go_simp; (try with_reducible rfl)
            try simp only [Act.put, List.getElem_toArray, List.getElem_cons_succ, List.getElem_cons_zero, List.setIfInBounds_toArray, List.set_cons_zero, List.set_cons_succ]
            refine wpAnyH_take (i := 15) (oi := _) (v := ?_) rfl (by kernel_rfl) (by kernel_rfl) (by kernel_rfl) (fun _ _ _ h => h) (Or.inl ⟨by rfl, ?_⟩) (by assumption) ?_
            rotate_left 1
            · intro w hSw; (try dsimp only at hSw); go_simp; (try with_reducible rfl)
            try simp only [Act.put, List.getElem_toArray, List.getElem_cons_succ, List.getElem_cons_zero, List.setIfInBounds_toArray, List.set_cons_zero, List.set_cons_succ]
            refine wpAnyH_take (i := 16) (oi := _) (v := ?_) rfl (by kernel_rfl) (by kernel_rfl) (by kernel_rfl) (fun _ _ _ h => h) (Or.inl ⟨by rfl, ?_⟩) (by assumption) ?_
            rotate_left 1
            · intro w hSw; (try dsimp only at hSw); go_simp; (try with_reducible rfl)
            try simp only [Act.put, List.getElem_toArray, List.getElem_cons_succ, List.getElem_cons_zero, List.setIfInBounds_toArray, List.set_cons_zero, List.set_cons_succ]
            refine wpAnyH_ready (rs := [11, 17]) (by kernel_rfl) (by simp) ?_
            refine AllReadyH.cons rfl (fun K hK => ?_) (AllReadyH.cons rfl (fun K hK => ?_) AllReadyH.nil)
            try simp only [List.getElem_toArray, List.getElem_cons_succ, List.getElem_cons_zero]
            go_simp
            refine hK.out _ _ ?_ (fun hHeld => ?_)
            · (first | exact ⟨c1, r0''⟩ | exact ⟨c1a _, r0a _⟩ | exact ⟨d2, d3⟩ | exact ⟨(World.cell?_setCell_far _ ⟨wb, li, none⟩ ⟨sb, 1, none⟩ _ hne1).trans d2, (World.cell?_setCell_far _ ⟨wb, li, none⟩ ⟨rb, 0, none⟩ _ hne2).trans d3⟩)
            clear hK K
            try simp only [Act.put, List.getElem_toArray, List.getElem_cons_succ, List.getElem_cons_zero, List.setIfInBounds_toArray, List.set_cons_zero, List.set_cons_succ]
            refine wpAnyH_ready (rs := [17]) (by kernel_rfl) (by simp) ?_
            refine AllReadyH.cons rfl (fun K hK => ?_) AllReadyH.nil
            try simp only [List.getElem_toArray, List.getElem_cons_succ, List.getElem_cons_zero]
            go_simp
            refine hK.out _ _ ?_ (fun hHeld => ?_)
            · (first | exact ⟨c1, r0''⟩ | exact ⟨c1a _, r0a _⟩ | exact ⟨d2, d3⟩ | exact ⟨(World.cell?_setCell_far _ ⟨wb, li, none⟩ ⟨sb, 1, none⟩ _ hne1).trans d2, (World.cell?_setCell_far _ ⟨wb, li, none⟩ ⟨rb, 0, none⟩ _ hne2).trans d3⟩)
            clear hK K
            try simp only [Act.put, List.getElem_toArray, List.getElem_cons_succ, List.getElem_cons_zero, List.setIfInBounds_toArray, List.set_cons_zero, List.set_cons_succ]
            refine wpAnyH_ready (rs := [18]) (by kernel_rfl) (by simp) ?_
            refine AllReadyH.cons rfl (fun K hK => ?_) AllReadyH.nil
            refine step_append_here rfl (.tmp 73) (.tmp 79) 272 rfl 0 274 i0 _ 2 16 Tryz.underlying272 hi0 hz0 hz1 hz2 rfl (by decide) (.slice ta wl tc) wl (watC A (s.wat li)) (by rfl) (by exact World.ownsRow.alloc OW.out _) ⟨w2.heap.size, 0, none⟩ 1 1 [.pointer (some ⟨cb, 0, none⟩), .int .i32 (m0 : Int)] (by rfl) rfl (cell_two1 _ _ _ _) (by simp [Value.oneCell']) (by unfold maxLen; omega) (by omega) (by simp) ?_; intro v8 w8 hown8 hgrow8 hloc8; obtain ⟨d1, g1, ⟨b8, k8, hv8⟩, hoth, A', ST, hsame⟩ := HT.out w8 _ v8 hown8 hgrow8 hloc8; subst hv8; have d2 : w8.cell? ⟨sb, 1, none⟩ = some (.slice (some ⟨wb, 0, none⟩) (2 * s.n + 2) (2 * s.n + 2)) := (World.cell?_of_block (a := ⟨sb, 1, none⟩) (hoth .search sb (by intro e; cases e) hsb)).trans c1; have d3 : w8.cell? ⟨rb, 0, none⟩ = some (.int .i32 (m0 : Int)) := (World.cell?_of_block (a := ⟨rb, 0, none⟩) (hoth (.crow c) rb (by intro e; cases e) hrb)).trans r0''; have HF : Hid (_ ∧ _) := And.intro ST hsame; clear ST hsame hoth hown8 hgrow8 hloc8
            refine hK.out _ _ ?_ (fun hHeld => ?_)
            · (first | exact ⟨c1, r0''⟩ | exact ⟨c1a _, r0a _⟩ | exact ⟨d2, d3⟩ | exact ⟨(World.cell?_setCell_far _ ⟨wb, li, none⟩ ⟨sb, 1, none⟩ _ hne1).trans d2, (World.cell?_setCell_far _ ⟨wb, li, none⟩ ⟨rb, 0, none⟩ _ hne2).trans d3⟩)
            clear hK K
            try simp only [Act.put, List.getElem_toArray, List.getElem_cons_succ, List.getElem_cons_zero, List.setIfInBounds_toArray, List.set_cons_zero, List.set_cons_succ]
            refine wpAnyH_take (i := 19) (oi := _) (v := ?_) rfl (by kernel_rfl) (by kernel_rfl) (by kernel_rfl) (fun _ _ _ h => h) (Or.inl ⟨by rfl, ?_⟩) (by assumption) ?_
            rotate_left 1
            · intro w hSw; (try dsimp only at hSw); go_simp; (try with_reducible rfl)
            try simp only [Act.put, List.getElem_toArray, List.getElem_cons_succ, List.getElem_cons_zero, List.setIfInBounds_toArray, List.set_cons_zero, List.set_cons_succ]
            refine wpAnyH_ready (rs := [20]) (by kernel_rfl) (by simp) ?_
            refine AllReadyH.cons rfl (fun K hK => ?_) AllReadyH.nil
            try simp only [List.getElem_toArray, List.getElem_cons_succ, List.getElem_cons_zero]
            go_simp
            refine hK.out _ _ ?_ (fun hHeld => ?_)
            · (first | exact ⟨c1, r0''⟩ | exact ⟨c1a _, r0a _⟩ | exact ⟨d2, d3⟩ | exact ⟨(World.cell?_setCell_far _ ⟨wb, li, none⟩ ⟨sb, 1, none⟩ _ hne1).trans d2, (World.cell?_setCell_far _ ⟨wb, li, none⟩ ⟨rb, 0, none⟩ _ hne2).trans d3⟩)
            clear hK K
            try simp only [Act.put, List.getElem_toArray, List.getElem_cons_succ, List.getElem_cons_zero, List.setIfInBounds_toArray, List.set_cons_zero, List.set_cons_succ]
            rotate_left 1
            try simp only [List.getElem_toArray, List.getElem_cons_succ, List.getElem_cons_zero]
            go_simp
            refine hK.out _ _ ?_ (fun hHeld => ?_)
            · (first | exact ⟨c1, r0''⟩ | exact ⟨c1a _, r0a _⟩ | exact ⟨d2, d3⟩ | exact ⟨(World.cell?_setCell_far _ ⟨wb, li, none⟩ ⟨sb, 1, none⟩ _ hne1).trans d2, (World.cell?_setCell_far _ ⟨wb, li, none⟩ ⟨rb, 0, none⟩ _ hne2).trans d3⟩)
            clear hK K
            try simp only [Act.put, List.getElem_toArray, List.getElem_cons_succ, List.getElem_cons_zero, List.setIfInBounds_toArray, List.set_cons_zero, List.set_cons_succ]
            refine wpAnyH_ready (rs := [11]) (by kernel_rfl) (by simp) ?_
            refine AllReadyH.cons rfl (fun K hK => ?_) AllReadyH.nil
            try simp only [List.getElem_toArray, List.getElem_cons_succ, List.getElem_cons_zero]
            go_simp
            refine hK.out _ _ ?_ (fun hHeld => ?_)
            · (first | exact ⟨c1, r0''⟩ | exact ⟨c1a _, r0a _⟩ | exact ⟨d2, d3⟩ | exact ⟨(World.cell?_setCell_far _ ⟨wb, li, none⟩ ⟨sb, 1, none⟩ _ hne1).trans d2, (World.cell?_setCell_far _ ⟨wb, li, none⟩ ⟨rb, 0, none⟩ _ hne2).trans d3⟩)
            clear hK K
            try simp only [Act.put, List.getElem_toArray, List.getElem_cons_succ, List.getElem_cons_zero, List.setIfInBounds_toArray, List.set_cons_zero, List.set_cons_succ]
            refine wpAnyH_ready (rs := [18]) (by kernel_rfl) (by simp) ?_
            refine AllReadyH.cons rfl (fun K hK => ?_) AllReadyH.nil
            refine step_append_here rfl (.tmp 73) (.tmp 79) 272 rfl 0 274 i0 _ 2 16 Tryz.underlying272 hi0 hz0 hz1 hz2 rfl (by decide) (.slice ta wl tc) wl (watC A (s.wat li)) (by rfl) (by exact World.ownsRow.alloc OW.out _) ⟨w2.heap.size, 0, none⟩ 1 1 [.pointer (some ⟨cb, 0, none⟩), .int .i32 (m0 : Int)] (by rfl) rfl (cell_two1 _ _ _ _) (by simp [Value.oneCell']) (by unfold maxLen; omega) (by omega) (by simp) ?_; intro v8 w8 hown8 hgrow8 hloc8; obtain ⟨d1, g1, ⟨b8, k8, hv8⟩, hoth, A', ST, hsame⟩ := HT.out w8 _ v8 hown8 hgrow8 hloc8; subst hv8; have d2 : w8.cell? ⟨sb, 1, none⟩ = some (.slice (some ⟨wb, 0, none⟩) (2 * s.n + 2) (2 * s.n + 2)) := (World.cell?_of_block (a := ⟨sb, 1, none⟩) (hoth .search sb (by intro e; cases e) hsb)).trans c1; have d3 : w8.cell? ⟨rb, 0, none⟩ = some (.int .i32 (m0 : Int)) := (World.cell?_of_block (a := ⟨rb, 0, none⟩) (hoth (.crow c) rb (by intro e; cases e) hrb)).trans r0''; have HF : Hid (_ ∧ _) := And.intro ST hsame; clear ST hsame hoth hown8 hgrow8 hloc8
            refine hK.out _ _ ?_ (fun hHeld => ?_)
            · (first | exact ⟨c1, r0''⟩ | exact ⟨c1a _, r0a _⟩ | exact ⟨d2, d3⟩ | exact ⟨(World.cell?_setCell_far _ ⟨wb, li, none⟩ ⟨sb, 1, none⟩ _ hne1).trans d2, (World.cell?_setCell_far _ ⟨wb, li, none⟩ ⟨rb, 0, none⟩ _ hne2).trans d3⟩)
            clear hK K
            try simp only [Act.put, List.getElem_toArray, List.getElem_cons_succ, List.getElem_cons_zero, List.setIfInBounds_toArray, List.set_cons_zero, List.set_cons_succ]
            refine wpAnyH_take (i := 19) (oi := _) (v := ?_) rfl (by kernel_rfl) (by kernel_rfl) (by kernel_rfl) (fun _ _ _ h => h) (Or.inl ⟨by rfl, ?_⟩) (by assumption) ?_
            rotate_left 1
            · intro w hSw; (try dsimp only at hSw); go_simp; (try with_reducible rfl)
            try simp only [Act.put, List.getElem_toArray, List.getElem_cons_succ, List.getElem_cons_zero, List.setIfInBounds_toArray, List.set_cons_zero, List.set_cons_succ]
            refine wpAnyH_ready (rs := [20]) (by kernel_rfl) (by simp) ?_
            refine AllReadyH.cons rfl (fun K hK => ?_) AllReadyH.nil
            try simp only [List.getElem_toArray, List.getElem_cons_succ, List.getElem_cons_zero]
            go_simp
            refine hK.out _ _ ?_ (fun hHeld => ?_)
            · (first | exact ⟨c1, r0''⟩ | exact ⟨c1a _, r0a _⟩ | exact ⟨d2, d3⟩ | exact ⟨(World.cell?_setCell_far _ ⟨wb, li, none⟩ ⟨sb, 1, none⟩ _ hne1).trans d2, (World.cell?_setCell_far _ ⟨wb, li, none⟩ ⟨rb, 0, none⟩ _ hne2).trans d3⟩)
            clear hK K
            try simp only [Act.put, List.getElem_toArray, List.getElem_cons_succ, List.getElem_cons_zero, List.setIfInBounds_toArray, List.set_cons_zero, List.set_cons_succ]
            rotate_left 1
            all_goals refine wpAnyH_done (by kernel_rfl) (NoPanic.normal ?_) _
            all_goals
              try simp only [Act.put, List.getElem_toArray, List.getElem_cons_succ, List.getElem_cons_zero, List.setIfInBounds_toArray, List.set_cons_succ, List.set_cons_zero]
              go_wp2_with fail
              refine ⟨rfl, .bool true, by simp [results, Tryz.results241], ?_⟩
              rw [HE.out]
              exact ⟨rfl, A', HS3.out.trans HF.out.1, fun r hr => HF.out.2 r (hr li HNV.out)⟩
        · have di : decide ((i : Int) < (len : Int)) = false := decide_eq_false (by omega)
          have hnone : s1.free rest 2 = none := by rw [← HI.out, List.drop_of_length_le (by simp; omega)]; rfl
          have e9 := HMV2.out
          rw [hnone] at e9
          have HR : Hid _ := e9
          clear e9 HMV2 VV hnone HI
          go_wp2_with fail
          go_ret
          rw [HR.out]
          exact ⟨rfl, A, HS1.out.trans (Step.drew HM1.out _), fun _ _ => ⟨rfl, rfl⟩⟩
end Go.Proofs.YtlehlgipbhfioaaGreat

namespace Go.Proofs.YtlehlgipbhfioaaGreat
open Go.RowKit Go.Maps

/-- The watches of a literal are others. -/
def Sv.setW (s : Sv) (l : Nat) (X : List (Nat × Nat)) : Sv := { s with ws := s.ws.set l X }
theorem wat_setW {s : Sv} {l : Nat} (hl : l < s.ws.length) (X : List (Nat × Nat)) (l' : Nat) : (s.setW l X).wat l' = if l' = l then X else s.wat l' := by
  unfold Sv.setW Sv.wat
  by_cases e : l' = l
  · subst e; simp [hl]
  · rw [if_neg e, List.getElem?_set_ne (fun x => e x.symm)]
theorem setW_self {s : Sv} {l : Nat} (hl : l < s.ws.length) : s.setW l (s.wat l) = s := by
  unfold Sv.setW Sv.wat
  rw [List.getElem?_eq_getElem hl]
  simp
theorem setW_setW (s : Sv) (l : Nat) (X Y : List (Nat × Nat)) : (s.setW l X).setW l Y = s.setW l Y := by
  unfold Sv.setW; simp

theorem free_spec {s : Sv} : ∀ {ls : List Nat} {k i : Nat}, s.free ls k = some i → ∃ l, ls[i - k]? = some l ∧ k ≤ i ∧ s.val l ≠ -1
  | [], _, _, h => by simp [Sv.free] at h
  | l :: ls, k, i, h => by
    rw [Sv.free] at h
    split at h
    · cases h; exact ⟨l, by simp, Nat.le_refl _, by assumption⟩
    · obtain ⟨l', h1, h2, h3⟩ := free_spec h
      refine ⟨l', ?_, by omega, h3⟩
      have : i - k = (i - (k + 1)) + 1 := by omega
      rw [this, List.getElem?_cons_succ, h1]
theorem free_none {s : Sv} : ∀ {ls : List Nat} {k : Nat}, s.free ls k = none → ∀ l ∈ ls, s.val l = -1
  | [], _, _ => by simp
  | l :: ls, k, h => by
    rw [Sv.free] at h
    split at h
    · cases h
    · next hv =>
      intro l' hl'
      rcases List.mem_cons.1 hl' with rfl | hl'
      · exact Classical.not_not.1 hv
      · exact free_none h l' hl'

/-- What moves comes to. -/
theorem moves_cases {s : Sv} {c gone a b : Nat} {rest : List Nat} (hl : s.lits c = a :: b :: rest) (hg : gone = a ∨ gone = b) :
    ∃ m0, (m0 = a ∧ gone = b ∨ m0 = b ∧ gone = a) ∧
      (s.moves c gone = (false, { s with cl := s.cl.set c (m0 :: gone :: rest) }) ∧ (s.val m0 = 1 ∨ ∀ l ∈ rest, s.val l = -1) ∨
       ∃ j li, rest[j]? = some li ∧ s.val li ≠ -1 ∧ s.val m0 ≠ 1 ∧ s.moves c gone = (true, Sv.addW { s with cl := s.cl.set c (m0 :: li :: rest.set j gone) } li c m0)) := by
  have key : ∀ m0, Sv.front (s.lits c) gone = m0 :: gone :: rest → (s.moves c gone = (false, { s with cl := s.cl.set c (m0 :: gone :: rest) }) ∧ (s.val m0 = 1 ∨ ∀ l ∈ rest, s.val l = -1) ∨
       ∃ j li, rest[j]? = some li ∧ s.val li ≠ -1 ∧ s.val m0 ≠ 1 ∧ s.moves c gone = (true, Sv.addW { s with cl := s.cl.set c (m0 :: li :: rest.set j gone) } li c m0)) := by
    intro m0 hF
    unfold Sv.moves
    rw [hF]
    simp only [List.getElem?_cons_zero, Option.getD_some, List.drop_succ_cons, List.drop_zero]
    split
    · next h1 => exact Or.inl ⟨rfl, Or.inl h1⟩
    · next h1 =>
      cases hf : s.free rest 2 with
      | none => exact Or.inl ⟨rfl, Or.inr (free_none hf)⟩
      | some i =>
        obtain ⟨l, h2, h3, h4⟩ := free_spec hf
        refine Or.inr ⟨i - 2, l, h2, h4, h1, ?_⟩
        obtain ⟨j, rfl⟩ : ∃ j, i = j + 2 := ⟨i - 2, by omega⟩
        have h5 : rest[j]? = some l := by simpa using h2
        simp [h5]
  by_cases e : a = gone
  · refine ⟨b, Or.inr ⟨rfl, e.symm⟩, key b ?_⟩
    unfold Sv.front
    rw [hl, if_pos (by simpa using e)]
    simp
  · have e2 : gone = b := hg.resolve_left (fun x => e x.symm)
    refine ⟨a, Or.inl ⟨rfl, e2⟩, key a ?_⟩
    unfold Sv.front
    rw [hl, if_neg (by simpa using e), e2]

theorem val_setW (s : Sv) (l : Nat) (X : List (Nat × Nat)) (l' : Nat) : (s.setW l X).val l' = s.val l' := rfl
theorem addW_setW {s : Sv} {l g : Nat} (hne : l ≠ g) (c o : Nat) (X : List (Nat × Nat)) : (s.setW g X).addW l c o = (s.addW l c o).setW g X := by
  unfold Sv.addW Sv.setW Sv.wat
  simp only
  rw [List.getElem?_set_ne (fun e => hne e.symm), List.set_comm _ _ (fun e => hne e.symm)]
theorem moves_setW {s : Sv} {c gone : Nat} (hg : s.val gone = -1) (X : List (Nat × Nat)) :
    (s.setW gone X).moves c gone = ((s.moves c gone).1, (s.moves c gone).2.setW gone X) := by
  have hfr : ∀ ls k, (s.setW gone X).free ls k = s.free ls k := fun ls k => free_congr (s := s) (s1 := s.setW gone X) rfl ls k
  unfold Sv.moves
  simp only [show (s.setW gone X).lits c = s.lits c from rfl, hfr, val_setW]
  split
  · rfl
  · cases hf : s.free ((Sv.front (s.lits c) gone).drop 2) 2 with
    | none => rfl
    | some i =>
      obtain ⟨l, h2, h3, h4⟩ := free_spec hf
      obtain ⟨j, rfl⟩ : ∃ j, i = j + 2 := ⟨i - 2, by omega⟩
      have h5 : (Sv.front (s.lits c) gone)[j + 2]? = some l := by
        rw [List.getElem?_drop] at h2
        rw [Nat.add_comm]; simpa using h2
      simp only [h5, Option.getD_some]
      have hne : l ≠ gone := fun e => h4 (e ▸ hg)
      exact congrArg _ (addW_setW (s := { s with cl := s.cl.set c (((Sv.front (s.lits c) gone).set 1 l).set (j + 2) gone) }) hne c ((Sv.front (s.lits c) gone)[0]?.getD 0) X)

/-- What the walks want. -/
structure Fit (s : Sv) : Prop where
  lv : s.vals.length = 2 * s.n + 2
  lw : s.ws.length = 2 * s.n + 2
  sgn : ∀ l, l < 2 * s.n + 2 → s.val (opp l) = - s.val l
  tri : ∀ l, s.val l = -1 ∨ s.val l = 0 ∨ s.val l = 1
  on : ∀ l, l ∈ s.trail ↔ (l < 2 * s.n + 2 ∧ s.val l = 1)
  nd : s.trail.Nodup
  cls : ∀ c, (s.lits c).Nodup ∧ ∀ l ∈ s.lits c, l < 2 * s.n + 2
  wnd : ∀ l, ((s.wat l).map Prod.fst).Nodup
  wat : ∀ l p, p ∈ s.wat l → p.1 < s.cl.length ∧ p.2 ∈ s.lits p.1 ∧ ∃ a b rest, s.lits p.1 = a :: b :: rest ∧ (l = a ∨ l = b)

theorem opp_opp (l : Nat) : opp (opp l) = l := by unfold opp; split <;> split <;> omega
theorem opp_ne (l : Nat) : opp l ≠ l := by unfold opp; split <;> omega
theorem len_le_of_nodup {l : List Nat} {n : Nat} (hn : l.Nodup) (hl : ∀ x ∈ l, x < n) : l.length ≤ n := by
  have h := List.Nodup.length_le_of_subset hn (l₂ := List.range n) (fun x hx => List.mem_range.2 (hl x hx))
  simpa using h
theorem Fit.trail_le {s : Sv} (h : Fit s) : s.trail.length ≤ 2 * s.n + 2 := len_le_of_nodup h.nd (fun x hx => ((h.on x).1 hx).1)
theorem Fit.lits_le {s : Sv} (h : Fit s) (c : Nat) : (s.lits c).length ≤ 2 * s.n + 2 := len_le_of_nodup (h.cls c).1 (h.cls c).2
theorem Fit.wat_le {s : Sv} (h : Fit s) (l : Nat) : (s.wat l).length ≤ s.cl.length := by
  have := len_le_of_nodup (h.wnd l) (n := s.cl.length) (fun x hx => by
    obtain ⟨p, hp, rfl⟩ := List.mem_map.1 hx
    exact (h.wat l p hp).1)
  simpa using this

/-- A value is given. -/
theorem val_assign {s : Sv} {l : Nat} (h : Fit s) (hl : l < 2 * s.n + 2) (l' : Nat) : (s.assign l).val l' = if l' = l then 1 else if l' = opp l then -1 else s.val l' := by
  have hol := opp_lt hl
  have hne := opp_ne l
  unfold Sv.assign Sv.val
  simp only
  by_cases e : l' = opp l
  · subst e
    rw [List.getElem?_set_self (by simp [h.lv]; exact hol), if_neg hne, if_pos rfl]; rfl
  · rw [List.getElem?_set_ne (fun x => e x.symm), if_neg e]
    by_cases e2 : l' = l
    · subst e2
      rw [List.getElem?_set_self (by rw [h.lv]; exact hl), if_pos rfl]; rfl
    · rw [List.getElem?_set_ne (fun x => e2 x.symm), if_neg e2]
theorem Fit.assign {s : Sv} (h : Fit s) {l : Nat} (hl : l < 2 * s.n + 2) (h0 : s.val l = 0) : Fit (s.assign l) := by
  have V := val_assign h hl
  have hne := opp_ne l
  have hoo := opp_opp l
  refine ⟨by simp [Sv.assign, h.lv], h.lw, fun l' hl' => ?_, fun l' => ?_, fun l' => ?_, ?_, h.cls, h.wnd, h.wat⟩
  · rw [V, V]
    by_cases e1 : l' = l
    · subst e1
      rw [if_neg hne, if_pos rfl, if_pos rfl]
    · by_cases e2 : l' = opp l
      · subst e2
        rw [hoo, if_pos rfl, if_neg hne, if_pos rfl]; rfl
      · rw [if_neg (fun e => e2 (by rw [← e, opp_opp])), if_neg (fun e => e1 (by rw [← opp_opp l', e, hoo])), if_neg e1, if_neg e2]
        exact h.sgn l' hl'
  · rw [V]
    split
    · exact Or.inr (Or.inr rfl)
    · split
      · exact Or.inl rfl
      · exact h.tri l'
  · show l' ∈ s.trail ++ [l] ↔ l' < 2 * s.n + 2 ∧ _
    rw [V, List.mem_append, List.mem_singleton, h.on]
    by_cases e1 : l' = l
    · subst e1; simp [hl]
    · by_cases e2 : l' = opp l
      · subst e2
        have := h.sgn l hl
        rw [h0] at this
        simp [this, hne]
      · simp [e1, e2]
  · show (s.trail ++ [l]).Nodup
    rw [List.nodup_append]
    refine ⟨h.nd, by simp, fun a ha b hb => ?_⟩
    simp at hb
    subst hb
    rintro rfl
    have := ((h.on _).1 ha).2
    omega

theorem lits_setc {s : Sv} {c : Nat} (hc : c < s.cl.length) (ls : List Nat) (w : List (List (Nat × Nat))) (c' : Nat) : ({ s with cl := s.cl.set c ls, ws := w } : Sv).lits c' = if c' = c then ls else s.lits c' := lits_set hc ls c'

/-- A step of visit: what moves leaves. -/
theorem Fit.moves {s : Sv} {gone c o : Nat} {stay rest : List (Nat × Nat)} (hgw : gone < s.ws.length) (h : Fit (s.setW gone (stay ++ (c, o) :: rest))) (hg : s.val gone = -1) :
    (s.moves c gone).2.n = s.n ∧ (s.moves c gone).2.vals = s.vals ∧ (s.moves c gone).2.trail = s.trail ∧ (s.moves c gone).2.cl.length = s.cl.length ∧ (s.moves c gone).2.ws.length = s.ws.length ∧
    ((s.moves c gone).1 = true → Fit ((s.moves c gone).2.setW gone (stay ++ rest))) ∧
    ((s.moves c gone).1 = false → ∃ m0 r, (s.moves c gone).2.lits c = m0 :: r ∧ m0 < 2 * s.n + 2 ∧ Fit ((s.moves c gone).2.setW gone (stay ++ (c, m0) :: rest))) := by
  have W := wat_setW hgw (stay ++ (c, o) :: rest)
  obtain ⟨hc, ho, a, b, r, hl, hgab⟩ := h.wat gone (c, o) (by rw [W, if_pos rfl]; simp)
  have hcn := h.cls c
  have hc : c < s.cl.length := hc
  have hl : s.lits c = a :: b :: r := hl
  have hcn : (s.lits c).Nodup ∧ ∀ l ∈ s.lits c, l < 2 * s.n + 2 := hcn
  rw [hl] at hcn
  have hab : a ≠ b := fun e => by have := hcn.1; simp [e] at this
  obtain ⟨m0, hm0, hcase⟩ := moves_cases hl hgab
  have hrn : ∀ x ∈ r, x ≠ a ∧ x ≠ b := fun x hx => by
    have := hcn.1
    simp only [List.nodup_cons, List.mem_cons, not_or] at this
    exact ⟨fun e => this.1.2 (e ▸ hx), fun e => this.2.1 (e ▸ hx)⟩
  have hperm : ∀ x, x ∈ a :: b :: r ↔ x ∈ m0 :: gone :: r := fun x => by
    rcases hm0 with ⟨rfl, rfl⟩ | ⟨rfl, rfl⟩
    · exact Iff.rfl
    · simp only [List.mem_cons]; exact ⟨fun h => by rcases h with h | h | h <;> simp [h], fun h => by rcases h with h | h | h <;> simp [h]⟩
  have hnd2 : (m0 :: gone :: r).Nodup := by
    rcases hm0 with ⟨rfl, rfl⟩ | ⟨rfl, rfl⟩
    · exact hcn.1
    · exact (List.Perm.swap _ _ _).nodup_iff.1 hcn.1
  have hmlt : m0 < 2 * s.n + 2 := by
    rcases hm0 with ⟨rfl, _⟩ | ⟨rfl, _⟩
    · exact hcn.2 _ (by simp)
    · exact hcn.2 _ (by simp)
  have hglt : gone < 2 * s.n + 2 := by
    rcases hgab with rfl | rfl
    · exact hcn.2 _ (by simp)
    · exact hcn.2 _ (by simp)
  have hmg : m0 ≠ gone := fun e => by simp [e] at hnd2
  have hwn := h.wnd gone
  rw [W, if_pos rfl] at hwn
  simp only [List.map_append, List.map_cons] at hwn
  have hcs : ∀ p ∈ stay ++ rest, p.1 ≠ c := fun p hp e => by
    rw [List.nodup_append] at hwn
    rcases List.mem_append.1 hp with hp | hp
    · exact hwn.2.2 p.1 (List.mem_map.2 ⟨p, hp, rfl⟩) c (by simp) e
    · have := hwn.2.1
      simp only [List.nodup_cons] at this
      exact this.1 (e ▸ List.mem_map.2 ⟨p, hp, rfl⟩)
  have hwn2 : ((stay ++ rest).map Prod.fst).Nodup := by
    rw [List.map_append]
    exact hwn.sublist (List.Sublist.append_left (List.sublist_cons_self _ _) _)
  have hoth : ∀ l p, l ≠ gone → p ∈ s.wat l → p.1 < s.cl.length ∧ p.2 ∈ s.lits p.1 ∧ ∃ a b rest, s.lits p.1 = a :: b :: rest ∧ (l = a ∨ l = b) := fun l p hlg hp => h.wat l p (by rw [W, if_neg hlg]; exact hp)
  have hwl : ∀ l, l ≠ gone → ((s.wat l).map Prod.fst).Nodup := fun l hlg => by have := h.wnd l; rwa [W, if_neg hlg] at this
  have hin : ∀ p ∈ stay ++ rest, p.1 < s.cl.length ∧ p.2 ∈ s.lits p.1 ∧ ∃ a b rest, s.lits p.1 = a :: b :: rest ∧ (gone = a ∨ gone = b) := fun p hp => h.wat gone p (by
    rw [W, if_pos rfl]
    rcases List.mem_append.1 hp with hp | hp
    · simp [hp]
    · simp [hp])
  rcases hcase with ⟨hm, hv⟩ | ⟨j, li, hj, hli, hv, hm⟩
  · rw [hm]
    have L := lits_set hc (m0 :: gone :: r)
    refine ⟨rfl, rfl, rfl, by simp, rfl, fun e => (by cases e), fun _ => ⟨m0, gone :: r, by rw [L, if_pos rfl], hmlt, ?_⟩⟩
    have W2 := wat_setW (s := { s with cl := s.cl.set c (m0 :: gone :: r) }) hgw (stay ++ (c, m0) :: rest)
    refine ⟨h.lv, by simpa [Sv.setW] using h.lw, h.sgn, h.tri, h.on, h.nd, fun c' => ?_, fun l => ?_, fun l p hp => ?_⟩
    · show (({ s with cl := s.cl.set c (m0 :: gone :: r) } : Sv).lits c').Nodup ∧ ∀ l ∈ ({ s with cl := s.cl.set c (m0 :: gone :: r) } : Sv).lits c', _
      rw [L]
      split
      · exact ⟨hnd2, fun x hx => hcn.2 x ((hperm x).2 hx)⟩
      · exact h.cls c'
    · rw [W2]
      split
      · simpa using hwn
      · next e => exact hwl l e
    · show p.1 < (s.cl.set c (m0 :: gone :: r)).length ∧ p.2 ∈ ({ s with cl := s.cl.set c (m0 :: gone :: r) } : Sv).lits p.1 ∧ ∃ a b rest, ({ s with cl := s.cl.set c (m0 :: gone :: r) } : Sv).lits p.1 = a :: b :: rest ∧ (l = a ∨ l = b)
      rw [W2] at hp
      rw [L, List.length_set]
      by_cases ep : p.1 = c
      · rw [if_pos ep]
        split at hp
        · next e =>
          have : p = (c, m0) := by
            rcases List.mem_append.1 hp with hp | hp
            · exact absurd ep (hcs p (by simp [hp]))
            · rcases List.mem_cons.1 hp with hp | hp
              · exact hp
              · exact absurd ep (hcs p (by simp [hp]))
          subst this
          exact ⟨hc, by simp, m0, gone, r, rfl, Or.inr e⟩
        · next e =>
          obtain ⟨h1, h2, a', b', r', h3, h4⟩ := hoth l p e hp
          refine ⟨h1, ?_, m0, gone, r, rfl, ?_⟩
          · rw [ep, hl] at h2
            exact (hperm _).1 h2
          · rw [ep, hl] at h3
            cases h3
            rcases hm0 with ⟨rfl, rfl⟩ | ⟨rfl, rfl⟩
            · exact h4
            · exact h4.symm
      · rw [if_neg ep]
        split at hp
        · next e =>
          subst e
          refine hin p ?_
          rcases List.mem_append.1 hp with hp | hp
          · simp [hp]
          · rcases List.mem_cons.1 hp with hp | hp
            · exact absurd (by rw [hp]) ep
            · simp [hp]
        · next e => exact hoth l p e hp
  · rw [hm]
    have hjr : li ∈ r := List.mem_of_getElem? hj
    obtain ⟨hjl, hje⟩ := List.getElem?_eq_some_iff.1 hj
    have hlia : li ≠ a ∧ li ≠ b := hrn li hjr
    have hlm : li ≠ m0 := by rcases hm0 with ⟨rfl, _⟩ | ⟨rfl, _⟩ <;> simp [hlia]
    have hlg : li ≠ gone := fun e => hli (e ▸ hg)
    have hlilt : li < 2 * s.n + 2 := hcn.2 li (by simp [hjr])
    have L := lits_set hc (m0 :: li :: r.set j gone)
    have hlw : li < s.ws.length := by have := h.lw; simp [Sv.setW] at this; omega
    have WA := wat_addW (s := { s with cl := s.cl.set c (m0 :: li :: r.set j gone) }) (c := c) (o := m0) hlw
    have W2 := wat_setW (s := Sv.addW { s with cl := s.cl.set c (m0 :: li :: r.set j gone) } li c m0) (l := gone) (by simpa [Sv.addW] using hgw) (stay ++ rest)
    have hperm2 : (m0 :: li :: r.set j gone).Perm (m0 :: gone :: r) := by
      refine List.Perm.cons _ ?_
      have h1 : r = r.take j ++ li :: r.drop (j + 1) := by
        conv => lhs; rw [← List.take_append_drop j r, List.drop_eq_getElem_cons hjl, hje]
      have h2 : r.set j gone = r.take j ++ gone :: r.drop (j + 1) := by
        rw [List.set_eq_take_append_cons_drop, if_pos hjl]
      rw [h2]
      conv => rhs; rw [h1]
      have p1 : (li :: (r.take j ++ gone :: r.drop (j + 1))).Perm (li :: gone :: (r.take j ++ r.drop (j + 1))) := List.Perm.cons _ List.perm_middle
      have p2 : (gone :: (r.take j ++ li :: r.drop (j + 1))).Perm (gone :: li :: (r.take j ++ r.drop (j + 1))) := List.Perm.cons _ List.perm_middle
      exact p1.trans ((List.Perm.swap _ _ _).trans p2.symm)
    refine ⟨rfl, rfl, rfl, by simp [Sv.addW], by simp [Sv.addW], fun _ => ?_, fun e => by cases e⟩
    have hLL : ∀ c', ((Sv.addW { s with cl := s.cl.set c (m0 :: li :: r.set j gone) } li c m0).setW gone (stay ++ rest)).lits c' = if c' = c then m0 :: li :: r.set j gone else s.lits c' := L
    have hWW : ∀ l, ((Sv.addW { s with cl := s.cl.set c (m0 :: li :: r.set j gone) } li c m0).setW gone (stay ++ rest)).wat l = if l = gone then stay ++ rest else if l = li then s.wat li ++ [(c, m0)] else s.wat l := fun l => by rw [W2, WA]; rfl
    have hnc : ∀ p ∈ s.wat li, p.1 ≠ c := fun p hp e => by
      obtain ⟨_, _, a', b', r', h3, h4⟩ := hoth li p hlg hp
      rw [e, hl] at h3
      cases h3
      rcases h4 with h4 | h4
      · exact hlia.1 h4
      · exact hlia.2 h4
    refine ⟨h.lv, by simp [Sv.setW, Sv.addW]; simpa [Sv.setW] using h.lw, h.sgn, h.tri, h.on, h.nd, fun c' => ?_, fun l => ?_, fun l p hp => ?_⟩
    · rw [hLL]
      split
      · exact ⟨hperm2.nodup_iff.2 hnd2, fun x hx => hcn.2 x ((hperm x).2 (hperm2.mem_iff.1 hx))⟩
      · exact h.cls c'
    · rw [hWW]
      split
      · exact hwn2
      · next e =>
        split
        · next e2 =>
          subst e2
          rw [List.map_append, List.nodup_append]
          refine ⟨hwl _ e, by simp, fun x hx y hy => ?_⟩
          simp at hy
          subst hy
          obtain ⟨p, hp, rfl⟩ := List.mem_map.1 hx
          exact hnc p hp
        · exact hwl l e
    · show p.1 < _ ∧ _
      rw [hWW] at hp
      rw [hLL]
      have hlen : ((Sv.addW { s with cl := s.cl.set c (m0 :: li :: r.set j gone) } li c m0).setW gone (stay ++ rest)).cl.length = s.cl.length := by simp [Sv.setW, Sv.addW]
      rw [hlen]
      by_cases eg : l = gone
      · rw [if_pos eg] at hp
        rw [if_neg (hcs p hp)]
        subst eg
        exact hin p hp
      · rw [if_neg eg] at hp
        by_cases el : l = li
        · rw [if_pos el] at hp
          rcases List.mem_append.1 hp with hp | hp
          · rw [if_neg (hnc p hp)]
            subst el
            exact hoth _ p eg hp
          · simp at hp
            subst hp
            rw [if_pos rfl]
            exact ⟨hc, by simp, m0, li, _, rfl, Or.inr el⟩
        · rw [if_neg el] at hp
          obtain ⟨h1, h2, a', b', r', h3, h4⟩ := hoth l p eg hp
          by_cases ep : p.1 = c
          · rw [if_pos ep]
            rw [ep, hl] at h3 h2
            cases h3
            refine ⟨h1, hperm2.mem_iff.2 ((hperm _).1 h2), m0, li, _, rfl, Or.inl ?_⟩
            rcases hm0 with ⟨rfl, rfl⟩ | ⟨rfl, rfl⟩
            · exact h4.resolve_right eg
            · exact h4.resolve_left eg
          · rw [if_neg ep]
            exact ⟨h1, h2, a', b', r', h3, h4⟩

end Go.Proofs.YtlehlgipbhfioaaGreat
