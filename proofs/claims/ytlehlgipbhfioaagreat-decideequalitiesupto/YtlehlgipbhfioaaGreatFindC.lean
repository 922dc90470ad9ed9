/- Package find: Join. -/
import Derived.Test.YtlehlgipbhfioaaGreatP00
import Derived.Deep.RegionLaw
import Derived.RangeFuncBox
namespace Go.Proofs.YtlehlgipbhfioaaGreat
open Go.RowKit

/-- append onto a row of one's own: told besides: what comes lies where the row lay, or in a new block. -/
theorem run_append_here {P : Program} (w : World) (base : Nat) (t ty e : TypeId) (i : TypeInfo) (z : Value) (size bytes : Nat) (ht : P.underlying t = some (.slice e)) (hi : P.info? e = some i) (hz : i.zero = some z)
    (hsize : i.size = size) (hby : i.bytes = bytes) (hzs : z.cells.size = size) (hsz : 0 < size)
    (v : Value) (n : Nat) (xs : List Value) (hown : w.ownsRow base e size v n xs)
    (a : Addr) (m c : Nat) (news : List Value) (hl : news.length = m * size) (hnews : ∀ j u, news[j]? = some u → w.cell? (a.add j) = some u) (h1 : ∀ u ∈ news, u.oneCell' = true)
    (h63 : n + m ≤ maxLen) (hbytes : (n + m) * bytes ≤ 140737488355328) (hbase : base ≤ w.heap.size) :
    ∃ v' w', (Builtin.append_ #[t, t] ty #[v, .slice (some a) m c]).run P w = .ok v' w' ∧ w'.ownsRow base e size v' (n + m) (xs ++ news) ∧ w.grownBy w' v.ownBlock ∧
      (v'.ownBlock = v.ownBlock ∨ ∀ k, v'.ownBlock = some k → w.heap.size ≤ k) := by
  obtain ⟨v', w', hr, r1, r2, _⟩ := run_append_own (P := P) w base t ty e i z size bytes ht hi hz hsize hby hzs hsz v n xs hown a m c news hl hnews h1 h63 hbytes hbase
  refine ⟨v', w', hr, r1, r2, ?_⟩
  rcases hown.2 with ⟨rfl, rfl⟩ | ⟨g, cap, cur, rfl, hbg, hg, hnc, hcm, hcs, htake⟩
  · obtain rfl : xs = [] := List.eq_nil_of_length_eq_zero (by simpa using hown.1)
    obtain ⟨v2, w2, hr2, s1, _⟩ := run_append_own (P := P) w w.heap.size t ty e i z size bytes ht hi hz hsize hby hzs hsz (.slice none 0 0) 0 [] (World.ownsRow_nil w _ e size) a m c news hl hnews h1 h63 hbytes (Nat.le_refl _)
    rw [hr] at hr2
    cases hr2
    exact Or.inr fun k hk => (s1.lt k hk).1
  · by_cases hroom : n + m ≤ cap
    · subst hsize
      have hfit : n * i.size + news.length ≤ cur.size := by rw [hl, hcs, ← Nat.add_mul]; exact Nat.mul_le_mul_right _ hroom
      have hr2 := run_append_room (P := P) w t ty e i ht hi g n cap cur hg a m c news hl hnews h1 hroom hfit
      rw [hr] at hr2
      cases hr2
      exact Or.inl rfl
    · obtain ⟨v2, w2, hr2, s1, _⟩ := run_append_arg_grows (P := P) w t ty e i z size bytes ht hi hz hsize hby hzs hsz ⟨g, 0, none⟩ n cap xs hown.1 (hown.cells (g := g) rfl) a m c news hl hnews (by omega) h63 hbytes
      rw [hr] at hr2
      cases hr2
      exact Or.inr fun k hk => (s1.lt k hk).1

/-- .. as one step of a region that draws. -/
theorem step_append_here {P : Program} {ops : Array Oper} {o : Oper} {a : Act} {w : World} {K : Act → World → Prop} {Q : Exit → Act → World → Prop} {E : Prop}
    (hg : o.guard = none) (s x : Operand) (t : TypeId) (hop : o.op = Op.call { callee := Callee.builtin Builtin.append, args := #[s, x], argTypes := #[t, t] })
    (base : Nat) (e : TypeId) (i : TypeInfo) (z : Value) (size bytes : Nat) (h1 : P.underlying t = some (.slice e)) (h2 : P.info? e = some i) (h3 : i.zero = some z) (h4 : i.size = size) (h5 : i.bytes = bytes) (h6 : z.cells.size = size) (h7 : 0 < size)
    (v : Value) (n : Nat) (xs : List Value) (hs : a.eval s = v) (hown : w.ownsRow base e size v n xs)
    (ad : Addr) (m c : Nat) (news : List Value) (hx : a.eval x = .slice (some ad) m c) (hn : news.length = m * size) (hc : ∀ j u, news[j]? = some u → w.cell? (ad.add j) = some u) (h1c : ∀ u ∈ news, u.oneCell' = true)
    (b1 : n + m ≤ maxLen) (b2 : (n + m) * bytes ≤ 140737488355328) (hbase : base ≤ w.heap.size)
    (hK : ∀ v' w', w'.ownsRow base e size v' (n + m) (xs ++ news) → w.grownBy w' v.ownBlock → (v'.ownBlock = v.ownBlock ∨ ∀ k, v'.ownBlock = some k → w.heap.size ≤ k) → K (a.put o.dst v') w') :
    if Region.wanted o (yielded ops a.tmps) = true then Oper.wp P o a w K Q else E := by
  have hw : Region.wanted o (yielded ops a.tmps) = true := by simp [Region.wanted, hg]
  rw [if_pos hw]
  obtain ⟨v', w', hrun, r1, r2, r3⟩ := run_append_here (P := P) w base t o.type e i z size bytes h1 h2 h3 h4 h5 h6 h7 v n xs hown ad m c news hn hc h1c b1 b2 hbase
  unfold Oper.wp
  simp [execOp, hop, resolve, invoke, builtin, hs, hx, hrun, Result.andThen]
  exact hK v' w' r1 r2 r3

theorem cell_two_news (w : World) (m : Nat) (x y : Value) (t : TypeId) : ∀ j u, [x, y][j]? = some u → ((w.drewN m).alloc (.cells #[x, y] t)).cell? ((⟨w.heap.size, 0, none⟩ : Addr).add j) = some u := by
  intro j u hj
  have e : ∀ k, ((w.drewN m).alloc (.cells #[x, y] t)).cell? ⟨w.heap.size, k, none⟩ = #[x, y][k]? := fun k => World.cell?_alloc_at (w := w.drewN m) _ t _ k rfl
  match j, hj with
  | 0, hj => simp at hj; subst hj; rw [show (⟨w.heap.size, 0, none⟩ : Addr).add 0 = ⟨w.heap.size, 0, none⟩ from by simp [Addr.add], e]; rfl
  | 1, hj => simp at hj; subst hj; rw [show (⟨w.heap.size, 0, none⟩ : Addr).add 1 = ⟨w.heap.size, 1, none⟩ from by simp [Addr.add], e]; rfl
  | j + 2, hj => simp at hj

theorem infoJoin : (Tryz.prog.info? 220).map (fun i => (i.zero, i.size, i.bytes)) = some (some (.agg #[.int .i64 0, .int .i64 0]), 2, 16) := by kernel_rfl

set_option maxHeartbeats 1000000 in
theorem Join_no (w : World) (base p nb n : Nat) (g : Uf.G) (jv : Value) (js : List (Nat × Nat)) (h : Lies w base p nb n g jv js) (k : Nat) (hg : Uf.Ok n g k) (a b : Int) (hno : inB n a = false ∨ inB n b = false ∨ sameB n g a b = true) :
    Calls Tryz.prog 71 #[.pointer (some ⟨p, 0, none⟩), .int .i64 a, .int .i64 b] w fun e w' => e = .returned (.bool false) ∧ w = w' := by
  cases ha : inB n a
  · clear hno
    go_enter Tryz.func71, Tryz.ntmps71
    go_wp2_with fail
    refine (has_in _ _ _ _ _ _ _ _ h a).mono ?_
    rintro e w' ⟨rfl, rfl⟩
    rw [ha]
    go_wp2
    go_ret
    exact ⟨rfl, rfl⟩
  · cases hb : inB n b
    · clear hno
      go_enter Tryz.func71, Tryz.ntmps71
      go_wp2_with fail
      refine (has_in _ _ _ _ _ _ _ _ h a).mono ?_
      rintro e w' ⟨rfl, rfl⟩
      rw [ha]
      go_wp2_with fail
      refine (has_in _ _ _ _ _ _ _ _ h b).mono ?_
      rintro e w' ⟨rfl, rfl⟩
      rw [hb]
      go_wp2
      go_ret
      exact ⟨rfl, rfl⟩
    · have hs : sameB n g a b = true := by
        rcases hno with x | x | x
        · rw [ha] at x; cases x
        · rw [hb] at x; cases x
        · exact x
      obtain ⟨a1, a2⟩ := inB_true ha
      obtain ⟨b1, b2⟩ := inB_true hb
      obtain ⟨i, rfl⟩ := Int.eq_ofNat_of_zero_le a1
      obtain ⟨j, rfl⟩ := Int.eq_ofNat_of_zero_le b1
      have hi : i < n := by omega
      have hj : j < n := by omega
      have heq : g.rt i = g.rt j := by simpa [sameB, ha, hb] using hs
      have hr := root_in w base p nb n g jv js h k hg j hj
      rw [← heq] at hr
      clear hno hs heq
      go_enter Tryz.func71, Tryz.ntmps71
      go_wp2_with fail
      refine (has_in _ _ _ _ _ _ _ _ h i).mono ?_
      rintro e w' ⟨rfl, rfl⟩
      rw [ha]
      go_wp2_with fail
      refine (has_in _ _ _ _ _ _ _ _ h j).mono ?_
      rintro e w' ⟨rfl, rfl⟩
      rw [hb]
      go_wp2_with fail
      refine (root_in _ _ _ _ _ _ _ _ h _ hg i hi).mono ?_
      rintro e w' ⟨rfl, rfl⟩
      go_wp2_with fail
      refine hr.mono ?_
      rintro e w' ⟨rfl, rfl⟩
      go_wp2
      go_ret
      exact ⟨rfl, rfl⟩

theorem joinC_snoc (js : List (Nat × Nat)) (c l : Nat) : joinC (js ++ [(c, l)]) = joinC js ++ [.int .i64 (c : Int), .int .i64 (l : Int)] := by simp [joinC]

/-- A join is kept: all else as it was. -/
theorem Lies.kept {w w1 : World} {base p nb n : Nat} {g : Uf.G} {jv : Value} {js : List (Nat × Nat)} (h : Lies w base p nb n g jv js) (m : Nat) (O : Obj) (hgrow : ((w.drewN m).alloc O).grownBy w1 jv.ownBlock) :
    w1.cell? ⟨p, 1, none⟩ = some jv ∧ w1.frozen? ⟨p, 1, none⟩ = false ∧ w1.rowIs p 148 2 (setsC nb n jv) ∧ w1.rowIs nb 150 (n * 4) (nodeC g) := by
  have hp : w1.rowIs p 148 2 (setsC nb n jv) := (h.drewN.sets.alloc O).of_block (hgrow.block p (h.drewN.sets.alloc O).lt (fun e => h.jp e.symm))
  have hn : w1.rowIs nb 150 (n * 4) (nodeC g) := (h.drewN.nodes.alloc O).of_block (hgrow.block nb (h.drewN.nodes.alloc O).lt (fun e => h.jn e.symm))
  exact ⟨hp.cell (i := 1) (by omega), hp.frozen 1, hp, hn⟩

abbrev Foot (p nb : Nat) (jv : Value) (k : Nat) : Prop := k = p ∨ k = nb ∨ jv.ownBlock = some k

theorem rowIs_type {w : World} {b : Nat} {t e : TypeId} {n : Nat} {f : Nat → Value} (h : w.rowIs b t n f) (hne : t ≠ e) {base size k : Nat} {v : Value} {xs : List Value} (hr : w.ownsRow base e size v k xs) : v.ownBlock ≠ some b := by
  intro hb
  rcases hr.2 with ⟨rfl, _⟩ | ⟨g, cap, cur, rfl, _, hg, _⟩
  · simp [Value.ownBlock] at hb
  · simp [Value.ownBlock] at hb
    subst hb
    obtain ⟨c, hc, _⟩ := h
    rw [hc] at hg
    simp at hg
    exact hne hg.2

theorem joined_lies {w w1 : World} {base p nb n : Nat} {g : Uf.G} {jv : Value} {js : List (Nat × Nat)} (h : Lies w base p nb n g jv js) (m : Nat) (O : Obj) (c l : Nat) (v' : Value)
    (hown : w1.ownsRow base 220 2 v' (js.length + 1) (joinC js ++ [.int .i64 (c : Int), .int .i64 (l : Int)])) (hgrow : ((w.drewN m).alloc O).grownBy w1 jv.ownBlock)
    (hloc : v'.ownBlock = jv.ownBlock ∨ ∀ k, v'.ownBlock = some k → ((w.drewN m).alloc O).heap.size ≤ k) :
    Lies (w1.setCell ⟨p, 1, none⟩ v') base p nb n g v' (js ++ [(c, l)]) ∧ Kept (Foot p nb jv) w (w1.setCell ⟨p, 1, none⟩ v') ∧ (v'.ownBlock = jv.ownBlock ∨ ∀ k, v'.ownBlock = some k → w.heap.size ≤ k) := by
  obtain ⟨_, _, hp, hn⟩ := h.kept m O hgrow
  have np := rowIs_type hp (by decide) hown
  have nn := rowIs_type hn (by decide) hown
  refine ⟨⟨(hp.set 1 v').congr ?_, hn.setOther (Ne.symm h.ne) _, ?_, h.ne, np, nn, h.bp, h.bn, h.small⟩, ?_, ?_⟩
  · intro i hi
    unfold setsC
    by_cases e : i = 0
    · simp [e]
    · rw [if_pos (by omega), if_neg e]
  · rw [joinC_snoc, List.length_append]
    exact ownsRow_setCell_other hown np _
  · exact Kept.setCell (S := Foot p nb jv) (p := ⟨p, 1, none⟩) (Kept.grown (((Kept.refl (Foot p nb jv) w).drewN m).alloc O) hgrow (fun k hk => Or.inr (Or.inr hk))) (Or.inl rfl) _
  · rcases hloc with e | e
    · exact Or.inl e
    · exact Or.inr fun k hk => by have := e k hk; simp at this; omega

/-- What the two ways of Join have in common at their end. -/
theorem Join_fin {w w1 w2 : World} {base p nb n : Nat} {g : Uf.G} {jv v' : Value} {js : List (Nat × Nat)} {c r : Nat} (hL : Kept (Foot p nb jv) w w1) (hloc : v'.ownBlock = jv.ownBlock ∨ ∀ k, v'.ownBlock = some k → w.heap.size ≤ k)
    (hn : Lies w2 base p nb n (Uf.hang g c r) v' (js ++ [(c, (g.N r).lst)])) (hk : Kept1 nb w1 w2) :
    ∃ jv', Lies w2 base p nb n (Uf.hang g c r) jv' (js ++ [(c, (g.N r).lst)]) ∧ Kept (Foot p nb jv) w w2 ∧ (jv'.ownBlock = jv.ownBlock ∨ ∀ k, jv'.ownBlock = some k → w.heap.size ≤ k) :=
  ⟨v', hn, hL.trans (hk.mono fun _ _ hk => Or.inr (Or.inl hk)), hloc⟩

set_option maxHeartbeats 2000000 in
theorem Join_yes (w : World) (base p nb n : Nat) (g : Uf.G) (jv : Value) (js : List (Nat × Nat)) (h : Lies w base p nb n g jv js) (hg : Uf.Ok n g js.length) (i j : Nat) (hi : i < n) (hj : j < n) (hne : g.rt i ≠ g.rt j) (hb : base ≤ w.heap.size) :
    Calls Tryz.prog 71 #[.pointer (some ⟨p, 0, none⟩), .int .i64 i, .int .i64 j] w fun e w' => e = .returned (.bool true) ∧ ∃ jv', Lies w' base p nb n (Uf.hang g (Uf.pick g i j).1 (Uf.pick g i j).2) jv' (js ++ [((Uf.pick g i j).1, (g.N (Uf.pick g i j).2).lst)]) ∧
      Kept (Foot p nb jv) w w' ∧ (jv'.ownBlock = jv.ownBlock ∨ ∀ k, jv'.ownBlock = some k → w.heap.size ≤ k) := by
  have ha := inB_nat hi
  have hb' := inB_nat hj
  have hri := hg.rtlt i hi
  have hrj := hg.rtlt j hj
  have hjn := hg.num_le
  have hn := h.small
  have c0 := h.c0
  have c1 := h.c1
  have si := h.siz hri
  have sj := h.siz hrj
  have Ri := root_in w base p nb n g jv js h _ hg i hi
  have Rj := root_in w base p nb n g jv js h _ hg j hj
  have hsz := hg.sizes (g.rt i) (g.rt j) hri hrj hne (hg.rtrt i hi) (hg.rtrt j hj)
  have hp : Uf.pick g i j = if (g.N (g.rt j)).siz < (g.N (g.rt i)).siz then (g.rt j, g.rt i) else (g.rt i, g.rt j) := rfl
  rw [hp]
  clear hp hg
  generalize g.rt i = x at *
  generalize g.rt j = y at *
  have hne' : ((x : Int) == (y : Int)) = false := beq_eq_false_iff_ne.2 (by omega)
  obtain ⟨i0, hi0, hz0, hz1, hz2⟩ := info_parts infoJoin
  have f1 := h.sets.frozen 1
  obtain ⟨ja, jc, rfl⟩ := h.jform
  have plt := h.sets.lt
  have nlt := h.nodes.lt
  have A0 : ∀ m O, ((w.drewN m).alloc O).cell? ⟨p, 0, none⟩ = some (.slice (some ⟨nb, 0, none⟩) n n) := fun m O => (h.drewN.sets.alloc O).cell (by omega)
  have A1 : ∀ m O, ((w.drewN m).alloc O).cell? ⟨p, 1, none⟩ = some (.slice ja js.length jc) := fun m O => (h.drewN.sets.alloc O).cell (i := 1) (by omega)
  have OWN := fun m O => (h.drewN (m := m)).joins.alloc O
  by_cases hs : (g.N y).siz < (g.N x).siz
  · rw [if_pos hs]
    go_enter Tryz.func71, Tryz.ntmps71
    go_wp2_with fail
    refine (has_in _ _ _ _ _ _ _ _ h i).mono ?_
    rintro e w' ⟨rfl, rfl⟩
    rw [ha]
    go_wp2_with fail
    refine (has_in _ _ _ _ _ _ _ _ h j).mono ?_
    rintro e w' ⟨rfl, rfl⟩
    rw [hb']
    go_wp2_with fail
    refine Ri.mono ?_
    rintro e w' ⟨rfl, rfl⟩
    go_wp2_with fail
    refine Rj.mono ?_
    rintro e w' ⟨rfl, rfl⟩
    clear Ri Rj
    go_wp2_with fail
    go_quiet (fail)
    go_wp2_with fail
    have ll := h.lst hri
    have A2 : ∀ m O, ((w.drewN m).alloc O).cell? ⟨nb, x * 4 + 3, none⟩ = some (.int .i64 ((g.N x).lst : Int)) := fun m O => by rw [← nodeC_lst]; exact (h.drewN.nodes.alloc O).cell (by omega)
    have NEW := fun m => cell_two_news w m (.int .i64 (y : Int)) (.int .i64 ((g.N x).lst : Int)) 220
    clear si sj hs hne'
    go_region_law (refine step_append_here rfl (.tmp 51) (.tmp 62) 146 rfl base 220 i0 _ 2 16 Tryz.underlying146 hi0 hz0 hz1 hz2 rfl (by decide) _ js.length (joinC js) (by simp [Act.eval]; rfl) (by exact OWN _ _) ⟨w.heap.size, 0, none⟩ 1 1 [.int .i64 (y : Int), .int .i64 ((g.N x).lst : Int)] (by simp [Act.eval]) rfl (by exact NEW _) (by simp [Value.oneCell']) (by unfold maxLen; omega) (by omega) (by simp; omega) ?_; intro v' w1 hown1 hgrow hloc; obtain ⟨kp1, kf1, _, _⟩ := h.kept _ _ hgrow; obtain ⟨b1, cap1, hv1⟩ := ownsRow_succ hown1; subst hv1)
    all_goals
      obtain ⟨L1, L2, L3⟩ := joined_lies h _ _ y (g.N x).lst _ hown1 hgrow hloc
      clear hown1 hgrow hloc kp1 kf1 A0 A1 A2 OWN NEW ll c0 c1 f1
      go_wp2_with fail
      refine (hang_in _ base p nb n g _ _ L1 y x hrj hri (Ne.symm hne) (by omega)).mono ?_
      rintro e w2 ⟨rfl, H1, H2⟩
      clear L1
      go_wp2
      go_ret
      exact ⟨rfl, Join_fin L2 L3 H1 H2⟩
  · rw [if_neg hs]
    go_enter Tryz.func71, Tryz.ntmps71
    go_wp2_with fail
    refine (has_in _ _ _ _ _ _ _ _ h i).mono ?_
    rintro e w' ⟨rfl, rfl⟩
    rw [ha]
    go_wp2_with fail
    refine (has_in _ _ _ _ _ _ _ _ h j).mono ?_
    rintro e w' ⟨rfl, rfl⟩
    rw [hb']
    go_wp2_with fail
    refine Ri.mono ?_
    rintro e w' ⟨rfl, rfl⟩
    go_wp2_with fail
    refine Rj.mono ?_
    rintro e w' ⟨rfl, rfl⟩
    clear Ri Rj
    go_wp2_with fail
    go_quiet (fail)
    go_wp2_with fail
    have ll := h.lst hrj
    have A2 : ∀ m O, ((w.drewN m).alloc O).cell? ⟨nb, y * 4 + 3, none⟩ = some (.int .i64 ((g.N y).lst : Int)) := fun m O => by rw [← nodeC_lst]; exact (h.drewN.nodes.alloc O).cell (by omega)
    have NEW := fun m => cell_two_news w m (.int .i64 (x : Int)) (.int .i64 ((g.N y).lst : Int)) 220
    clear si sj hs hne'
    go_region_law (refine step_append_here rfl (.tmp 51) (.tmp 62) 146 rfl base 220 i0 _ 2 16 Tryz.underlying146 hi0 hz0 hz1 hz2 rfl (by decide) _ js.length (joinC js) (by simp [Act.eval]; rfl) (by exact OWN _ _) ⟨w.heap.size, 0, none⟩ 1 1 [.int .i64 (x : Int), .int .i64 ((g.N y).lst : Int)] (by simp [Act.eval]) rfl (by exact NEW _) (by simp [Value.oneCell']) (by unfold maxLen; omega) (by omega) (by simp; omega) ?_; intro v' w1 hown1 hgrow hloc; obtain ⟨kp1, kf1, _, _⟩ := h.kept _ _ hgrow; obtain ⟨b1, cap1, hv1⟩ := ownsRow_succ hown1; subst hv1)
    all_goals
      obtain ⟨L1, L2, L3⟩ := joined_lies h _ _ x (g.N y).lst _ hown1 hgrow hloc
      clear hown1 hgrow hloc kp1 kf1 A0 A1 A2 OWN NEW ll c0 c1 f1
      go_wp2_with fail
      refine (hang_in _ base p nb n g _ _ L1 x y hri hrj hne (by omega)).mono ?_
      rintro e w2 ⟨rfl, H1, H2⟩
      clear L1
      go_wp2
      go_ret
      exact ⟨rfl, Join_fin L2 L3 H1 H2⟩

end Go.Proofs.YtlehlgipbhfioaaGreat
