/- Package find: Join. Package term: add. Package find: New, unhang. -/
import Derived.Test.YtinphcnknionmaaP00
import Derived.Deep.RegionLaw
import Derived.RangeFuncBox
import Derived.Test.YtinphcnknionmaaP01
namespace Go.Proofs.Ytinphcnknionmaa
open Go.RowKit

/-- append onto a row of one's own: told besides: what comes lies where the row lay, or in a new block. -/
theorem run_append_here {P : Program} (w : World) (base : Nat) (t ty e : TypeId) (i : TypeInfo) (z : Value) (size bytes : Nat) (ht : P.underlying t = some (.slice e)) (hi : P.info? e = some i) (hz : i.zero = some z)
    (hsize : i.size = size) (hby : i.bytes = bytes) (hzs : z.cells.size = size) (hsz : 0 < size)
    (v : Value) (n : Nat) (xs : List Value) (hown : w.ownsRow base e size v n xs)
    (a : Addr) (m c : Nat) (news : List Value) (hl : news.length = m * size) (hnews : ∀ j u, news[j]? = some u → w.cell? (a.add j) = some u) (h1 : ∀ u ∈ news, u.oneCell' = true)
    (h63 : n + m ≤ maxLen) (hbytes : (n + m) * bytes ≤ 140737488355328) (hbase : base ≤ w.heap.size) :
    ∃ v' w', (Builtin.append_ #[t, t] ty #[v, .slice (some a) m c]).run P w = .ok v' w' ∧ w'.ownsRow base e size v' (n + m) (xs ++ news) ∧ w.grownBy w' v.ownBlock ∧
      (v'.ownBlock = v.ownBlock ∨ ∀ k, v'.ownBlock = some k → w.heap.size ≤ k) := by
  obtain ⟨v', w', hr, r1, r2, _⟩ := run_append_own (P := P) w base t ty e i z size bytes ht hi hz hsize hby hzs hsz v n xs hown a m c news hl hnews h1 h63 hbytes hbase
  refine ⟨v', w', hr, r1, r2, ?_⟩
  rcases hown.2 with ⟨rfl, rfl⟩ | ⟨g, cap, cur, rfl, hbg, hg, hnc, hcm, hcs, htake⟩
  · obtain rfl : xs = [] := List.eq_nil_of_length_eq_zero (by simpa using hown.1)
    obtain ⟨v2, w2, hr2, s1, _⟩ := run_append_own (P := P) w w.heap.size t ty e i z size bytes ht hi hz hsize hby hzs hsz (.slice none 0 0) 0 [] (World.ownsRow_nil w _ e size) a m c news hl hnews h1 h63 hbytes (Nat.le_refl _)
    rw [hr] at hr2
    cases hr2
    exact Or.inr fun k hk => (s1.lt k hk).1
  · by_cases hroom : n + m ≤ cap
    · subst hsize
      have hfit : n * i.size + news.length ≤ cur.size := by rw [hl, hcs, ← Nat.add_mul]; exact Nat.mul_le_mul_right _ hroom
      have hr2 := run_append_room (P := P) w t ty e i ht hi g n cap cur hg a m c news hl hnews h1 hroom hfit
      rw [hr] at hr2
      cases hr2
      exact Or.inl rfl
    · obtain ⟨v2, w2, hr2, s1, _⟩ := run_append_arg_grows (P := P) w t ty e i z size bytes ht hi hz hsize hby hzs hsz ⟨g, 0, none⟩ n cap xs hown.1 (hown.cells (g := g) rfl) a m c news hl hnews (by omega) h63 hbytes
      rw [hr] at hr2
      cases hr2
      exact Or.inr fun k hk => (s1.lt k hk).1

/-- .. as one step of a region that draws. -/
theorem step_append_here {P : Program} {ops : Array Oper} {o : Oper} {a : Act} {w : World} {K : Act → World → Prop} {Q : Exit → Act → World → Prop} {E : Prop}
    (hg : o.guard = none) (s x : Operand) (t : TypeId) (hop : o.op = Op.call { callee := Callee.builtin Builtin.append, args := #[s, x], argTypes := #[t, t] })
    (base : Nat) (e : TypeId) (i : TypeInfo) (z : Value) (size bytes : Nat) (h1 : P.underlying t = some (.slice e)) (h2 : P.info? e = some i) (h3 : i.zero = some z) (h4 : i.size = size) (h5 : i.bytes = bytes) (h6 : z.cells.size = size) (h7 : 0 < size)
    (v : Value) (n : Nat) (xs : List Value) (hs : a.eval s = v) (hown : w.ownsRow base e size v n xs)
    (ad : Addr) (m c : Nat) (news : List Value) (hx : a.eval x = .slice (some ad) m c) (hn : news.length = m * size) (hc : ∀ j u, news[j]? = some u → w.cell? (ad.add j) = some u) (h1c : ∀ u ∈ news, u.oneCell' = true)
    (b1 : n + m ≤ maxLen) (b2 : (n + m) * bytes ≤ 140737488355328) (hbase : base ≤ w.heap.size)
    (hK : ∀ v' w', w'.ownsRow base e size v' (n + m) (xs ++ news) → w.grownBy w' v.ownBlock → (v'.ownBlock = v.ownBlock ∨ ∀ k, v'.ownBlock = some k → w.heap.size ≤ k) → K (a.put o.dst v') w') :
    if Region.wanted o (yielded ops a.tmps) = true then Oper.wp P o a w K Q else E := by
  have hw : Region.wanted o (yielded ops a.tmps) = true := by simp [Region.wanted, hg]
  rw [if_pos hw]
  obtain ⟨v', w', hrun, r1, r2, r3⟩ := run_append_here (P := P) w base t o.type e i z size bytes h1 h2 h3 h4 h5 h6 h7 v n xs hown ad m c news hn hc h1c b1 b2 hbase
  unfold Oper.wp
  simp [execOp, hop, resolve, invoke, builtin, hs, hx, hrun, Result.andThen]
  exact hK v' w' r1 r2 r3

theorem cell_two_news (w : World) (m : Nat) (x y : Value) (t : TypeId) : ∀ j u, [x, y][j]? = some u → ((w.drewN m).alloc (.cells #[x, y] t)).cell? ((⟨w.heap.size, 0, none⟩ : Addr).add j) = some u := by
  intro j u hj
  have e : ∀ k, ((w.drewN m).alloc (.cells #[x, y] t)).cell? ⟨w.heap.size, k, none⟩ = #[x, y][k]? := fun k => World.cell?_alloc_at (w := w.drewN m) _ t _ k rfl
  match j, hj with
  | 0, hj => simp at hj; subst hj; rw [show (⟨w.heap.size, 0, none⟩ : Addr).add 0 = ⟨w.heap.size, 0, none⟩ from by simp [Addr.add], e]; rfl
  | 1, hj => simp at hj; subst hj; rw [show (⟨w.heap.size, 0, none⟩ : Addr).add 1 = ⟨w.heap.size, 1, none⟩ from by simp [Addr.add], e]; rfl
  | j + 2, hj => simp at hj

theorem infoJoin : (Try.prog.info? 135).map (fun i => (i.zero, i.size, i.bytes)) = some (some (.agg #[.int .i64 0, .int .i64 0]), 2, 16) := by kernel_rfl

set_option maxHeartbeats 1000000 in
theorem Join_no (w : World) (base p nb n : Nat) (g : Uf.G) (jv : Value) (js : List (Nat × Nat)) (h : Lies w base p nb n g jv js) (k : Nat) (hg : Uf.Ok n g k) (a b : Int) (hno : inB n a = false ∨ inB n b = false ∨ sameB n g a b = true) :
    Calls Try.prog 29 #[.pointer (some ⟨p, 0, none⟩), .int .i64 a, .int .i64 b] w fun e w' => e = .returned (.bool false) ∧ w = w' := by
  cases ha : inB n a
  · clear hno
    go_enter Try.func29, Try.ntmps29
    go_wp2_with fail
    refine (has_in _ _ _ _ _ _ _ _ h a).mono ?_
    rintro e w' ⟨rfl, rfl⟩
    rw [ha]
    go_wp2
    go_ret
    exact ⟨rfl, rfl⟩
  · cases hb : inB n b
    · clear hno
      go_enter Try.func29, Try.ntmps29
      go_wp2_with fail
      refine (has_in _ _ _ _ _ _ _ _ h a).mono ?_
      rintro e w' ⟨rfl, rfl⟩
      rw [ha]
      go_wp2_with fail
      refine (has_in _ _ _ _ _ _ _ _ h b).mono ?_
      rintro e w' ⟨rfl, rfl⟩
      rw [hb]
      go_wp2
      go_ret
      exact ⟨rfl, rfl⟩
    · have hs : sameB n g a b = true := by
        rcases hno with x | x | x
        · rw [ha] at x; cases x
        · rw [hb] at x; cases x
        · exact x
      obtain ⟨a1, a2⟩ := inB_true ha
      obtain ⟨b1, b2⟩ := inB_true hb
      obtain ⟨i, rfl⟩ := Int.eq_ofNat_of_zero_le a1
      obtain ⟨j, rfl⟩ := Int.eq_ofNat_of_zero_le b1
      have hi : i < n := by omega
      have hj : j < n := by omega
      have heq : g.rt i = g.rt j := by simpa [sameB, ha, hb] using hs
      have hr := root_in w base p nb n g jv js h k hg j hj
      rw [← heq] at hr
      clear hno hs heq
      go_enter Try.func29, Try.ntmps29
      go_wp2_with fail
      refine (has_in _ _ _ _ _ _ _ _ h i).mono ?_
      rintro e w' ⟨rfl, rfl⟩
      rw [ha]
      go_wp2_with fail
      refine (has_in _ _ _ _ _ _ _ _ h j).mono ?_
      rintro e w' ⟨rfl, rfl⟩
      rw [hb]
      go_wp2_with fail
      refine (root_in _ _ _ _ _ _ _ _ h _ hg i hi).mono ?_
      rintro e w' ⟨rfl, rfl⟩
      go_wp2_with fail
      refine hr.mono ?_
      rintro e w' ⟨rfl, rfl⟩
      go_wp2
      go_ret
      exact ⟨rfl, rfl⟩

theorem joinC_snoc (js : List (Nat × Nat)) (c l : Nat) : joinC (js ++ [(c, l)]) = joinC js ++ [.int .i64 (c : Int), .int .i64 (l : Int)] := by simp [joinC]

/-- A join is kept: all else as it was. -/
theorem Lies.kept {w w1 : World} {base p nb n : Nat} {g : Uf.G} {jv : Value} {js : List (Nat × Nat)} (h : Lies w base p nb n g jv js) (m : Nat) (O : Obj) (hgrow : ((w.drewN m).alloc O).grownBy w1 jv.ownBlock) :
    w1.cell? ⟨p, 1, none⟩ = some jv ∧ w1.frozen? ⟨p, 1, none⟩ = false ∧ w1.rowIs p 128 2 (setsC nb n jv) ∧ w1.rowIs nb 130 (n * 4) (nodeC g) := by
  have hp : w1.rowIs p 128 2 (setsC nb n jv) := (h.drewN.sets.alloc O).of_block (hgrow.block p (h.drewN.sets.alloc O).lt (fun e => h.jp e.symm))
  have hn : w1.rowIs nb 130 (n * 4) (nodeC g) := (h.drewN.nodes.alloc O).of_block (hgrow.block nb (h.drewN.nodes.alloc O).lt (fun e => h.jn e.symm))
  exact ⟨hp.cell (i := 1) (by omega), hp.frozen 1, hp, hn⟩

abbrev Foot (p nb : Nat) (jv : Value) (k : Nat) : Prop := k = p ∨ k = nb ∨ jv.ownBlock = some k

theorem rowIs_type {w : World} {b : Nat} {t e : TypeId} {n : Nat} {f : Nat → Value} (h : w.rowIs b t n f) (hne : t ≠ e) {base size k : Nat} {v : Value} {xs : List Value} (hr : w.ownsRow base e size v k xs) : v.ownBlock ≠ some b := by
  intro hb
  rcases hr.2 with ⟨rfl, _⟩ | ⟨g, cap, cur, rfl, _, hg, _⟩
  · simp [Value.ownBlock] at hb
  · simp [Value.ownBlock] at hb
    subst hb
    obtain ⟨c, hc, _⟩ := h
    rw [hc] at hg
    simp at hg
    exact hne hg.2

theorem joined_lies {w w1 : World} {base p nb n : Nat} {g : Uf.G} {jv : Value} {js : List (Nat × Nat)} (h : Lies w base p nb n g jv js) (m : Nat) (O : Obj) (c l : Nat) (v' : Value)
    (hown : w1.ownsRow base 135 2 v' (js.length + 1) (joinC js ++ [.int .i64 (c : Int), .int .i64 (l : Int)])) (hgrow : ((w.drewN m).alloc O).grownBy w1 jv.ownBlock)
    (hloc : v'.ownBlock = jv.ownBlock ∨ ∀ k, v'.ownBlock = some k → ((w.drewN m).alloc O).heap.size ≤ k) :
    Lies (w1.setCell ⟨p, 1, none⟩ v') base p nb n g v' (js ++ [(c, l)]) ∧ Kept (Foot p nb jv) w (w1.setCell ⟨p, 1, none⟩ v') ∧ (v'.ownBlock = jv.ownBlock ∨ ∀ k, v'.ownBlock = some k → w.heap.size ≤ k) := by
  obtain ⟨_, _, hp, hn⟩ := h.kept m O hgrow
  have np := rowIs_type hp (by decide) hown
  have nn := rowIs_type hn (by decide) hown
  refine ⟨⟨(hp.set 1 v').congr ?_, hn.setOther (Ne.symm h.ne) _, ?_, h.ne, np, nn, h.bp, h.bn, h.small⟩, ?_, ?_⟩
  · intro i hi
    unfold setsC
    by_cases e : i = 0
    · simp [e]
    · rw [if_pos (by omega), if_neg e]
  · rw [joinC_snoc, List.length_append]
    exact ownsRow_setCell_other hown np _
  · exact Kept.setCell (S := Foot p nb jv) (p := ⟨p, 1, none⟩) (Kept.grown (((Kept.refl (Foot p nb jv) w).drewN m).alloc O) hgrow (fun k hk => Or.inr (Or.inr hk))) (Or.inl rfl) _
  · rcases hloc with e | e
    · exact Or.inl e
    · exact Or.inr fun k hk => by have := e k hk; simp at this; omega

/-- What the two ways of Join have in common at their end. -/
theorem Join_fin {w w1 w2 : World} {base p nb n : Nat} {g : Uf.G} {jv v' : Value} {js : List (Nat × Nat)} {c r : Nat} (hL : Kept (Foot p nb jv) w w1) (hloc : v'.ownBlock = jv.ownBlock ∨ ∀ k, v'.ownBlock = some k → w.heap.size ≤ k)
    (hn : Lies w2 base p nb n (Uf.hang g c r) v' (js ++ [(c, (g.N r).lst)])) (hk : Kept1 nb w1 w2) :
    ∃ jv', Lies w2 base p nb n (Uf.hang g c r) jv' (js ++ [(c, (g.N r).lst)]) ∧ Kept (Foot p nb jv) w w2 ∧ (jv'.ownBlock = jv.ownBlock ∨ ∀ k, jv'.ownBlock = some k → w.heap.size ≤ k) :=
  ⟨v', hn, hL.trans (hk.mono fun _ _ hk => Or.inr (Or.inl hk)), hloc⟩

set_option maxHeartbeats 2000000 in
theorem Join_yes (w : World) (base p nb n : Nat) (g : Uf.G) (jv : Value) (js : List (Nat × Nat)) (h : Lies w base p nb n g jv js) (hg : Uf.Ok n g js.length) (i j : Nat) (hi : i < n) (hj : j < n) (hne : g.rt i ≠ g.rt j) (hb : base ≤ w.heap.size) :
    Calls Try.prog 29 #[.pointer (some ⟨p, 0, none⟩), .int .i64 i, .int .i64 j] w fun e w' => e = .returned (.bool true) ∧ ∃ jv', Lies w' base p nb n (Uf.hang g (Uf.pick g i j).1 (Uf.pick g i j).2) jv' (js ++ [((Uf.pick g i j).1, (g.N (Uf.pick g i j).2).lst)]) ∧
      Kept (Foot p nb jv) w w' ∧ (jv'.ownBlock = jv.ownBlock ∨ ∀ k, jv'.ownBlock = some k → w.heap.size ≤ k) := by
  have ha := inB_nat hi
  have hb' := inB_nat hj
  have hri := hg.rtlt i hi
  have hrj := hg.rtlt j hj
  have hjn := hg.num_le
  have hn := h.small
  have c0 := h.c0
  have c1 := h.c1
  have si := h.siz hri
  have sj := h.siz hrj
  have Ri := root_in w base p nb n g jv js h _ hg i hi
  have Rj := root_in w base p nb n g jv js h _ hg j hj
  have hsz := hg.sizes (g.rt i) (g.rt j) hri hrj hne (hg.rtrt i hi) (hg.rtrt j hj)
  have hp : Uf.pick g i j = if (g.N (g.rt j)).siz < (g.N (g.rt i)).siz then (g.rt j, g.rt i) else (g.rt i, g.rt j) := rfl
  rw [hp]
  clear hp hg
  generalize g.rt i = x at *
  generalize g.rt j = y at *
  have hne' : ((x : Int) == (y : Int)) = false := beq_eq_false_iff_ne.2 (by omega)
  obtain ⟨i0, hi0, hz0, hz1, hz2⟩ := info_parts infoJoin
  have f1 := h.sets.frozen 1
  obtain ⟨ja, jc, rfl⟩ := h.jform
  have plt := h.sets.lt
  have nlt := h.nodes.lt
  have A0 : ∀ m O, ((w.drewN m).alloc O).cell? ⟨p, 0, none⟩ = some (.slice (some ⟨nb, 0, none⟩) n n) := fun m O => (h.drewN.sets.alloc O).cell (by omega)
  have A1 : ∀ m O, ((w.drewN m).alloc O).cell? ⟨p, 1, none⟩ = some (.slice ja js.length jc) := fun m O => (h.drewN.sets.alloc O).cell (i := 1) (by omega)
  have OWN := fun m O => (h.drewN (m := m)).joins.alloc O
  by_cases hs : (g.N y).siz < (g.N x).siz
  · rw [if_pos hs]
    go_enter Try.func29, Try.ntmps29
    go_wp2_with fail
    refine (has_in _ _ _ _ _ _ _ _ h i).mono ?_
    rintro e w' ⟨rfl, rfl⟩
    rw [ha]
    go_wp2_with fail
    refine (has_in _ _ _ _ _ _ _ _ h j).mono ?_
    rintro e w' ⟨rfl, rfl⟩
    rw [hb']
    go_wp2_with fail
    refine Ri.mono ?_
    rintro e w' ⟨rfl, rfl⟩
    go_wp2_with fail
    refine Rj.mono ?_
    rintro e w' ⟨rfl, rfl⟩
    clear Ri Rj
    go_wp2_with fail
    go_quiet (fail)
    go_wp2_with fail
    have ll := h.lst hri
    have A2 : ∀ m O, ((w.drewN m).alloc O).cell? ⟨nb, x * 4 + 3, none⟩ = some (.int .i64 ((g.N x).lst : Int)) := fun m O => by rw [← nodeC_lst]; exact (h.drewN.nodes.alloc O).cell (by omega)
    have NEW := fun m => cell_two_news w m (.int .i64 (y : Int)) (.int .i64 ((g.N x).lst : Int)) 135
    clear si sj hs hne'
    go_region_law (refine step_append_here rfl (.tmp 51) (.tmp 62) 126 rfl base 135 i0 _ 2 16 Try.underlying126 hi0 hz0 hz1 hz2 rfl (by decide) _ js.length (joinC js) (by simp [Act.eval]; rfl) (by exact OWN _ _) ⟨w.heap.size, 0, none⟩ 1 1 [.int .i64 (y : Int), .int .i64 ((g.N x).lst : Int)] (by simp [Act.eval]) rfl (by exact NEW _) (by simp [Value.oneCell']) (by unfold maxLen; omega) (by omega) (by simp; omega) ?_; intro v' w1 hown1 hgrow hloc; obtain ⟨kp1, kf1, _, _⟩ := h.kept _ _ hgrow; obtain ⟨b1, cap1, hv1⟩ := ownsRow_succ hown1; subst hv1)
    all_goals
      obtain ⟨L1, L2, L3⟩ := joined_lies h _ _ y (g.N x).lst _ hown1 hgrow hloc
      clear hown1 hgrow hloc kp1 kf1 A0 A1 A2 OWN NEW ll c0 c1 f1
      go_wp2_with fail
      refine (hang_in _ base p nb n g _ _ L1 y x hrj hri (Ne.symm hne) (by omega)).mono ?_
      rintro e w2 ⟨rfl, H1, H2⟩
      clear L1
      go_wp2
      go_ret
      exact ⟨rfl, Join_fin L2 L3 H1 H2⟩
  · rw [if_neg hs]
    go_enter Try.func29, Try.ntmps29
    go_wp2_with fail
    refine (has_in _ _ _ _ _ _ _ _ h i).mono ?_
    rintro e w' ⟨rfl, rfl⟩
    rw [ha]
    go_wp2_with fail
    refine (has_in _ _ _ _ _ _ _ _ h j).mono ?_
    rintro e w' ⟨rfl, rfl⟩
    rw [hb']
    go_wp2_with fail
    refine Ri.mono ?_
    rintro e w' ⟨rfl, rfl⟩
    go_wp2_with fail
    refine Rj.mono ?_
    rintro e w' ⟨rfl, rfl⟩
    clear Ri Rj
    go_wp2_with fail
    go_quiet (fail)
    go_wp2_with fail
    have ll := h.lst hrj
    have A2 : ∀ m O, ((w.drewN m).alloc O).cell? ⟨nb, y * 4 + 3, none⟩ = some (.int .i64 ((g.N y).lst : Int)) := fun m O => by rw [← nodeC_lst]; exact (h.drewN.nodes.alloc O).cell (by omega)
    have NEW := fun m => cell_two_news w m (.int .i64 (x : Int)) (.int .i64 ((g.N y).lst : Int)) 135
    clear si sj hs hne'
    go_region_law (refine step_append_here rfl (.tmp 51) (.tmp 62) 126 rfl base 135 i0 _ 2 16 Try.underlying126 hi0 hz0 hz1 hz2 rfl (by decide) _ js.length (joinC js) (by simp [Act.eval]; rfl) (by exact OWN _ _) ⟨w.heap.size, 0, none⟩ 1 1 [.int .i64 (x : Int), .int .i64 ((g.N y).lst : Int)] (by simp [Act.eval]) rfl (by exact NEW _) (by simp [Value.oneCell']) (by unfold maxLen; omega) (by omega) (by simp; omega) ?_; intro v' w1 hown1 hgrow hloc; obtain ⟨kp1, kf1, _, _⟩ := h.kept _ _ hgrow; obtain ⟨b1, cap1, hv1⟩ := ownsRow_succ hown1; subst hv1)
    all_goals
      obtain ⟨L1, L2, L3⟩ := joined_lies h _ _ x (g.N y).lst _ hown1 hgrow hloc
      clear hown1 hgrow hloc kp1 kf1 A0 A1 A2 OWN NEW ll c0 c1 f1
      go_wp2_with fail
      refine (hang_in _ base p nb n g _ _ L1 x y hri hrj hne (by omega)).mono ?_
      rintro e w2 ⟨rfl, H1, H2⟩
      clear L1
      go_wp2
      go_ret
      exact ⟨rfl, Join_fin L2 L3 H1 H2⟩

end Go.Proofs.Ytinphcnknionmaa

namespace Go.Proofs.Ytinphcnknionmaa
open Go.RowKit Go.Maps

theorem nix_snoc (l : List Tm) (t u : Tm) : nix (l ++ [t]) u = match nix l u with
    | some i => some i
    | none => if t = u then some l.length else none := by
  unfold nix
  rw [List.findIdx?_append]
  cases h : List.findIdx? (fun x => decide (x = u)) l with
  | some i => rfl
  | none => by_cases e : t = u <;> simp [List.findIdx?_cons, e]

theorem fst_snoc (l : List Tm) (t : Tm) (n : ByteArray) : fst (l ++ [t]) n = match fst l n with
    | some i => some i
    | none => if t.name = n then some l.length else none := by
  unfold fst
  rw [List.findIdx?_append]
  cases h : List.findIdx? (fun x => decide (x.name = n)) l with
  | some i => rfl
  | none => by_cases e : t.name = n <;> simp [List.findIdx?_cons, e]

theorem fst_mem {l : List Tm} {t : Tm} (h : t ∈ l) : ∃ i, fst l t.name = some i := by
  cases hf : fst l t.name with
  | some i => exact ⟨i, rfl⟩
  | none =>
    have := List.findIdx?_eq_none_iff.1 hf t h
    simp at this
theorem isF_snoc (l : List Tm) (t : Tm) {i : Nat} (hi : i < l.length) : isF (l ++ [t]) i = isF l i := by
  unfold isF
  rw [List.getElem?_append_left hi, List.getElem?_eq_getElem hi]
  obtain ⟨k, hk⟩ := fst_mem (List.getElem_mem hi)
  simp only [fst_snoc, hk]
theorem isF_last (l : List Tm) (t : Tm) : isF (l ++ [t]) l.length = (fst l t.name).isNone := by
  unfold isF
  rw [List.getElem?_append_right (Nat.le_refl _)]
  simp only [Nat.sub_self, List.getElem?_cons_zero, fst_snoc]
  cases hf : fst l t.name with
  | none => simp
  | some i =>
    have hlt : i < l.length := (List.findIdx?_eq_some_iff_getElem.1 hf).1
    simp
    omega
theorem cntF_snoc (l : List Tm) (t : Tm) : cntF (l ++ [t]) = cntF l + (if (fst l t.name).isNone then 1 else 0) := by
  unfold cntF
  rw [List.length_append, List.length_singleton, List.range_succ, List.filter_append, List.length_append]
  have e : (List.range l.length).filter (isF (l ++ [t])) = (List.range l.length).filter (isF l) := List.filter_congr (fun i hi => isF_snoc l t (List.mem_range.1 hi))
  rw [e]
  simp only [List.filter_cons, isF_last, List.filter_nil]
  split <;> simp

theorem nix_none {l : List Tm} {t : Tm} (h : nix l t = none) : t ∉ l := by
  intro hm
  have := List.findIdx?_eq_none_iff.1 h t hm
  simp at this

theorem ekey_lit {t : Tm} (ht : t.ok) : ∃ k, ekey t = k ∧ WideAt.IsKeyLit k := by
  have h := ekey_of ht
  generalize ekey t = k at h
  exact ⟨k, rfl, tLaw.key h⟩
theorem skey_lit {n : ByteArray} (h : n.size ≤ 6) : WideAt.IsKeyLit (skey n) := by
  have h := skey_of h
  generalize skey n = k at h
  exact sLaw.key h

theorem nums_snoc {D : DataW Unit} {l : List Tm} {t : Tm} (h : ∀ u : Tm, u.ok → Says D (ekey u) (nix l u)) (hD : IsMap D) (ht : t.ok) (hn : nix l t = none) :
    ∀ u : Tm, u.ok → Says (D.put (ekey t) (.lit (.int .i64 (l.length : Int)))) (ekey u) (nix (l ++ [t]) u) := by
  intro u hu
  by_cases e : t = u
  · subst e
    rw [nix_snoc, hn]
    simp only [if_true]
    obtain ⟨kk, e, hk⟩ := ekey_lit ht
    rw [e]
    exact Says.put_same hD hk l.length
  · have e1 : nix (l ++ [t]) u = nix l u := by
      rw [nix_snoc]
      cases nix l u <;> simp [e]
    rw [e1]
    exact (h u hu).put_other (fun x => e (ekey_inj hu ht x).symm) _

theorem fsts_snoc {D : DataW Unit} {l : List Tm} {t : Tm} (h : ∀ n : ByteArray, n.size ≤ 6 → Says D (skey n) (fst l n)) (hD : IsMap D) (ht : t.ok) (hn : fst l t.name = none) :
    ∀ n : ByteArray, n.size ≤ 6 → Says (D.put (skey t.name) (.lit (.int .i64 (l.length : Int)))) (skey n) (fst (l ++ [t]) n) := by
  intro n hz
  by_cases e : t.name = n
  · subst e
    rw [fst_snoc, hn]
    simp only [if_true]
    exact Says.put_same hD (skey_lit ht.name) l.length
  · have e1 : fst (l ++ [t]) n = fst l n := by
      rw [fst_snoc]
      cases fst l n <;> simp [e]
    rw [e1]
    exact (h n hz).put_other (fun x => e (skey_inj x).symm) _

theorem fsts_kept {D : DataW Unit} {l : List Tm} {t : Tm} (h : ∀ n : ByteArray, n.size ≤ 6 → Says D (skey n) (fst l n)) {i : Nat} (hn : fst l t.name = some i) :
    ∀ n : ByteArray, n.size ≤ 6 → Says D (skey n) (fst (l ++ [t]) n) := by
  intro n hz
  have e1 : fst (l ++ [t]) n = fst l n := by
    rw [fst_snoc]
    cases hf : fst l n with
    | some i => rfl
    | none =>
      have : ¬ t.name = n := fun e => by rw [e] at hn; rw [hn] at hf; cases hf
      simp [this]
  rw [e1]
  exact h n hz

/-- What add makes of a bank; the number that it answers. -/
def addL (l : List Tm) (t : Tm) : List Tm := match nix l t with
  | some _ => l
  | none => l ++ [t]
def addN (l : List Tm) (t : Tm) : Nat := (nix l t).getD l.length

def BFoot (p : Nat) (ev : Value) (nb fb k : Nat) : Prop := k = p ∨ k = nb ∨ k = fb ∨ ev.ownBlock = some k

set_option maxHeartbeats 400000 in
theorem add_old (w : World) (base p : Nat) (ev : Value) (nb fb : Nat) (l : List Tm) (h : Bk w base p ev nb fb l) (t : Tm) (ht : t.ok) (i : Nat) (hi : nix l t = some i) :
    Calls Try.prog 144 #[.pointer (some ⟨p, 0, none⟩), entryV t] w fun e w' => e = .returned (.int .i64 (i : Int)) ∧ Bk w' base p ev nb fb l ∧ Kept0 w w' := by
  unfold entryV entryL
  have W1 := boxed w t
  unfold entryL at W1
  have b0 := W1 0 _ rfl
  have b1 := W1 1 _ rfl
  have b2 := W1 2 _ rfl
  have b3 := W1 3 _ rfl
  have b4 := W1 4 _ rfl
  have b5 := W1 5 _ rfl
  clear W1
  go_enter Try.func144, Try.ntmps144
  go_wp2_with fail
  generalize hw1 : w.alloc (Obj.cells #[.string t.name, .int .i64 (t.args.length : Int), .int .i64 (t.arg 0 : Int), .int .i64 (t.arg 1 : Int), .int .i64 (t.arg 2 : Int), .int .i64 (t.arg 3 : Int)] 124) = w1 at b0 b1 b2 b3 b4 b5 ⊢
  have K1 : Kept0 w w1 := hw1 ▸ Kept.alloc (Kept.refl _ w) _
  have H1 := h.kept0 K1
  have c0 := H1.c0
  have c1 := H1.c1
  have LN := fun m => (H1.drewN m).lookN ht
  rw [hi] at LN
  simp only [Option.getD_some, Option.isSome_some, entryV, entryL] at LN
  go_quiet (fail)
  go_wp2_with fail
  go_ret
  exact ⟨rfl, H1.drewN _, Kept.drewN K1 _⟩

end Go.Proofs.Ytinphcnknionmaa

namespace Go.Proofs.Ytinphcnknionmaa
open Go.RowKit

set_option maxHeartbeats 400000 in
theorem New_no (w : World) (n : Int) (h : n < 0 ∨ 100000 < n) :
    Calls Try.prog 24 #[.int .i64 n] w fun e w' => e = .returned (.pointer none) ∧ w = w' := by
  rcases h with h | h
  · go_enter Try.func24, Try.ntmps24
    go_wp2
    go_ret
    exact ⟨rfl, rfl⟩
  · have h' : ¬ n < 0 := by omega
    go_enter Try.func24, Try.ntmps24
    go_wp2
    go_ret
    exact ⟨rfl, rfl⟩

theorem infoNode : (Try.prog.info? 130).map (fun i => (i.zero, i.size, i.bytes)) = some (some (.agg #[.int .i64 0, .int .i64 0, .int .i64 0, .int .i64 0]), 4, 32) := by kernel_rfl

theorem made_row (w : World) (C : Array Value) (t : TypeId) : (w.alloc (.cells C t)).rowIs w.heap.size t C.size (fun i => C[i]?.getD undef) :=
  World.rowIs_alloc w C t _ (fun i hi => by rw [Array.getElem?_eq_getElem hi]; rfl)

theorem box_row (w : World) (x y : Value) (t : TypeId) : (w.alloc (.cells #[x, y] t)).rowIs w.heap.size t 2 (fun j => if j = 0 then x else y) :=
  (made_row w #[x, y] t).congr fun i hi => match i, hi with
    | 0, _ => rfl
    | 1, _ => rfl

theorem new_cells (k : Nat) (f : Nat → Value) (hf : ∀ j, j < k * 4 → f j = nodeC Uf.g0 j) : ∀ j, j < (k + 1) * 4 →
    (if j = k * 4 + 3 then Value.int .i64 (k : Int) else if j = k * 4 + 2 then .int .i64 1 else if j = k * 4 + 1 then .int .i64 (k : Int) else if j = k * 4 then .int .i64 (k : Int) else f j) = nodeC Uf.g0 j := by
  intro j hj
  by_cases h3 : j = k * 4 + 3
  · rw [if_pos h3, h3, nodeC_lst]; rfl
  · by_cases h2 : j = k * 4 + 2
    · rw [if_neg h3, if_pos h2, h2, nodeC_siz]; rfl
    · by_cases h1 : j = k * 4 + 1
      · rw [if_neg h3, if_neg h2, if_pos h1, h1, nodeC_nxt]; rfl
      · by_cases h0 : j = k * 4
        · rw [if_neg h3, if_neg h2, if_neg h1, if_pos h0, h0, nodeC_par]; rfl
        · rw [if_neg h3, if_neg h2, if_neg h1, if_neg h0]; exact hf j (by omega)

set_option maxHeartbeats 400000 in
theorem New_in (w : World) (n : Nat) (hn : n ≤ 100000) :
    Calls Try.prog 24 #[.int .i64 n] w fun e w' => e = .returned (.pointer (some ⟨w.heap.size + 1, 0, none⟩)) ∧ Lies w' w.heap.size (w.heap.size + 1) w.heap.size n Uf.g0 (.slice none 0 0) [] ∧ Below w.heap.size w w' := by
  obtain ⟨i0, hi0, hz0, hz1, hz2⟩ := info_parts infoNode
  obtain ⟨C, hC, hm1⟩ : ∃ C : Array Value, C.size = n * 4 ∧ (Instr.makeSlice 125 (.int .i64 (n : Int)) (.int .i64 (n : Int))).run Try.prog w = .ok (.slice (some ⟨w.heap.size, 0, none⟩) n n) (w.alloc (.cells C 130)) := by
    have hmk := run_make (P := Try.prog) w 125 130 i0 _ Try.underlying125 hi0 hz0 .i64 .i64 (n : Int) (n : Int) (by omega) (Int.le_refl _) (by rw [hz2]; omega) (by omega)
    simp only [Int.toNat_natCast] at hmk
    exact ⟨_, by rw [size_madeCells, hz1], hmk⟩
  clear hi0 hz0 hz1 hz2 
  have h0 : ¬ (n : Int) < 0 := by omega
  have h1 : ¬ (100000 : Int) < (n : Int) := by omega
  have HC : Hid (C.size = n * 4) := hC
  clear hC
  go_enter Try.func24, Try.ntmps24
  go_wp2
  clear hm1 h0 h1
  go_loopw [20] (fun t wr => ∃ k : Nat, k ≤ n ∧ t = .int .i64 k ∧ (∃ f, wr.rowIs w.heap.size 130 (n * 4) f ∧ Hid (∀ j, j < k * 4 → f j = nodeC Uf.g0 j)) ∧ wr.rowIs (w.heap.size + 1) 128 2 (setsC w.heap.size n (.slice none 0 0)) ∧ Hid (Below w.heap.size w wr)) (fun t _ => n - (intOf t).toNat)
  case atStart =>
    refine ⟨0, Nat.zero_le _, rfl, ⟨(fun i => C[i]?.getD undef), ?_, (fun j hj => absurd hj (by omega))⟩, ?_, ?_⟩
    · have := made_row w C 130
      rw [HC.out] at this
      exact this.alloc _
    · have := made_row (w.alloc (.cells C 130)) #[.slice (some ⟨w.heap.size, 0, none⟩) n n, .slice none 0 0] 128
      rw [World.size_alloc] at this
      refine this.congr ?_
      intro i hi
      match i, hi with
      | 0, _ => rfl
      | 1, _ => rfl
    · exact ((Below.refl _ _).alloc (Nat.le_refl _) _).alloc (by simp) _
  case round =>
    obtain ⟨k, hk, rfl, ⟨f, hf, hfk⟩, hs, hB⟩ := hrel
    have c0 : wr.cell? ⟨w.heap.size + 1, 0, none⟩ = some (.slice (some ⟨w.heap.size, 0, none⟩) n n) := hs.cell (by omega)
    have hHf : Hid (wr.rowIs w.heap.size 130 (n * 4) f) := hf
    by_cases hlt : k < n
    · have x0 : wr.cell? ⟨w.heap.size, k * 4, none⟩ = some (f (k * 4)) := hf.cell (by omega)
      have x1 : wr.cell? ⟨w.heap.size, k * 4 + 1, none⟩ = some (f (k * 4 + 1)) := hf.cell (by omega)
      have x2 : wr.cell? ⟨w.heap.size, k * 4 + 2, none⟩ = some (f (k * 4 + 2)) := hf.cell (by omega)
      have x3 : wr.cell? ⟨w.heap.size, k * 4 + 3, none⟩ = some (f (k * 4 + 3)) := hf.cell (by omega)
      have y0 := hf.frozen (k * 4)
      have y1 := hf.frozen (k * 4 + 1)
      have y2 := hf.frozen (k * 4 + 2)
      have y3 := hf.frozen (k * 4 + 3)
      have Hs : Hid (wr.rowIs (w.heap.size + 1) 128 2 (setsC w.heap.size n (.slice none 0 0))) := hs
      clear hf hs
      go_wp2
      go_roundw
      case rel =>
        exact ⟨k + 1, by omega, by go_num, ⟨_, (((hHf.out.set _ _).set _ _).set _ _).set _ _, new_cells k f hfk.out⟩, (((Hs.out.setOther (by show _ ≠ w.heap.size; omega) _).setOther (by show _ ≠ w.heap.size; omega) _).setOther (by show _ ≠ w.heap.size; omega) _).setOther (by show _ ≠ w.heap.size; omega) _, (((hB.out.setCell (Nat.le_refl _) _).setCell (Nat.le_refl _) _).setCell (Nat.le_refl _) _).setCell (Nat.le_refl _) _⟩
      case measure => simp [intOf]; omega
    · clear hf
      go_wp2
      go_ret
      obtain rfl : k = n := by omega
      exact ⟨rfl, ⟨hs, hHf.out.congr hfk.out, World.ownsRow_nil _ _ _ _, by omega, by simp [Value.ownBlock], by simp [Value.ownBlock], by omega, Nat.le_refl _, hn⟩, hB.out⟩

theorem Lies.alloc {w : World} {base p nb n : Nat} {g : Uf.G} {jv : Value} {js : List (Nat × Nat)} (h : Lies w base p nb n g jv js) (O : Obj) : Lies (w.alloc O) base p nb n g jv js :=
  ⟨h.sets.alloc O, h.nodes.alloc O, h.joins.alloc O, h.ne, h.jp, h.jn, h.bp, h.bn, h.small⟩

/-- Nodes whose cells are just integers. -/
def intC (F : Nat → Int) (j : Nat) : Value := .int .i64 (F j)

def cutF (F : Nat → Int) (c r : Nat) (l : Int) (j : Nat) : Int :=
  if j = r * 4 + 3 then l else if j = r * 4 + 2 then wrap64 (F (r * 4 + 2) - F (c * 4 + 2)) else if j = r * 4 + 1 then F (c * 4 + 1) else if j = c * 4 + 1 then F (r * 4 + 1) else if j = c * 4 then (c : Int) else F j

set_option maxHeartbeats 1000000 in
theorem unhang_gen (w : World) (p nb n : Nat) (F : Nat → Int) (c0 : w.cell? ⟨p, 0, none⟩ = some (.slice (some ⟨nb, 0, none⟩) n n)) (hN : w.rowIs nb 130 (n * 4) (intC F)) (_hn : n ≤ 100000) (c r : Nat) (hc : c < n) (hr : r < n) (hne : c ≠ r) (hF : F (c * 4) = (r : Int)) (l : Int) :
    Calls Try.prog 82 #[.pointer (some ⟨p, 0, none⟩), .agg #[.int .i64 c, .int .i64 l]] w fun e w' => e = .returned (.tuple #[]) ∧ w'.rowIs nb 130 (n * 4) (intC (cutF F c r l)) ∧ Kept1 nb w w' := by
  have plt := World.block_lt_of_cell? _ _ c0
  simp only at plt
  have nlt := hN.lt
  have x0 : w.cell? ⟨nb, c * 4, none⟩ = some (.int .i64 (r : Int)) := by rw [← hF]; exact hN.cell (by omega)
  have x1 : w.cell? ⟨nb, c * 4 + 1, none⟩ = some (.int .i64 (F (c * 4 + 1))) := hN.cell (by omega)
  have y1 : w.cell? ⟨nb, r * 4 + 1, none⟩ = some (.int .i64 (F (r * 4 + 1))) := hN.cell (by omega)
  have fx0 := hN.frozen (c * 4)
  have fx1 := hN.frozen (c * 4 + 1)
  have fy1 := hN.frozen (r * 4 + 1)
  have e1 : ¬ (c * 4 = r * 4 + 1) := by omega
  have e2 : ¬ (c * 4 + 1 = r * 4 + 1) := by omega
  have e3 : ¬ (c = r) := hne
  have HF : Hid (F (c * 4) = (r : Int)) := hF
  have HN : Hid (w.rowIs nb 130 (n * 4) (intC F)) := hN
  clear hF hN
  obtain ⟨cx, hcx⟩ : ∃ z, F (c * 4 + 1) = z := ⟨_, rfl⟩
  obtain ⟨rx, hrx⟩ : ∃ z, F (r * 4 + 1) = z := ⟨_, rfl⟩
  rw [hcx] at x1
  rw [hrx] at y1
  have HX : Hid (F (c * 4 + 1) = cx ∧ F (r * 4 + 1) = rx) := ⟨hcx, hrx⟩
  clear hcx hrx
  go_enter Try.func82, Try.ntmps82
  go_wp2_with fail
  go_quiet (fail)
  generalize nq = nq1
  go_wp2_with fail
  go_quiet (fail)
  go_wp2_with fail
  go_region
  have h' := HN.out.alloc (.cells #[.int .i64 (c : Int), .int .i64 l] 135)
  have hbox := box_row w (.int .i64 (c : Int)) (.int .i64 l) 135
  have K0 : Kept1 nb w (w.alloc (.cells #[.int .i64 (c : Int), .int .i64 l] 135)) := (Kept.refl _ w).alloc _
  have hbn : w.heap.size ≠ nb := by omega
  generalize (w.alloc (.cells #[.int .i64 (c : Int), .int .i64 l] 135)) = w0 at *
  generalize hw1 : (((w0.drewN (nq1 + nq + 1)).setCell ⟨nb, c * 4, none⟩ (.int .i64 (c : Int))).setCell ⟨nb, c * 4 + 1, none⟩ (.int .i64 rx)).setCell ⟨nb, r * 4 + 1, none⟩ (.int .i64 cx) = w1
  have R1 : w1.rowIs nb 130 (n * 4) (fun j => if j = r * 4 + 1 then .int .i64 cx else if j = c * 4 + 1 then .int .i64 rx else if j = c * 4 then .int .i64 (c : Int) else intC F j) := by
    rw [← hw1]; exact ((World.rowIs.set (w := w0.drewN (nq1 + nq + 1)) h' _ _).set _ _).set _ _
  have K1 : Kept1 nb w w1 := by
    rw [← hw1]; exact Kept1.set (Kept1.set (Kept1.set (K0.drewN _) _ _) _ _) _ _
  have B1 : w1.rowIs w.heap.size 135 2 (fun j => if j = 0 then .int .i64 (c : Int) else .int .i64 l) := by
    rw [← hw1]; exact ((World.rowIs.setOther (w := w0.drewN (nq1 + nq + 1)) hbox hbn _).setOther hbn _).setOther hbn _
  obtain ⟨cs, hcs⟩ : ∃ z, F (c * 4 + 2) = z := ⟨_, rfl⟩
  obtain ⟨rs, hrs⟩ : ∃ z, F (r * 4 + 2) = z := ⟨_, rfl⟩
  have x2 : w1.cell? ⟨nb, c * 4 + 2, none⟩ = some (.int .i64 cs) := by
    rw [R1.cell (i := c * 4 + 2) (by omega), if_neg (by omega), if_neg (by omega), if_neg (by omega), intC, hcs]
  have y2 : w1.cell? ⟨nb, r * 4 + 2, none⟩ = some (.int .i64 rs) := by
    rw [R1.cell (i := r * 4 + 2) (by omega), if_neg (by omega), if_neg (by omega), if_neg (by omega), intC, hrs]
  have HS : Hid (F (c * 4 + 2) = cs ∧ F (r * 4 + 2) = rs) := ⟨hcs, hrs⟩
  have fy2 := R1.frozen (r * 4 + 2)
  clear x0 x1 y1 fx0 fx1 fy1 hw1 e1 e2 c0 hbox h' K0 hcs hrs HN
  go_wp2_with fail
  go_region
  generalize hw2 : (w1.setCell ⟨nb, r * 4 + 2, none⟩ (.int .i64 (wrap64 (rs - cs)))).drew = w2
  have R2 := (R1.set (r * 4 + 2) (.int .i64 (wrap64 (rs - cs)))).drew
  have K2 := (Kept1.set K1 (r * 4 + 2) (.int .i64 (wrap64 (rs - cs)))).drew
  have B2 := (B1.setOther (a := ⟨nb, r * 4 + 2, none⟩) hbn (.int .i64 (wrap64 (rs - cs)))).drew
  rw [hw2] at R2 K2 B2
  have bl : w2.cell? ⟨w.heap.size, 1, none⟩ = some (.int .i64 l) := B2.cell (i := 1) (by omega)
  have y3 : w2.cell? ⟨nb, r * 4 + 3, none⟩ = some (.int .i64 (F (r * 4 + 3))) := by
    rw [R2.cell (i := r * 4 + 3) (by omega), if_neg (by omega), if_neg (by omega), if_neg (by omega), if_neg (by omega)]; rfl
  have fy3 := R2.frozen (r * 4 + 3)
  clear x2 y2 fy2 hw2 K1 R1 B1 B2
  go_wp2
  have R3 := R2.set (r * 4 + 3) (.int .i64 l)
  have K3 := Kept1.set K2 (r * 4 + 3) (.int .i64 l)
  go_end0
  refine ⟨rfl, R3.congr fun j _ => ?_, K3⟩
  unfold intC cutF
  rw [HX.out.1, HX.out.2, HS.out.1, HS.out.2]
  repeat' split
  all_goals rfl

set_option maxHeartbeats 1000000 in
theorem unhang_self (w : World) (p nb n : Nat) (F : Nat → Int) (c0 : w.cell? ⟨p, 0, none⟩ = some (.slice (some ⟨nb, 0, none⟩) n n)) (hN : w.rowIs nb 130 (n * 4) (intC F)) (_hn : n ≤ 100000) (c : Nat) (hc : c < n) (hF : F (c * 4) = (c : Int)) (l : Int) :
    Calls Try.prog 82 #[.pointer (some ⟨p, 0, none⟩), .agg #[.int .i64 c, .int .i64 l]] w fun e w' => e = .returned (.tuple #[]) ∧ (∃ F' : Nat → Int, w'.rowIs nb 130 (n * 4) (intC F') ∧ ∀ i, F' (i * 4) = F (i * 4)) ∧ Kept1 nb w w' := by
  have plt := World.block_lt_of_cell? _ _ c0
  simp only at plt
  have nlt := hN.lt
  have x0 : w.cell? ⟨nb, c * 4, none⟩ = some (.int .i64 (c : Int)) := by rw [← hF]; exact hN.cell (by omega)
  have x1 : w.cell? ⟨nb, c * 4 + 1, none⟩ = some (.int .i64 (F (c * 4 + 1))) := hN.cell (by omega)
  have fx0 := hN.frozen (c * 4)
  have fx1 := hN.frozen (c * 4 + 1)
  have e1 : ¬ (c * 4 = c * 4 + 1) := by omega
  have HF : Hid (F (c * 4) = (c : Int)) := hF
  have HN : Hid (w.rowIs nb 130 (n * 4) (intC F)) := hN
  clear hF hN
  obtain ⟨cx, hcx⟩ : ∃ z, F (c * 4 + 1) = z := ⟨_, rfl⟩
  rw [hcx] at x1
  have HX : Hid (F (c * 4 + 1) = cx) := hcx
  clear hcx
  go_enter Try.func82, Try.ntmps82
  go_wp2_with fail
  go_quiet (fail)
  generalize nq = nq1
  go_wp2_with fail
  go_quiet (fail)
  go_wp2_with fail
  go_region
  have h' := HN.out.alloc (.cells #[.int .i64 (c : Int), .int .i64 l] 135)
  have hbox := box_row w (.int .i64 (c : Int)) (.int .i64 l) 135
  have K0 : Kept1 nb w (w.alloc (.cells #[.int .i64 (c : Int), .int .i64 l] 135)) := (Kept.refl _ w).alloc _
  have hbn : w.heap.size ≠ nb := by omega
  generalize (w.alloc (.cells #[.int .i64 (c : Int), .int .i64 l] 135)) = w0 at *
  generalize hw1 : (((w0.drewN (nq1 + nq + 1)).setCell ⟨nb, c * 4, none⟩ (.int .i64 (c : Int))).setCell ⟨nb, c * 4 + 1, none⟩ (.int .i64 cx)).setCell ⟨nb, c * 4 + 1, none⟩ (.int .i64 cx) = w1
  have R1 : w1.rowIs nb 130 (n * 4) (fun j => if j = c * 4 + 1 then .int .i64 cx else if j = c * 4 + 1 then .int .i64 cx else if j = c * 4 then .int .i64 (c : Int) else intC F j) := by
    rw [← hw1]; exact ((World.rowIs.set (w := w0.drewN (nq1 + nq + 1)) h' _ _).set _ _).set _ _
  have K1 : Kept1 nb w w1 := by
    rw [← hw1]; exact Kept1.set (Kept1.set (Kept1.set (K0.drewN _) _ _) _ _) _ _
  have B1 : w1.rowIs w.heap.size 135 2 (fun j => if j = 0 then .int .i64 (c : Int) else .int .i64 l) := by
    rw [← hw1]; exact ((World.rowIs.setOther (w := w0.drewN (nq1 + nq + 1)) hbox hbn _).setOther hbn _).setOther hbn _
  have x2 : w1.cell? ⟨nb, c * 4 + 2, none⟩ = some (.int .i64 (F (c * 4 + 2))) := by
    rw [R1.cell (i := c * 4 + 2) (by omega), if_neg (by omega), if_neg (by omega), if_neg (by omega), intC]
  have fy2 := R1.frozen (c * 4 + 2)
  clear x0 x1 fx0 fx1 hw1 e1 c0 hbox h' K0 HN
  go_wp2_with fail
  go_region
  generalize hw2 : (w1.setCell ⟨nb, c * 4 + 2, none⟩ (.int .i64 0)).drew = w2
  have R2 := (R1.set (c * 4 + 2) (.int .i64 0)).drew
  have K2 := (Kept1.set K1 (c * 4 + 2) (.int .i64 0)).drew
  have B2 := (B1.setOther (a := ⟨nb, c * 4 + 2, none⟩) hbn (.int .i64 0)).drew
  rw [hw2] at R2 K2 B2
  have bl : w2.cell? ⟨w.heap.size, 1, none⟩ = some (.int .i64 l) := B2.cell (i := 1) (by omega)
  have y3 : w2.cell? ⟨nb, c * 4 + 3, none⟩ = some (.int .i64 (F (c * 4 + 3))) := by
    rw [R2.cell (i := c * 4 + 3) (by omega), if_neg (by omega), if_neg (by omega), if_neg (by omega), if_neg (by omega)]; rfl
  have fy3 := R2.frozen (c * 4 + 3)
  clear x2 fy2 hw2 K1 R1 B1 B2
  go_wp2
  have R3 := R2.set (c * 4 + 3) (.int .i64 l)
  have K3 := Kept1.set K2 (c * 4 + 3) (.int .i64 l)
  go_end0
  refine ⟨rfl, ⟨fun j => if j = c * 4 + 3 then l else if j = c * 4 + 2 then 0 else if j = c * 4 + 1 then cx else if j = c * 4 + 1 then cx else if j = c * 4 then (c : Int) else F j, R3.congr fun j _ => ?_, fun i => ?_⟩, K3⟩
  · unfold intC
    dsimp only
    repeat' split
    all_goals rfl
  · dsimp only
    by_cases e : i = c
    · subst e; simp only [if_neg (show ¬ i * 4 = i * 4 + 3 by omega), if_neg (show ¬ i * 4 = i * 4 + 2 by omega), if_neg (show ¬ i * 4 = i * 4 + 1 by omega), if_true]; exact HF.out.symm
    · rw [if_neg (by omega), if_neg (by omega), if_neg (by omega), if_neg (by omega), if_neg (by omega)]

theorem unhang_cells (g : Uf.G) (c r : Nat) (hne : c ≠ r) (hc : (g.N c).par = c) (j : Nat) :
    (if j = r * 4 + 3 then .int .i64 ((g.N r).lst : Int) else if j = r * 4 + 2 then .int .i64 ((g.N r).siz : Int) else if j = r * 4 + 1 then .int .i64 ((g.N r).nxt : Int) else if j = c * 4 + 1 then .int .i64 ((g.N c).nxt : Int) else if j = c * 4 then .int .i64 (c : Int) else nodeC (Uf.hang g c r) j) = nodeC g j := by
  rw [← hang_cells g c r hne j]
  by_cases h1 : j = r * 4 + 3
  · rw [if_pos h1, h1, nodeC_lst]
  · by_cases h2 : j = r * 4 + 2
    · rw [if_neg h1, if_pos h2, h2, nodeC_siz]
    · by_cases h3 : j = r * 4 + 1
      · rw [if_neg h1, if_neg h2, if_pos h3, h3, nodeC_nxt]
      · by_cases h4 : j = c * 4 + 1
        · rw [if_neg h1, if_neg h2, if_neg h3, if_pos h4, h4, nodeC_nxt]
        · by_cases h5 : j = c * 4
          · rw [if_neg h1, if_neg h2, if_neg h3, if_neg h4, if_pos h5, h5, nodeC_par, hc]
          · rw [if_neg h1, if_neg h2, if_neg h3, if_neg h4, if_neg h5, if_neg h1, if_neg h2, if_neg h3, if_neg h4, if_neg h5]

theorem wrap64_small (a : Int) (h0 : -1000000 ≤ a) (h1 : a ≤ 1000000) : wrap64 a = a := by unfold wrap64; omega

/-- What a take-back makes of the nodes, whatever they are; and of a join's. -/
structure Cut (n : Nat) (F F' : Nat → Int) (c : Nat) (l : Int) : Prop where
  par : ∀ i, i < n → ∃ q : Nat, q < n ∧ F' (i * 4) = (q : Int)
  good : ∀ (g : Uf.G) (r : Nat), c ≠ r → r < n → (g.N c).par = c → l = ((g.N r).lst : Int) → (g.N r).siz + (g.N c).siz ≤ 100000 → (∀ j, j < n * 4 → intC F j = nodeC (Uf.hang g c r) j) → ∀ j, j < n * 4 → intC F' j = nodeC g j

theorem unhang_any (w : World) (p nb n : Nat) (F : Nat → Int) (c0 : w.cell? ⟨p, 0, none⟩ = some (.slice (some ⟨nb, 0, none⟩) n n)) (hN : w.rowIs nb 130 (n * 4) (intC F)) (hn : n ≤ 100000) (hpar : ∀ i, i < n → ∃ q : Nat, q < n ∧ F (i * 4) = (q : Int)) (c : Nat) (hc : c < n) (l : Int) :
    Calls Try.prog 82 #[.pointer (some ⟨p, 0, none⟩), .agg #[.int .i64 c, .int .i64 l]] w fun e w' => e = .returned (.tuple #[]) ∧ (∃ F', w'.rowIs nb 130 (n * 4) (intC F') ∧ Cut n F F' c l) ∧ Kept1 nb w w' := by
  obtain ⟨q, hq, hFq⟩ := hpar c hc
  by_cases e : c = q
  · subst e
    refine (unhang_self w p nb n F c0 hN hn c hc hFq l).mono ?_
    rintro e w' ⟨he, ⟨F', h1, h2⟩, hk⟩
    refine ⟨he, ⟨F', h1, ⟨fun i hi => by rw [h2]; exact hpar i hi, ?_⟩⟩, hk⟩
    intro g r hne hr hcc hl hsz hall
    have := hall (c * 4) (by omega)
    rw [nodeC_par] at this
    simp [intC, hFq, Uf.hang] at this
    omega
  · refine (unhang_gen w p nb n F c0 hN hn c q hc hq e hFq l).mono ?_
    rintro e' w' ⟨he, h1, hk⟩
    refine ⟨he, ⟨_, h1, ⟨?_, ?_⟩⟩, hk⟩
    · intro i hi
      by_cases ei : i = c
      · subst ei
        refine ⟨i, hi, ?_⟩
        unfold cutF
        rw [if_neg (by omega), if_neg (by omega), if_neg (by omega), if_neg (by omega), if_pos rfl]
      · unfold cutF
        rw [if_neg (by omega), if_neg (by omega), if_neg (by omega), if_neg (by omega), if_neg (by omega)]
        exact hpar i hi
    · intro g r hne hr hcc hl hsz hall j hj
      have e0 := hall (c * 4) (by omega)
      rw [nodeC_par] at e0
      simp [intC, hFq, Uf.hang] at e0
      obtain rfl : q = r := by omega
      have e1 := hall (c * 4 + 1) (by omega)
      rw [nodeC_nxt] at e1
      have e2 := hall (c * 4 + 2) (by omega)
      rw [nodeC_siz] at e2
      have f1 := hall (q * 4 + 1) (by omega)
      rw [nodeC_nxt] at f1
      have f2 := hall (q * 4 + 2) (by omega)
      rw [nodeC_siz] at f2
      simp [intC, Uf.hang] at e1 e2
      simp [intC, Uf.hang, Ne.symm hne] at f1 f2
      rw [← unhang_cells g c q hne hcc j, ← hall j hj]
      unfold intC cutF
      rw [e1, e2, f1, f2, hl, wrap64_small _ (by omega) (by omega)]
      rw [show ((g.N q).siz + (g.N c).siz : Int) - ((g.N c).siz : Int) = ((g.N q).siz : Int) from by omega]
      repeat' split
      all_goals rfl

end Go.Proofs.Ytinphcnknionmaa
