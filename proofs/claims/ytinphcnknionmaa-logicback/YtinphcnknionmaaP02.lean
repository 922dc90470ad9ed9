/- Package term: fits. internal/stringslite.Clone's contract at this program, by the kit's shelf; strings.Clone. Package find: Join. Package term: add. -/
import Derived.Test.YtinphcnknionmaaP01
import Derived.Shelf.LaysM
import Derived.Shelf.Strconv.Clone
import Derived.Test.YtinphcnknionmaaP00
import Derived.Deep.RegionLaw
import Derived.RangeFuncBox
namespace Go.Proofs.Ytinphcnknionmaa
open Go.RowKit Go.Maps

def fitsB (l : List Tm) (t : Tm) : Bool := match fst l t.name with
  | none => true
  | some i => match l[i]? with
    | none => true
    | some u => decide (u.args.length = t.args.length)

theorem fst_some {l : List Tm} {n : ByteArray} {i : Nat} (h : fst l n = some i) : ∃ u, l[i]? = some u ∧ u.name = n := by
  obtain ⟨hi, hp, _⟩ := List.findIdx?_eq_some_iff_getElem.1 h
  exact ⟨l[i], List.getElem?_eq_getElem hi, of_decide_eq_true hp⟩

/-- The box of an entry. -/
theorem boxed (w : World) (t : Tm) : ∀ j u, (entryL t)[j]? = some u → (w.alloc (.cells (entryL t).toArray 124)).cell? ⟨w.heap.size, j, none⟩ = some u := by
  intro j u hj
  rw [World.cell?_alloc_at _ _ _ _ rfl, List.getElem?_toArray]
  exact hj

set_option maxHeartbeats 400000 in
theorem fits_in (w : World) (base p : Nat) (ev : Value) (nb fb : Nat) (l : List Tm) (h : Bk w base p ev nb fb l) (t : Tm) (ht : t.ok) :
    Calls Try.prog 143 #[.pointer (some ⟨p, 0, none⟩), entryV t] w fun e w' => e = .returned (.bool (fitsB l t)) ∧ Bk w' base p ev nb fb l ∧ Kept0 w w' := by
  have c0 := h.c0
  have c2 := h.c2
  have b0 := boxed w t 0 _ rfl
  have b1 := boxed w t 1 _ rfl
  unfold entryV entryL
  unfold entryL at b0 b1
  go_enter Try.func143, Try.ntmps143
  go_wp2_with fail
  generalize hw1 : w.alloc (Obj.cells #[.string t.name, .int .i64 (t.args.length : Int), .int .i64 (t.arg 0 : Int), .int .i64 (t.arg 1 : Int), .int .i64 (t.arg 2 : Int), .int .i64 (t.arg 3 : Int)] 124) = w1 at b0 b1 ⊢
  have K1 : Kept0 w w1 := hw1 ▸ Kept.alloc (Kept.refl _ w) _
  have H1 := h.kept0 K1
  have c0 := H1.c0
  have c2 := H1.c2
  have LF := fun m => (H1.drewN m).lookF ht.name
  cases hf : fst l t.name with
  | none =>
    rw [hf] at LF
    simp only [Option.getD_none, Option.isSome_none] at LF
    have hB : fitsB l t = true := by simp [fitsB, hf]
    go_quiet (fail)
    go_wp2_with fail
    go_quiet (fail)
    go_wp2_with fail
    go_ret
    exact ⟨ret_bool hB.symm, (H1.drewN _).drewN _, (Kept.drewN K1 _).drewN _⟩
  | some i =>
    rw [hf] at LF
    simp only [Option.getD_some, Option.isSome_some] at LF
    obtain ⟨u, hu, hun⟩ := fst_some hf
    have hil : i < l.length := (List.getElem?_eq_some_iff.1 hu).1
    have hsm := h.small
    have hB : fitsB l t = decide (u.args.length = t.args.length) := by simp [fitsB, hf, hu]
    obtain ⟨g, cap, rfl, hg⟩ := H1.at hu
    have g1 := hg 1 _ rfl
    go_quiet (fail)
    go_wp2_with fail
    go_quiet (fail)
    go_wp2_with fail
    go_ret
    refine ⟨ret_bool ?_, (H1.drewN _).drewN _, (Kept.drewN K1 _).drewN _⟩
    rw [hB, Bool.eq_iff_iff]
    simp
    omega

end Go.Proofs.Ytinphcnknionmaa

namespace Go.Proofs
open Go.Shelf
def Try.laysM316_ren : Go.Shelf.Ren := ⟨fun | 316 => 180 | n => n, fun | 9 => 9 | 3 => 3 | 4 => 4 | 37 => 117 | 0 => 0 | 127 => 191 | 5 => 5 | n => n, fun | n => n⟩
theorem Try.laysM316 : Go.Proofs.LaysM.n316 Try.prog Try.laysM316_ren := {
  mixed := by kernel_rfl
  f316 := Try.func180.trans (congrArg some (by kernel_rfl))
  t0 := Try.underlying0
  a0 := Try.isAgg0
  z0 := Try.sizeOf0
  v0 := Try.zeroValue0
  t3 := Try.underlying3
  a3 := Try.isAgg3
  z3 := Try.sizeOf3
  v3 := Try.zeroValue3
  t4 := Try.underlying4
  a4 := Try.isAgg4
  z4 := Try.sizeOf4
  v4 := Try.zeroValue4
  t9 := Try.underlying9
  a9 := Try.isAgg9
  z9 := Try.sizeOf9
  v9 := Try.zeroValue9
  t37 := Try.underlying117
  a37 := Try.isAgg117
  z37 := Try.sizeOf117
  v37 := Try.zeroValue117
  t127 := Try.underlying191
  a127 := Try.isAgg191
  z127 := Try.sizeOf191
  v127 := Try.zeroValue191
  t5 := Try.underlying5
  a5 := Try.isAgg5
  z5 := Try.sizeOf5
  v5 := Try.zeroValue5
  i0 := by kernel_rfl
  i3 := by kernel_rfl
  i4 := by kernel_rfl
  i5 := by kernel_rfl
  i9 := by kernel_rfl
  i37 := by kernel_rfl
  i127 := by kernel_rfl }
end Go.Proofs
namespace Go.Proofs.Ytinphcnknionmaa
open Go.RowKit
theorem slClone_any (s : ByteArray) (w : World) (h : s.size ≤ 6) :
    Calls Try.prog 180 #[.string s] w fun e w' => e = .returned (.string s) ∧ Below w.heap.size w w' := Any.stringslite_Clone Try.laysM316 s w (by omega)

theorem Below.kept0 {w w' : World} (h : Below w.heap.size w w') : Kept (fun _ => False) w w' := ⟨h.os, h.tape, h.output, h.size, fun k hk _ => h.block k hk⟩

set_option maxHeartbeats 400000 in
theorem clone_any (s : ByteArray) (w : World) (h : s.size ≤ 6) :
    Calls Try.prog 164 #[.string s] w fun e w' => e = .returned (.string s) ∧ Kept (fun _ => False) w w' := by
  go_enter Try.func164, Try.ntmps164
  go_wp2_with (go_at_call 180; refine (slClone_any _ _ h).mono ?_; rintro e w2 ⟨rfl, hb⟩)
  go_ret
  exact ⟨rfl, Below.kept0 hb⟩

end Go.Proofs.Ytinphcnknionmaa

namespace Go.Proofs.Ytinphcnknionmaa
open Go.RowKit

/-- append onto a row of one's own: told besides: what comes lies where the row lay, or in a new block. -/
theorem run_append_here {P : Program} (w : World) (base : Nat) (t ty e : TypeId) (i : TypeInfo) (z : Value) (size bytes : Nat) (ht : P.underlying t = some (.slice e)) (hi : P.info? e = some i) (hz : i.zero = some z)
    (hsize : i.size = size) (hby : i.bytes = bytes) (hzs : z.cells.size = size) (hsz : 0 < size)
    (v : Value) (n : Nat) (xs : List Value) (hown : w.ownsRow base e size v n xs)
    (a : Addr) (m c : Nat) (news : List Value) (hl : news.length = m * size) (hnews : ∀ j u, news[j]? = some u → w.cell? (a.add j) = some u) (h1 : ∀ u ∈ news, u.oneCell' = true)
    (h63 : n + m ≤ maxLen) (hbytes : (n + m) * bytes ≤ 140737488355328) (hbase : base ≤ w.heap.size) :
    ∃ v' w', (Builtin.append_ #[t, t] ty #[v, .slice (some a) m c]).run P w = .ok v' w' ∧ w'.ownsRow base e size v' (n + m) (xs ++ news) ∧ w.grownBy w' v.ownBlock ∧
      (v'.ownBlock = v.ownBlock ∨ ∀ k, v'.ownBlock = some k → w.heap.size ≤ k) := by
  obtain ⟨v', w', hr, r1, r2, _⟩ := run_append_own (P := P) w base t ty e i z size bytes ht hi hz hsize hby hzs hsz v n xs hown a m c news hl hnews h1 h63 hbytes hbase
  refine ⟨v', w', hr, r1, r2, ?_⟩
  rcases hown.2 with ⟨rfl, rfl⟩ | ⟨g, cap, cur, rfl, hbg, hg, hnc, hcm, hcs, htake⟩
  · obtain rfl : xs = [] := List.eq_nil_of_length_eq_zero (by simpa using hown.1)
    obtain ⟨v2, w2, hr2, s1, _⟩ := run_append_own (P := P) w w.heap.size t ty e i z size bytes ht hi hz hsize hby hzs hsz (.slice none 0 0) 0 [] (World.ownsRow_nil w _ e size) a m c news hl hnews h1 h63 hbytes (Nat.le_refl _)
    rw [hr] at hr2
    cases hr2
    exact Or.inr fun k hk => (s1.lt k hk).1
  · by_cases hroom : n + m ≤ cap
    · subst hsize
      have hfit : n * i.size + news.length ≤ cur.size := by rw [hl, hcs, ← Nat.add_mul]; exact Nat.mul_le_mul_right _ hroom
      have hr2 := run_append_room (P := P) w t ty e i ht hi g n cap cur hg a m c news hl hnews h1 hroom hfit
      rw [hr] at hr2
      cases hr2
      exact Or.inl rfl
    · obtain ⟨v2, w2, hr2, s1, _⟩ := run_append_arg_grows (P := P) w t ty e i z size bytes ht hi hz hsize hby hzs hsz ⟨g, 0, none⟩ n cap xs hown.1 (hown.cells (g := g) rfl) a m c news hl hnews (by omega) h63 hbytes
      rw [hr] at hr2
      cases hr2
      exact Or.inr fun k hk => (s1.lt k hk).1

/-- .. as one step of a region that draws. -/
theorem step_append_here {P : Program} {ops : Array Oper} {o : Oper} {a : Act} {w : World} {K : Act → World → Prop} {Q : Exit → Act → World → Prop} {E : Prop}
    (hg : o.guard = none) (s x : Operand) (t : TypeId) (hop : o.op = Op.call { callee := Callee.builtin Builtin.append, args := #[s, x], argTypes := #[t, t] })
    (base : Nat) (e : TypeId) (i : TypeInfo) (z : Value) (size bytes : Nat) (h1 : P.underlying t = some (.slice e)) (h2 : P.info? e = some i) (h3 : i.zero = some z) (h4 : i.size = size) (h5 : i.bytes = bytes) (h6 : z.cells.size = size) (h7 : 0 < size)
    (v : Value) (n : Nat) (xs : List Value) (hs : a.eval s = v) (hown : w.ownsRow base e size v n xs)
    (ad : Addr) (m c : Nat) (news : List Value) (hx : a.eval x = .slice (some ad) m c) (hn : news.length = m * size) (hc : ∀ j u, news[j]? = some u → w.cell? (ad.add j) = some u) (h1c : ∀ u ∈ news, u.oneCell' = true)
    (b1 : n + m ≤ maxLen) (b2 : (n + m) * bytes ≤ 140737488355328) (hbase : base ≤ w.heap.size)
    (hK : ∀ v' w', w'.ownsRow base e size v' (n + m) (xs ++ news) → w.grownBy w' v.ownBlock → (v'.ownBlock = v.ownBlock ∨ ∀ k, v'.ownBlock = some k → w.heap.size ≤ k) → K (a.put o.dst v') w') :
    if Region.wanted o (yielded ops a.tmps) = true then Oper.wp P o a w K Q else E := by
  have hw : Region.wanted o (yielded ops a.tmps) = true := by simp [Region.wanted, hg]
  rw [if_pos hw]
  obtain ⟨v', w', hrun, r1, r2, r3⟩ := run_append_here (P := P) w base t o.type e i z size bytes h1 h2 h3 h4 h5 h6 h7 v n xs hown ad m c news hn hc h1c b1 b2 hbase
  unfold Oper.wp
  simp [execOp, hop, resolve, invoke, builtin, hs, hx, hrun, Result.andThen]
  exact hK v' w' r1 r2 r3

theorem cell_two_news (w : World) (m : Nat) (x y : Value) (t : TypeId) : ∀ j u, [x, y][j]? = some u → ((w.drewN m).alloc (.cells #[x, y] t)).cell? ((⟨w.heap.size, 0, none⟩ : Addr).add j) = some u := by
  intro j u hj
  have e : ∀ k, ((w.drewN m).alloc (.cells #[x, y] t)).cell? ⟨w.heap.size, k, none⟩ = #[x, y][k]? := fun k => World.cell?_alloc_at (w := w.drewN m) _ t _ k rfl
  match j, hj with
  | 0, hj => simp at hj; subst hj; rw [show (⟨w.heap.size, 0, none⟩ : Addr).add 0 = ⟨w.heap.size, 0, none⟩ from by simp [Addr.add], e]; rfl
  | 1, hj => simp at hj; subst hj; rw [show (⟨w.heap.size, 0, none⟩ : Addr).add 1 = ⟨w.heap.size, 1, none⟩ from by simp [Addr.add], e]; rfl
  | j + 2, hj => simp at hj

theorem infoJoin : (Try.prog.info? 135).map (fun i => (i.zero, i.size, i.bytes)) = some (some (.agg #[.int .i64 0, .int .i64 0]), 2, 16) := by kernel_rfl

set_option maxHeartbeats 1000000 in
theorem Join_no (w : World) (base p nb n : Nat) (g : Uf.G) (jv : Value) (js : List (Nat × Nat)) (h : Lies w base p nb n g jv js) (k : Nat) (hg : Uf.Ok n g k) (a b : Int) (hno : inB n a = false ∨ inB n b = false ∨ sameB n g a b = true) :
    Calls Try.prog 29 #[.pointer (some ⟨p, 0, none⟩), .int .i64 a, .int .i64 b] w fun e w' => e = .returned (.bool false) ∧ w = w' := by
  cases ha : inB n a
  · clear hno
    go_enter Try.func29, Try.ntmps29
    go_wp2_with fail
    refine (has_in _ _ _ _ _ _ _ _ h a).mono ?_
    rintro e w' ⟨rfl, rfl⟩
    rw [ha]
    go_wp2
    go_ret
    exact ⟨rfl, rfl⟩
  · cases hb : inB n b
    · clear hno
      go_enter Try.func29, Try.ntmps29
      go_wp2_with fail
      refine (has_in _ _ _ _ _ _ _ _ h a).mono ?_
      rintro e w' ⟨rfl, rfl⟩
      rw [ha]
      go_wp2_with fail
      refine (has_in _ _ _ _ _ _ _ _ h b).mono ?_
      rintro e w' ⟨rfl, rfl⟩
      rw [hb]
      go_wp2
      go_ret
      exact ⟨rfl, rfl⟩
    · have hs : sameB n g a b = true := by
        rcases hno with x | x | x
        · rw [ha] at x; cases x
        · rw [hb] at x; cases x
        · exact x
      obtain ⟨a1, a2⟩ := inB_true ha
      obtain ⟨b1, b2⟩ := inB_true hb
      obtain ⟨i, rfl⟩ := Int.eq_ofNat_of_zero_le a1
      obtain ⟨j, rfl⟩ := Int.eq_ofNat_of_zero_le b1
      have hi : i < n := by omega
      have hj : j < n := by omega
      have heq : g.rt i = g.rt j := by simpa [sameB, ha, hb] using hs
      have hr := root_in w base p nb n g jv js h k hg j hj
      rw [← heq] at hr
      clear hno hs heq
      go_enter Try.func29, Try.ntmps29
      go_wp2_with fail
      refine (has_in _ _ _ _ _ _ _ _ h i).mono ?_
      rintro e w' ⟨rfl, rfl⟩
      rw [ha]
      go_wp2_with fail
      refine (has_in _ _ _ _ _ _ _ _ h j).mono ?_
      rintro e w' ⟨rfl, rfl⟩
      rw [hb]
      go_wp2_with fail
      refine (root_in _ _ _ _ _ _ _ _ h _ hg i hi).mono ?_
      rintro e w' ⟨rfl, rfl⟩
      go_wp2_with fail
      refine hr.mono ?_
      rintro e w' ⟨rfl, rfl⟩
      go_wp2
      go_ret
      exact ⟨rfl, rfl⟩

theorem joinC_snoc (js : List (Nat × Nat)) (c l : Nat) : joinC (js ++ [(c, l)]) = joinC js ++ [.int .i64 (c : Int), .int .i64 (l : Int)] := by simp [joinC]

/-- A join is kept: all else as it was. -/
theorem Lies.kept {w w1 : World} {base p nb n : Nat} {g : Uf.G} {jv : Value} {js : List (Nat × Nat)} (h : Lies w base p nb n g jv js) (m : Nat) (O : Obj) (hgrow : ((w.drewN m).alloc O).grownBy w1 jv.ownBlock) :
    w1.cell? ⟨p, 1, none⟩ = some jv ∧ w1.frozen? ⟨p, 1, none⟩ = false ∧ w1.rowIs p 128 2 (setsC nb n jv) ∧ w1.rowIs nb 130 (n * 4) (nodeC g) := by
  have hp : w1.rowIs p 128 2 (setsC nb n jv) := (h.drewN.sets.alloc O).of_block (hgrow.block p (h.drewN.sets.alloc O).lt (fun e => h.jp e.symm))
  have hn : w1.rowIs nb 130 (n * 4) (nodeC g) := (h.drewN.nodes.alloc O).of_block (hgrow.block nb (h.drewN.nodes.alloc O).lt (fun e => h.jn e.symm))
  exact ⟨hp.cell (i := 1) (by omega), hp.frozen 1, hp, hn⟩

abbrev Foot (p nb : Nat) (jv : Value) (k : Nat) : Prop := k = p ∨ k = nb ∨ jv.ownBlock = some k

theorem rowIs_type {w : World} {b : Nat} {t e : TypeId} {n : Nat} {f : Nat → Value} (h : w.rowIs b t n f) (hne : t ≠ e) {base size k : Nat} {v : Value} {xs : List Value} (hr : w.ownsRow base e size v k xs) : v.ownBlock ≠ some b := by
  intro hb
  rcases hr.2 with ⟨rfl, _⟩ | ⟨g, cap, cur, rfl, _, hg, _⟩
  · simp [Value.ownBlock] at hb
  · simp [Value.ownBlock] at hb
    subst hb
    obtain ⟨c, hc, _⟩ := h
    rw [hc] at hg
    simp at hg
    exact hne hg.2

theorem joined_lies {w w1 : World} {base p nb n : Nat} {g : Uf.G} {jv : Value} {js : List (Nat × Nat)} (h : Lies w base p nb n g jv js) (m : Nat) (O : Obj) (c l : Nat) (v' : Value)
    (hown : w1.ownsRow base 135 2 v' (js.length + 1) (joinC js ++ [.int .i64 (c : Int), .int .i64 (l : Int)])) (hgrow : ((w.drewN m).alloc O).grownBy w1 jv.ownBlock)
    (hloc : v'.ownBlock = jv.ownBlock ∨ ∀ k, v'.ownBlock = some k → ((w.drewN m).alloc O).heap.size ≤ k) :
    Lies (w1.setCell ⟨p, 1, none⟩ v') base p nb n g v' (js ++ [(c, l)]) ∧ Kept (Foot p nb jv) w (w1.setCell ⟨p, 1, none⟩ v') ∧ (v'.ownBlock = jv.ownBlock ∨ ∀ k, v'.ownBlock = some k → w.heap.size ≤ k) := by
  obtain ⟨_, _, hp, hn⟩ := h.kept m O hgrow
  have np := rowIs_type hp (by decide) hown
  have nn := rowIs_type hn (by decide) hown
  refine ⟨⟨(hp.set 1 v').congr ?_, hn.setOther (Ne.symm h.ne) _, ?_, h.ne, np, nn, h.bp, h.bn, h.small⟩, ?_, ?_⟩
  · intro i hi
    unfold setsC
    by_cases e : i = 0
    · simp [e]
    · rw [if_pos (by omega), if_neg e]
  · rw [joinC_snoc, List.length_append]
    exact ownsRow_setCell_other hown np _
  · exact Kept.setCell (S := Foot p nb jv) (p := ⟨p, 1, none⟩) (Kept.grown (((Kept.refl (Foot p nb jv) w).drewN m).alloc O) hgrow (fun k hk => Or.inr (Or.inr hk))) (Or.inl rfl) _
  · rcases hloc with e | e
    · exact Or.inl e
    · exact Or.inr fun k hk => by have := e k hk; simp at this; omega

/-- What the two ways of Join have in common at their end. -/
theorem Join_fin {w w1 w2 : World} {base p nb n : Nat} {g : Uf.G} {jv v' : Value} {js : List (Nat × Nat)} {c r : Nat} (hL : Kept (Foot p nb jv) w w1) (hloc : v'.ownBlock = jv.ownBlock ∨ ∀ k, v'.ownBlock = some k → w.heap.size ≤ k)
    (hn : Lies w2 base p nb n (Uf.hang g c r) v' (js ++ [(c, (g.N r).lst)])) (hk : Kept1 nb w1 w2) :
    ∃ jv', Lies w2 base p nb n (Uf.hang g c r) jv' (js ++ [(c, (g.N r).lst)]) ∧ Kept (Foot p nb jv) w w2 ∧ (jv'.ownBlock = jv.ownBlock ∨ ∀ k, jv'.ownBlock = some k → w.heap.size ≤ k) :=
  ⟨v', hn, hL.trans (hk.mono fun _ _ hk => Or.inr (Or.inl hk)), hloc⟩

set_option maxHeartbeats 2000000 in
theorem Join_yes (w : World) (base p nb n : Nat) (g : Uf.G) (jv : Value) (js : List (Nat × Nat)) (h : Lies w base p nb n g jv js) (hg : Uf.Ok n g js.length) (i j : Nat) (hi : i < n) (hj : j < n) (hne : g.rt i ≠ g.rt j) (hb : base ≤ w.heap.size) :
    Calls Try.prog 29 #[.pointer (some ⟨p, 0, none⟩), .int .i64 i, .int .i64 j] w fun e w' => e = .returned (.bool true) ∧ ∃ jv', Lies w' base p nb n (Uf.hang g (Uf.pick g i j).1 (Uf.pick g i j).2) jv' (js ++ [((Uf.pick g i j).1, (g.N (Uf.pick g i j).2).lst)]) ∧
      Kept (Foot p nb jv) w w' ∧ (jv'.ownBlock = jv.ownBlock ∨ ∀ k, jv'.ownBlock = some k → w.heap.size ≤ k) := by
  have ha := inB_nat hi
  have hb' := inB_nat hj
  have hri := hg.rtlt i hi
  have hrj := hg.rtlt j hj
  have hjn := hg.num_le
  have hn := h.small
  have c0 := h.c0
  have c1 := h.c1
  have si := h.siz hri
  have sj := h.siz hrj
  have Ri := root_in w base p nb n g jv js h _ hg i hi
  have Rj := root_in w base p nb n g jv js h _ hg j hj
  have hsz := hg.sizes (g.rt i) (g.rt j) hri hrj hne (hg.rtrt i hi) (hg.rtrt j hj)
  have hp : Uf.pick g i j = if (g.N (g.rt j)).siz < (g.N (g.rt i)).siz then (g.rt j, g.rt i) else (g.rt i, g.rt j) := rfl
  rw [hp]
  clear hp hg
  generalize g.rt i = x at *
  generalize g.rt j = y at *
  have hne' : ((x : Int) == (y : Int)) = false := beq_eq_false_iff_ne.2 (by omega)
  obtain ⟨i0, hi0, hz0, hz1, hz2⟩ := info_parts infoJoin
  have f1 := h.sets.frozen 1
  obtain ⟨ja, jc, rfl⟩ := h.jform
  have plt := h.sets.lt
  have nlt := h.nodes.lt
  have A0 : ∀ m O, ((w.drewN m).alloc O).cell? ⟨p, 0, none⟩ = some (.slice (some ⟨nb, 0, none⟩) n n) := fun m O => (h.drewN.sets.alloc O).cell (by omega)
  have A1 : ∀ m O, ((w.drewN m).alloc O).cell? ⟨p, 1, none⟩ = some (.slice ja js.length jc) := fun m O => (h.drewN.sets.alloc O).cell (i := 1) (by omega)
  have OWN := fun m O => (h.drewN (m := m)).joins.alloc O
  by_cases hs : (g.N y).siz < (g.N x).siz
  · rw [if_pos hs]
    go_enter Try.func29, Try.ntmps29
    go_wp2_with fail
    refine (has_in _ _ _ _ _ _ _ _ h i).mono ?_
    rintro e w' ⟨rfl, rfl⟩
    rw [ha]
    go_wp2_with fail
    refine (has_in _ _ _ _ _ _ _ _ h j).mono ?_
    rintro e w' ⟨rfl, rfl⟩
    rw [hb']
    go_wp2_with fail
    refine Ri.mono ?_
    rintro e w' ⟨rfl, rfl⟩
    go_wp2_with fail
    refine Rj.mono ?_
    rintro e w' ⟨rfl, rfl⟩
    clear Ri Rj
    go_wp2_with fail
    go_quiet (fail)
    go_wp2_with fail
    have ll := h.lst hri
    have A2 : ∀ m O, ((w.drewN m).alloc O).cell? ⟨nb, x * 4 + 3, none⟩ = some (.int .i64 ((g.N x).lst : Int)) := fun m O => by rw [← nodeC_lst]; exact (h.drewN.nodes.alloc O).cell (by omega)
    have NEW := fun m => cell_two_news w m (.int .i64 (y : Int)) (.int .i64 ((g.N x).lst : Int)) 135
    clear si sj hs hne'
    go_region_law (refine step_append_here rfl (.tmp 51) (.tmp 62) 126 rfl base 135 i0 _ 2 16 Try.underlying126 hi0 hz0 hz1 hz2 rfl (by decide) _ js.length (joinC js) (by simp [Act.eval]; rfl) (by exact OWN _ _) ⟨w.heap.size, 0, none⟩ 1 1 [.int .i64 (y : Int), .int .i64 ((g.N x).lst : Int)] (by simp [Act.eval]) rfl (by exact NEW _) (by simp [Value.oneCell']) (by unfold maxLen; omega) (by omega) (by simp; omega) ?_; intro v' w1 hown1 hgrow hloc; obtain ⟨kp1, kf1, _, _⟩ := h.kept _ _ hgrow; obtain ⟨b1, cap1, hv1⟩ := ownsRow_succ hown1; subst hv1)
    all_goals
      obtain ⟨L1, L2, L3⟩ := joined_lies h _ _ y (g.N x).lst _ hown1 hgrow hloc
      clear hown1 hgrow hloc kp1 kf1 A0 A1 A2 OWN NEW ll c0 c1 f1
      go_wp2_with fail
      refine (hang_in _ base p nb n g _ _ L1 y x hrj hri (Ne.symm hne) (by omega)).mono ?_
      rintro e w2 ⟨rfl, H1, H2⟩
      clear L1
      go_wp2
      go_ret
      exact ⟨rfl, Join_fin L2 L3 H1 H2⟩
  · rw [if_neg hs]
    go_enter Try.func29, Try.ntmps29
    go_wp2_with fail
    refine (has_in _ _ _ _ _ _ _ _ h i).mono ?_
    rintro e w' ⟨rfl, rfl⟩
    rw [ha]
    go_wp2_with fail
    refine (has_in _ _ _ _ _ _ _ _ h j).mono ?_
    rintro e w' ⟨rfl, rfl⟩
    rw [hb']
    go_wp2_with fail
    refine Ri.mono ?_
    rintro e w' ⟨rfl, rfl⟩
    go_wp2_with fail
    refine Rj.mono ?_
    rintro e w' ⟨rfl, rfl⟩
    clear Ri Rj
    go_wp2_with fail
    go_quiet (fail)
    go_wp2_with fail
    have ll := h.lst hrj
    have A2 : ∀ m O, ((w.drewN m).alloc O).cell? ⟨nb, y * 4 + 3, none⟩ = some (.int .i64 ((g.N y).lst : Int)) := fun m O => by rw [← nodeC_lst]; exact (h.drewN.nodes.alloc O).cell (by omega)
    have NEW := fun m => cell_two_news w m (.int .i64 (x : Int)) (.int .i64 ((g.N y).lst : Int)) 135
    clear si sj hs hne'
    go_region_law (refine step_append_here rfl (.tmp 51) (.tmp 62) 126 rfl base 135 i0 _ 2 16 Try.underlying126 hi0 hz0 hz1 hz2 rfl (by decide) _ js.length (joinC js) (by simp [Act.eval]; rfl) (by exact OWN _ _) ⟨w.heap.size, 0, none⟩ 1 1 [.int .i64 (x : Int), .int .i64 ((g.N y).lst : Int)] (by simp [Act.eval]) rfl (by exact NEW _) (by simp [Value.oneCell']) (by unfold maxLen; omega) (by omega) (by simp; omega) ?_; intro v' w1 hown1 hgrow hloc; obtain ⟨kp1, kf1, _, _⟩ := h.kept _ _ hgrow; obtain ⟨b1, cap1, hv1⟩ := ownsRow_succ hown1; subst hv1)
    all_goals
      obtain ⟨L1, L2, L3⟩ := joined_lies h _ _ x (g.N y).lst _ hown1 hgrow hloc
      clear hown1 hgrow hloc kp1 kf1 A0 A1 A2 OWN NEW ll c0 c1 f1
      go_wp2_with fail
      refine (hang_in _ base p nb n g _ _ L1 x y hri hrj hne (by omega)).mono ?_
      rintro e w2 ⟨rfl, H1, H2⟩
      clear L1
      go_wp2
      go_ret
      exact ⟨rfl, Join_fin L2 L3 H1 H2⟩

end Go.Proofs.Ytinphcnknionmaa

namespace Go.Proofs.Ytinphcnknionmaa
open Go.RowKit Go.Maps

theorem nix_snoc (l : List Tm) (t u : Tm) : nix (l ++ [t]) u = match nix l u with
    | some i => some i
    | none => if t = u then some l.length else none := by
  unfold nix
  rw [List.findIdx?_append]
  cases h : List.findIdx? (fun x => decide (x = u)) l with
  | some i => rfl
  | none => by_cases e : t = u <;> simp [List.findIdx?_cons, e]

theorem fst_snoc (l : List Tm) (t : Tm) (n : ByteArray) : fst (l ++ [t]) n = match fst l n with
    | some i => some i
    | none => if t.name = n then some l.length else none := by
  unfold fst
  rw [List.findIdx?_append]
  cases h : List.findIdx? (fun x => decide (x.name = n)) l with
  | some i => rfl
  | none => by_cases e : t.name = n <;> simp [List.findIdx?_cons, e]

theorem fst_mem {l : List Tm} {t : Tm} (h : t ∈ l) : ∃ i, fst l t.name = some i := by
  cases hf : fst l t.name with
  | some i => exact ⟨i, rfl⟩
  | none =>
    have := List.findIdx?_eq_none_iff.1 hf t h
    simp at this
theorem isF_snoc (l : List Tm) (t : Tm) {i : Nat} (hi : i < l.length) : isF (l ++ [t]) i = isF l i := by
  unfold isF
  rw [List.getElem?_append_left hi, List.getElem?_eq_getElem hi]
  obtain ⟨k, hk⟩ := fst_mem (List.getElem_mem hi)
  simp only [fst_snoc, hk]
theorem isF_last (l : List Tm) (t : Tm) : isF (l ++ [t]) l.length = (fst l t.name).isNone := by
  unfold isF
  rw [List.getElem?_append_right (Nat.le_refl _)]
  simp only [Nat.sub_self, List.getElem?_cons_zero, fst_snoc]
  cases hf : fst l t.name with
  | none => simp
  | some i =>
    have hlt : i < l.length := (List.findIdx?_eq_some_iff_getElem.1 hf).1
    simp
    omega
theorem cntF_snoc (l : List Tm) (t : Tm) : cntF (l ++ [t]) = cntF l + (if (fst l t.name).isNone then 1 else 0) := by
  unfold cntF
  rw [List.length_append, List.length_singleton, List.range_succ, List.filter_append, List.length_append]
  have e : (List.range l.length).filter (isF (l ++ [t])) = (List.range l.length).filter (isF l) := List.filter_congr (fun i hi => isF_snoc l t (List.mem_range.1 hi))
  rw [e]
  simp only [List.filter_cons, isF_last, List.filter_nil]
  split <;> simp

theorem nix_none {l : List Tm} {t : Tm} (h : nix l t = none) : t ∉ l := by
  intro hm
  have := List.findIdx?_eq_none_iff.1 h t hm
  simp at this

theorem ekey_lit {t : Tm} (ht : t.ok) : ∃ k, ekey t = k ∧ WideAt.IsKeyLit k := by
  have h := ekey_of ht
  generalize ekey t = k at h
  exact ⟨k, rfl, tLaw.key h⟩
theorem skey_lit {n : ByteArray} (h : n.size ≤ 6) : WideAt.IsKeyLit (skey n) := by
  have h := skey_of h
  generalize skey n = k at h
  exact sLaw.key h

theorem nums_snoc {D : DataW Unit} {l : List Tm} {t : Tm} (h : ∀ u : Tm, u.ok → Says D (ekey u) (nix l u)) (hD : IsMap D) (ht : t.ok) (hn : nix l t = none) :
    ∀ u : Tm, u.ok → Says (D.put (ekey t) (.lit (.int .i64 (l.length : Int)))) (ekey u) (nix (l ++ [t]) u) := by
  intro u hu
  by_cases e : t = u
  · subst e
    rw [nix_snoc, hn]
    simp only [if_true]
    obtain ⟨kk, e, hk⟩ := ekey_lit ht
    rw [e]
    exact Says.put_same hD hk l.length
  · have e1 : nix (l ++ [t]) u = nix l u := by
      rw [nix_snoc]
      cases nix l u <;> simp [e]
    rw [e1]
    exact (h u hu).put_other (fun x => e (ekey_inj hu ht x).symm) _

theorem fsts_snoc {D : DataW Unit} {l : List Tm} {t : Tm} (h : ∀ n : ByteArray, n.size ≤ 6 → Says D (skey n) (fst l n)) (hD : IsMap D) (ht : t.ok) (hn : fst l t.name = none) :
    ∀ n : ByteArray, n.size ≤ 6 → Says (D.put (skey t.name) (.lit (.int .i64 (l.length : Int)))) (skey n) (fst (l ++ [t]) n) := by
  intro n hz
  by_cases e : t.name = n
  · subst e
    rw [fst_snoc, hn]
    simp only [if_true]
    exact Says.put_same hD (skey_lit ht.name) l.length
  · have e1 : fst (l ++ [t]) n = fst l n := by
      rw [fst_snoc]
      cases fst l n <;> simp [e]
    rw [e1]
    exact (h n hz).put_other (fun x => e (skey_inj x).symm) _

theorem fsts_kept {D : DataW Unit} {l : List Tm} {t : Tm} (h : ∀ n : ByteArray, n.size ≤ 6 → Says D (skey n) (fst l n)) {i : Nat} (hn : fst l t.name = some i) :
    ∀ n : ByteArray, n.size ≤ 6 → Says D (skey n) (fst (l ++ [t]) n) := by
  intro n hz
  have e1 : fst (l ++ [t]) n = fst l n := by
    rw [fst_snoc]
    cases hf : fst l n with
    | some i => rfl
    | none =>
      have : ¬ t.name = n := fun e => by rw [e] at hn; rw [hn] at hf; cases hf
      simp [this]
  rw [e1]
  exact h n hz

/-- What add makes of a bank; the number that it answers. -/
def addL (l : List Tm) (t : Tm) : List Tm := match nix l t with
  | some _ => l
  | none => l ++ [t]
def addN (l : List Tm) (t : Tm) : Nat := (nix l t).getD l.length

def BFoot (p : Nat) (ev : Value) (nb fb k : Nat) : Prop := k = p ∨ k = nb ∨ k = fb ∨ ev.ownBlock = some k

set_option maxHeartbeats 400000 in
theorem add_old (w : World) (base p : Nat) (ev : Value) (nb fb : Nat) (l : List Tm) (h : Bk w base p ev nb fb l) (t : Tm) (ht : t.ok) (i : Nat) (hi : nix l t = some i) :
    Calls Try.prog 144 #[.pointer (some ⟨p, 0, none⟩), entryV t] w fun e w' => e = .returned (.int .i64 (i : Int)) ∧ Bk w' base p ev nb fb l ∧ Kept0 w w' := by
  unfold entryV entryL
  have W1 := boxed w t
  unfold entryL at W1
  have b0 := W1 0 _ rfl
  have b1 := W1 1 _ rfl
  have b2 := W1 2 _ rfl
  have b3 := W1 3 _ rfl
  have b4 := W1 4 _ rfl
  have b5 := W1 5 _ rfl
  clear W1
  go_enter Try.func144, Try.ntmps144
  go_wp2_with fail
  generalize hw1 : w.alloc (Obj.cells #[.string t.name, .int .i64 (t.args.length : Int), .int .i64 (t.arg 0 : Int), .int .i64 (t.arg 1 : Int), .int .i64 (t.arg 2 : Int), .int .i64 (t.arg 3 : Int)] 124) = w1 at b0 b1 b2 b3 b4 b5 ⊢
  have K1 : Kept0 w w1 := hw1 ▸ Kept.alloc (Kept.refl _ w) _
  have H1 := h.kept0 K1
  have c0 := H1.c0
  have c1 := H1.c1
  have LN := fun m => (H1.drewN m).lookN ht
  rw [hi] at LN
  simp only [Option.getD_some, Option.isSome_some, entryV, entryL] at LN
  go_quiet (fail)
  go_wp2_with fail
  go_ret
  exact ⟨rfl, H1.drewN _, Kept.drewN K1 _⟩

end Go.Proofs.Ytinphcnknionmaa
