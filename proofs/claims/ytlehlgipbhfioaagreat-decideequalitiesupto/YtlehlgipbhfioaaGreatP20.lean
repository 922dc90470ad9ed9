/- The document's lists of terms: put. Package close: firstUses. Package close: newClasses. Package close: newClasses' walk. Package close: unite. Package close: a Closure; New, has, Same, Mark, Classes. Package close: Merge. -/
import Derived.Test.YtlehlgipbhfioaaGreatP19
import Derived.Test.YtlehlgipbhfioaaGreatP15
import Derived.Deep.RegionHeld3
import Derived.WalkSmall
namespace Go.Proofs.YtlehlgipbhfioaaGreat
open Go.RowKit

theorem wpList_append_here {P : Program} {ops : Array Oper} {rest : List Oper} {o : Oper} {a : Act} {w : World} {Q : Exit → Act → World → Prop} (hgd : o.guard = none) (sl x : Operand) (t : TypeId)
    (ho : o.op = .call { callee := .builtin .append, args := #[sl, x], argTypes := #[t, t] })
    (base : Nat) (e : TypeId) (i : TypeInfo) (z : Value) (size bytes : Nat) (h1 : P.underlying t = some (.slice e)) (h2 : P.info? e = some i) (h3 : i.zero = some z) (h4 : i.size = size) (h5 : i.bytes = bytes) (h6 : z.cells.size = size) (h7 : 0 < size)
    (v : Value) (n : Nat) (xs : List Value) (hs : a.eval sl = v) (hown : w.ownsRow base e size v n xs)
    (ad : Addr) (m c : Nat) (news : List Value) (hx : a.eval x = .slice (some ad) m c) (hn : news.length = m * size) (hc : ∀ j u, news[j]? = some u → w.cell? (ad.add j) = some u) (h1c : ∀ u ∈ news, u.oneCell' = true)
    (b1 : n + m ≤ maxLen) (b2 : (n + m) * bytes ≤ 140737488355328) (hbase : base ≤ w.heap.size)
    (h : ∀ v' w', w'.ownsRow base e size v' (n + m) (xs ++ news) → w.grownBy w' v.ownBlock → (v'.ownBlock = v.ownBlock ∨ ∀ k, v'.ownBlock = some k → w.heap.size ≤ k) → wpList P ops Q rest (a.put o.dst v') w') : wpList P ops Q (o :: rest) a w := by
  refine wpList_plain hgd fun K hK => ?_
  obtain ⟨v', w', hr, r1, r2, r3⟩ := run_append_here (P := P) w base t o.type e i z size bytes h1 h2 h3 h4 h5 h6 h7 v n xs hown ad m c news hn hc h1c b1 b2 hbase
  unfold Oper.wp execOp
  simp only [ho, resolve, invoke, builtin, Sem.run_bind, Sem.run_pure, Result.andThen_ok, List.map_toArray, List.map_cons, List.map_nil, hs, hx, hr]
  exact hK _ _ (h v' w' r1 r2 r3)

/-- Rows of ints and rows of terms lie apart. -/
theorem rows_apart {w : World} {base base' : Nat} {e e' : TypeId} {k k' n n' : Nat} {v v' : Value} {xs xs' : List Value} (he : e ≠ e') (h : w.ownsRow base e k v n xs) (h' : w.ownsRow base' e' k' v' n' xs') : v.ownBlock = none ∨ v.ownBlock ≠ v'.ownBlock := by
  rcases h.2 with ⟨rfl, _⟩ | ⟨b, cap, cur, rfl, _, hb, _⟩
  · exact Or.inl rfl
  · rcases h'.2 with ⟨rfl, _⟩ | ⟨b', cap', cur', rfl, _, hb', _⟩
    · exact Or.inr (by simp [Value.ownBlock])
    · refine Or.inr fun x => ?_
      simp [Value.ownBlock] at x
      subst x
      rw [hb] at hb'
      injection hb' with e1
      injection e1 with _ e2
      exact he e2

theorem lsC_snoc {l : List Tm} {vs : List Value} (h : vs.length = l.length) (t : Tm) (v : Value) : lsC (l ++ [t]) (vs ++ [v]) = lsC l vs ++ [.string t.name, v] := by
  unfold lsC
  rw [List.zip_append h.symm]
  simp

theorem Ls.snoc {w w' : World} {base : Nat} {av v' : Value} {l : List Tm} {vs : List Value} (h : Ls w base av l vs) {t : Tm} {v : Value} (hv : ArgsAt1 w base t.args v) (hr : w'.ownsRow base 140 2 v' (l.length + 1) (lsC l vs ++ [.string t.name, v])) (hg : w.grownBy w' av.ownBlock) : Ls w' base v' (l ++ [t]) (vs ++ [v]) := by
  have keep : ∀ xs u, ArgsAt1 w base xs u → ArgsAt1 w' base xs u := fun xs u hu => hu.kept hg (rows_apart (by decide) hu h.row)
  refine ⟨by simp [h.len], by rw [lsC_snoc h.len]; simpa using hr, ?_⟩
  intro i t' u h1 h2
  by_cases hi : i < l.length
  · rw [List.getElem?_append_left hi] at h1
    rw [List.getElem?_append_left (by rw [h.len]; exact hi)] at h2
    exact keep _ _ (h.args i t' u h1 h2)
  · have hi2 := (List.getElem?_eq_some_iff.1 h1).1
    have e : i = l.length := by simp at hi2; omega
    subst e
    simp at h1
    rw [← h.len] at h2
    simp at h2
    subst h1 h2
    exact keep _ _ hv

theorem infoRT : (Tryz.prog.info? 140).map (fun i => (i.zero, i.size, i.bytes)) = some (some (.agg #[.string ⟨#[]⟩, .slice none 0 0]), 2, 40) := by kernel_rfl

def putV (l : List Tm) (t : Tm) (vs : List Value) (v : Value) : List Value := match nix l t with
  | some _ => vs
  | none => vs ++ [v]

/-- What put leaves. -/
def PutPost (w : World) (base : Nat) (av : Value) (l : List Tm) (vs : List Value) (t : Tm) (v : Value) (e : Ending) (w' : World) : Prop :=
  ∃ av', e = .returned (.tuple #[av', .int .i64 (addN l t : Int)]) ∧ Ls w' base av' (addL l t) (putV l t vs v) ∧ Kept (fun k => av.ownBlock = some k) w w' ∧ (av'.ownBlock = av.ownBlock ∨ ∀ k, av'.ownBlock = some k → w.heap.size ≤ k)

theorem nix_first {l : List Tm} {t : Tm} {k : Nat} (hk : l[k]? = some t) (h : ∀ j, j < k → l[j]? ≠ some t) : nix l t = some k := by
  unfold nix
  rw [List.findIdx?_eq_some_iff_getElem]
  obtain ⟨h1, h2⟩ := List.getElem?_eq_some_iff.1 hk
  refine ⟨h1, decide_eq_true h2, fun j hj => ?_⟩
  have := h j hj
  rw [List.getElem?_eq_getElem (by omega)] at this
  simpa using this
theorem nix_nowhere {l : List Tm} {t : Tm} (h : ∀ j, j < l.length → l[j]? ≠ some t) : nix l t = none := by
  unfold nix
  rw [List.findIdx?_eq_none_iff]
  intro x hx
  obtain ⟨j, hj, rfl⟩ := List.getElem_of_mem hx
  have := h j hj
  rw [List.getElem?_eq_getElem hj] at this
  simpa using this

theorem two_new (w : World) (a b : Value) : ∀ j u, ([a, b] : List Value)[j]? = some u → (w.alloc (.cells #[a, b] 140)).cell? ((⟨w.heap.size, 0, none⟩ : Addr).add j) = some u := by
  intro j u hj
  match j, hj with
  | 0, hj => simp at hj; subst hj; simp [Addr.add]
  | 1, hj => simp at hj; subst hj; simp [Addr.add]

set_option maxHeartbeats 2000000 in
set_option maxRecDepth 100000 in
theorem put_in (w : World) (base : Nat) (av : Value) (l : List Tm) (vs : List Value) (h : Ls w base av l vs) (hl : l.length ≤ 1000) (t : Tm) (v : Value) (hv : ArgsAt1 w base t.args v) (hu4 : ∀ u ∈ l, u.args.length ≤ 4) (hbase : base ≤ w.heap.size) :
    Calls Tryz.prog 64 #[av, .agg #[.string t.name, v]] w (PutPost w base av l vs t v) := by
  obtain ⟨ta, tc, rfl⟩ := row_form hv
  obtain ⟨aa, ac, rfl⟩ := h.form
  have K1 : Kept0 w (w.alloc (.cells #[.string t.name, .slice ta t.args.length tc] 140)) := Kept.alloc (Kept.refl _ w) _
  have R1 := made_row w #[.string t.name, .slice ta t.args.length tc] 140
  generalize hw1 : w.alloc (.cells #[.string t.name, .slice ta t.args.length tc] 140) = w1 at *
  have L1 := h.kept0 K1
  have V1 := hv.kept K1.grownBy (Decidable.em _)
  go_enter Tryz.func64, Tryz.ntmps64
  go_wp2_with fail
  clear hw1
  generalize w.heap.size = x at R1 ⊢
  go_loopw [6] (fun t6 W => ∃ k : Nat, k ≤ l.length ∧ t6 = .int .i64 (k : Int) ∧ Hid (∀ j, j < k → l[j]? ≠ some t) ∧ Hid (Kept0 w1 W)) (fun t6 _ => l.length - (intOf t6).toNat)
  case atStart => exact ⟨0, by omega, rfl, fun j hj => absurd hj (by omega), Kept.refl _ w1⟩
  case round =>
    obtain ⟨k, hk, rfl, hne, KK⟩ := hrel
    have LW := L1.kept0 KK.out
    have VW := V1.kept KK.out.grownBy (Decidable.em _)
    have RW := World.rowIs.of_block R1 (KK.out.block x (World.rowIs.lt R1) (fun e => e))
    have a0 : wr.cell? ⟨x, 0, none⟩ = some (.string t.name) := World.rowIs.cell RW (i := 0) (by simp)
    have a1 : wr.cell? ⟨x, 1, none⟩ = some (.slice ta t.args.length tc) := World.rowIs.cell RW (i := 1) (by simp)
    by_cases hk2 : k < l.length
    · have dk : decide ((k : Int) < (l.length : Int)) = true := decide_eq_true (by omega)
      have hu : l[k]? = some l[k] := List.getElem?_eq_getElem hk2
      have hu4' := hu4 _ (List.getElem_mem hk2)
      generalize hgu : l[k] = u at hu hu4'
      obtain ⟨g, cap, vu, hg, _, g0, g1, hvu⟩ := LW.at hu
      injection hg with e1 _ e3
      subst e1 e3
      obtain ⟨ua, uc, rfl⟩ := row_form hvu
      have SAME := fun m => same1_in (wr.drewN m) base u t (.slice ua u.args.length uc) (.slice ta t.args.length tc) hvu VW hu4'
      by_cases he : u = t
      · rw [decide_eq_true he] at SAME
        have hN : nix l t = some k := nix_first (he ▸ hu) hne.out
        clear he hgu
        go_wp2_with fail
        go_region_with (go_at_call 109; refine (SAME _).mono ?_; rintro e w3 ⟨rfl, K3⟩)
        all_goals
          go_wp2_with fail
          go_ret2
          have K4 : Kept0 w1 w3 := Kept.trans (Kept.drewN KK.out _) K3
          have K5 : Kept0 w w3 := Kept.trans K1 K4
          exact ⟨_, by simp [addN, hN], by simpa [addL, putV, hN] using h.kept0 K5, Kept.mono K5 (fun _ _ e => e.elim), Or.inl rfl⟩
      · rw [decide_eq_false he] at SAME
        have hne2 : Hid (∀ j, j < k + 1 → l[j]? ≠ some t) := fun j hj => by
          by_cases e : j = k
          · subst e
            rw [hu]
            simpa using he
          · exact hne.out j (by omega)
        clear he hgu
        go_wp2_with fail
        go_region_with (go_at_call 109; refine (SAME _).mono ?_; rintro e w3 ⟨rfl, K3⟩)
        all_goals
          go_wp2_with fail
          go_roundw
          case rel => exact ⟨k + 1, by omega, by go_num, hne2, Kept.trans (Kept.drewN KK.out _) K3⟩
          case measure => simp [intOf]; omega
    · have dk : decide ((k : Int) < (l.length : Int)) = false := decide_eq_false (by omega)
      have hN : nix l t = none := nix_nowhere fun j hj => hne.out j (by omega)
      obtain ⟨i0, hi0, hz0, hz1, hz2⟩ := info_parts infoRT
      have hsz := KK.out.size
      have hsz1 := K1.size
      have NEWS := two_new wr (.string t.name) (.slice ta t.args.length tc)
      clear dk hne
      have dk : decide ((k : Int) < (l.length : Int)) = false := decide_eq_false (by omega)
      have hlenb : Hid (l.length ≤ 1000) := hl
      go_wp2_with (at_builtin; refine wpList_append_here rfl _ _ 25 rfl base 140 i0 _ 2 40 Tryz.underlying25 hi0 hz0 hz1 hz2 rfl (by decide) _ l.length (lsC l vs) rfl (LW.row.alloc _) ⟨wr.heap.size, 0, none⟩ 1 1 [.string t.name, .slice ta t.args.length tc] rfl rfl NEWS (by simp [Value.oneCell']) (by unfold maxLen; omega) (by omega) (by simp; omega) ?_; intro v' w5 hown5 hgrow hloc)
      go_ret2
      have K4 : Kept0 w (wr.alloc (.cells #[.string t.name, .slice ta t.args.length tc] 140)) := (Kept.trans K1 KK.out).alloc _
      have LA : Ls (wr.alloc (.cells #[.string t.name, .slice ta t.args.length tc] 140)) base (.slice aa l.length ac) l vs := h.kept0 K4
      refine ⟨v', by simp [addN, hN], ?_, Kept.grown (Kept.mono K4 (fun _ _ e => e.elim)) hgrow (fun k e => e), ?_⟩
      · have := LA.snoc (hv.kept K4.grownBy (Decidable.em _)) hown5 hgrow
        simpa [addL, putV, hN] using this
      · rcases hloc with e | e
        · exact Or.inl e
        · refine Or.inr fun k hk => ?_
          have h1 := e k hk
          have h2 := K4.size
          omega

end Go.Proofs.YtlehlgipbhfioaaGreat

namespace Go.Proofs.YtlehlgipbhfioaaGreat
open Go.RowKit Go.Maps

/-- append where there is room, in the walk. -/
theorem wpList_append_spare {P : Program} {ops : Array Oper} {rest : List Oper} {o : Oper} {a : Act} {w : World} {Q : Exit → Act → World → Prop} (hgd : o.guard = none) (sl x : Operand) (t : TypeId)
    (ho : o.op = .call { callee := .builtin .append, args := #[sl, x], argTypes := #[t, t] })
    (e : TypeId) (i : TypeInfo) (size : Nat) (h1 : P.underlying t = some (.slice e)) (h2 : P.info? e = some i) (h4 : i.size = size)
    (b off n cap : Nat) (hs : a.eval sl = .slice (some ⟨b, off, none⟩) n cap)
    (ad : Addr) (m c : Nat) (news : List Value) (hx : a.eval x = .slice (some ad) m c) (hn : news.length = m * size) (hc : ∀ j u, news[j]? = some u → w.cell? (ad.add j) = some u) (h1c : ∀ u ∈ news, u.oneCell' = true)
    (hroom : n + m ≤ cap) (hspare : ∀ j, j < news.length → (w.cell? ⟨b, off + n * size + j, none⟩).isSome = true ∧ w.frozen? ⟨b, off + n * size + j, none⟩ = false)
    (h : wpList P ops Q rest (a.put o.dst (.slice (some ⟨b, off, none⟩) (n + m) cap)) (w.setCells b (off + n * size) news)) : wpList P ops Q (o :: rest) a w := by
  refine wpList_plain hgd fun K hK => ?_
  subst h4
  have hr := run_append_room_cells (P := P) w t o.type e i h1 h2 b off n cap ad m c news hn hc h1c hroom (fun j hj => (hspare j hj).1) (fun j hj => (hspare j hj).2)
  unfold Oper.wp execOp
  simp only [ho, resolve, invoke, builtin, Sem.run_bind, Sem.run_pure, Result.andThen_ok, List.map_toArray, List.map_cons, List.map_nil, hs, hx, hr]
  exact hK _ _ h

/-- A row of numbers, one for each term. -/
theorem make_ints (w : World) (ty : TypeId) (hty : Tryz.prog.underlying ty = some (.slice 3)) (n : Nat) (hn : n ≤ 1000000) : (Instr.makeSlice ty (.int .i64 (n : Int)) (.int .i64 (n : Int))).run Tryz.prog w = .ok (.slice (some ⟨w.heap.size, 0, none⟩) n n) (w.alloc (.cells (madeCells #[.int .i64 0] n) 3)) := by
  obtain ⟨i0, hi0, hz0, hz1, hz2⟩ := info_parts infoIntK
  have hmk := run_make (P := Tryz.prog) w ty 3 i0 _ hty hi0 hz0 .i64 .i64 (n : Int) (n : Int) (by omega) (Int.le_refl _) (by rw [hz2]; omega) (by omega)
  rw [hz1] at hmk
  simp only [Int.toNat_natCast, Nat.mul_one] at hmk
  exact hmk

theorem infoUses : (Tryz.prog.info? 110).map (fun i => (i.zero, i.size, i.bytes)) = some (some (.slice none 0 0), 1, 24) := by kernel_rfl
theorem make_uses (w : World) (n : Nat) (hn : n ≤ 1000000) : (Instr.makeSlice 67 (.int .i64 (n : Int)) (.int .i64 (n : Int))).run Tryz.prog w = .ok (.slice (some ⟨w.heap.size, 0, none⟩) n n) (w.alloc (.cells (madeCells #[.slice none 0 0] n) 110)) := by
  obtain ⟨i0, hi0, hz0, hz1, hz2⟩ := info_parts infoUses
  have hmk := run_make (P := Tryz.prog) w 67 110 i0 _ Tryz.underlying67 hi0 hz0 .i64 .i64 (n : Int) (n : Int) (by omega) (Int.le_refl _) (by rw [hz2]; omega) (by omega)
  rw [hz1] at hmk
  simp only [Int.toNat_natCast, Nat.mul_one] at hmk
  exact hmk

/-- The room as far as it is filled. -/
def Rm (W : World) (rb total N : Nat) (c : Nat → Nat) (d : List (Nat × Nat)) : Prop := ∃ g, W.rowIs rb 3 total g ∧ ∀ i, i < N → ∀ j x : Nat, (Cc.usf d i)[j]? = some x → g (Cc.offs c i + j) = .int .i64 (x : Int)
theorem Rm.step {W : World} {rb total N : Nat} {c : Nat → Nat} {d : List (Nat × Nat)} (h : Rm W rb total N c d) {a n : Nat} (hd : Cc.cna d a < c a) (hle : ∀ i, Cc.cna d i ≤ c i) :
    Rm (W.setCell ⟨rb, Cc.offs c a + Cc.cna d a, none⟩ (.int .i64 (n : Int))) rb total N c (d ++ [(a, n)]) := by
  obtain ⟨g, R, hg⟩ := h
  refine ⟨_, R.set (Cc.offs c a + Cc.cna d a) (.int .i64 (n : Int)), fun i hi j x hj => ?_⟩
  rw [Cc.usf_snoc] at hj
  show (if Cc.offs c i + j = Cc.offs c a + Cc.cna d a then Value.int .i64 (n : Int) else g (Cc.offs c i + j)) = _
  by_cases e : i = a
  · subst e
    rw [if_pos rfl] at hj
    by_cases ej : j < Cc.cna d i
    · rw [List.getElem?_append_left ej] at hj
      rw [if_neg (by omega)]
      exact hg i hi j x hj
    · have hjl := (List.getElem?_eq_some_iff.1 hj).1
      rw [List.length_append, List.length_singleton] at hjl
      have ej2 : j = Cc.cna d i := by unfold Cc.cna at ej ⊢; omega
      subst ej2
      rw [if_pos rfl]
      unfold Cc.cna at hj
      rw [List.getElem?_append_right (Nat.le_refl _), Nat.sub_self] at hj
      simp at hj
      rw [hj]
  · rw [if_neg e] at hj
    have hjl : j < Cc.cna d i := (List.getElem?_eq_some_iff.1 hj).1
    have h1 := hle i
    have : ¬ Cc.offs c i + j = Cc.offs c a + Cc.cna d a := by
      rcases Nat.lt_or_gt_of_ne e with e | e
      · have := Cc.offs_mono c e; omega
      · have := Cc.offs_mono c e; omega
    rw [if_neg this]
    exact hg i hi j x hj

/-- The slice of term i, behind d. -/
def slD (rb : Nat) (c : Nat → Nat) (d : List (Nat × Nat)) (i : Nat) : Value := .slice (some ⟨rb, if c i = 0 then 0 else Cc.offs c i, none⟩) (Cc.cna d i) (c i)

/-- What firstUses leaves. -/
structure Fu (w w' : World) (ub : Nat) (l : List Tm) (uv : Nat → Value) (st : List (Nat × Obj)) : Prop where
  row : w'.rowIs ub 110 l.length uv
  sat : Sat st w'
  far : ∀ x ∈ st, w.heap.size ≤ x.1 ∧ x.1 ≠ ub
  uses : ∀ i, i < l.length → UseIs st (uv i) (Cc.usf (Cc.evs l 0) i)
  kept : Kept0 w w'
  ub : w.heap.size ≤ ub

theorem Fu.made {w w' : World} {rb : Nat} {l : List Tm} (h1 : w'.rowIs (rb + 1) 110 l.length (slD rb (Cc.cna (Cc.evs l 0)) (Cc.evs l 0))) (h2 : Rm w' rb (Cc.evs l 0).length l.length (Cc.cna (Cc.evs l 0)) (Cc.evs l 0)) (hall : Cc.offs (Cc.cna (Cc.evs l 0)) l.length = (Cc.evs l 0).length) (K : Kept0 w w') (hb : w.heap.size ≤ rb) :
    ∃ uv st2, Fu w w' (rb + 1) l uv st2 := by
  obtain ⟨g, ⟨C, q1, q2, q3⟩, hg⟩ := h2
  refine ⟨_, [(rb, .cells C 3 (0, 0))], ⟨h1, fun x hx => by simp at hx; subst hx; exact q1, fun x hx => by simp at hx; subst hx; exact ⟨hb, by show rb ≠ rb + 1; omega⟩, fun i hi => ?_, K, by omega⟩⟩
  refine ⟨_, Cc.cna (Cc.evs l 0) i, rfl, Nat.le_refl _, ?_⟩
  by_cases e : Cc.usf (Cc.evs l 0) i = []
  · exact .inl e
  · have hc : Cc.cna (Cc.evs l 0) i ≠ 0 := fun x => e (List.eq_nil_of_length_eq_zero x)
    refine .inr ⟨rb, Cc.offs (Cc.cna (Cc.evs l 0)) i, C, (0, 0), by rw [if_neg hc], by simp, fun j x hj => ?_⟩
    have hjl : j < Cc.cna (Cc.evs l 0) i := (List.getElem?_eq_some_iff.1 hj).1
    have := Cc.offs_mono (Cc.cna (Cc.evs l 0)) hi
    rw [q3 _ (by omega), hg i hi j x hj]

set_option maxHeartbeats 2000000 in
set_option maxRecDepth 100000 in
theorem first_in (w : World) (l : List Tm) (tb : Nat) (av : Nat → Value) (st : List (Nat × Obj)) (hR : w.rowIs tb 102 (l.length * 2) (termC l av)) (hS : Sat st w) (hA : ∀ (i : Nat) (t : Tm), l[i]? = some t → UseIs st (av i) t.args) (hb : Cc.Bd l) (hl : l.length ≤ 150) :
    Calls Tryz.prog 33 #[.slice (some ⟨tb, 0, none⟩) l.length l.length] w fun e w' => ∃ ub uv st2, e = .returned (.slice (some ⟨ub, 0, none⟩) l.length l.length) ∧ Fu w w' ub l uv st2 := by
  have M1 := make_ints w 39 Tryz.underlying39 l.length (by omega)
  have R1 := World.rowIs_made w (.int .i64 0) l.length 3
  have K1 : Kept0 w (w.alloc (.cells (madeCells #[.int .i64 0] l.length) 3)) := Kept.alloc (Kept.refl _ w) _
  go_enter Tryz.func33, Tryz.ntmps33
  go_wp2_with fail
  clear M1
  generalize w.alloc (.cells (madeCells #[.int .i64 0] l.length) 3) = w1 at *
  have h4 := hb.four
  have hcb : w.heap.size < w1.heap.size := R1.lt
  have htl := hR.lt
  generalize hcbe : w.heap.size = cb at *
  have T0 : ∀ W, Kept0 w W → ∀ (n : Nat) (t : Tm), l[n]? = some t → W.cell? ⟨tb, n * 2, none⟩ = some (.string t.name) ∧ W.cell? ⟨tb, n * 2 + 1, none⟩ = some (av n) := fun W K n t ht => by
    have hn := (List.getElem?_eq_some_iff.1 ht).1
    have R := World.rowIs.of_block hR (K.block tb (by omega) (fun e => e))
    refine ⟨?_, ?_⟩
    · rw [R.cell (i := n * 2) (by omega)]; simp [termC, ht]
    · rw [R.cell (i := n * 2 + 1) (by omega)]
      have h1 : (n * 2 + 1) % 2 = 1 := by omega
      have h2 : (n * 2 + 1) / 2 = n := by omega
      simp [termC, h1, h2]
  have T0h : Hid _ := T0
  clear T0
  have SS : ∀ W, Kept0 w W → Sat st W := fun W K x hx => (K.block x.1 (Array.getElem?_eq_some_iff.1 (hS x hx)).1 (fun e => e)).trans (hS x hx)
  go_loopw [4, 23] (fun t4 t23 W => ∃ n : Nat, n ≤ l.length ∧ t23 = .int .i64 (n : Int) ∧ t4 = .int .i64 ((Cc.evs (l.take n) 0).length : Int) ∧ W.rowIs cb 3 l.length (fun i => .int .i64 (Cc.cna (Cc.evs (l.take n) 0) i : Int)) ∧ Kept0 w W) (fun _ t23 _ => l.length - (intOf t23).toNat)
  case atStart => exact ⟨0, by omega, rfl, rfl, R1, K1⟩
  case round =>
    clear R1 K1
    obtain ⟨n, hn, rfl, rfl, R, K⟩ := hrel
    by_cases hn2 : n < l.length
    · have dn : decide ((n : Int) < (l.length : Int)) = true := decide_eq_true (by omega)
      have ht : l[n]? = some l[n] := List.getElem?_eq_getElem hn2
      generalize hln : l[n] = t at ht
      obtain ⟨t0, t1⟩ := T0h.out wr K n t ht
      obtain ⟨aa, ac, hav⟩ := (hA n t ht).form
      rw [hav] at t1
      have hU := hA n t ht
      rw [hav] at hU
      have K2 : Kept0 w (wr.alloc (.cells #[.string t.name, .slice aa t.args.length ac] 102)) := K.alloc _
      have R2 := R.alloc (.cells #[.string t.name, .slice aa t.args.length ac] 102)
      rw [← Cc.pre_zero l n t] at R2
      have e0 : (Cc.evs (l.take n) 0).length = (Cc.pre l n t 0).length := by rw [Cc.pre_zero]
      go_wp2_with fail
      rw [e0]
      generalize wr.alloc (.cells #[.string t.name, .slice aa t.args.length ac] 102) = w2 at *
      clear t0 t1 R K
      go_loopw [4, 30] (fun t4 t30 W => ∃ k : Nat, k ≤ t.args.length ∧ t30 = .int .i64 (k : Int) ∧ t4 = .int .i64 ((Cc.pre l n t k).length : Int) ∧ W.rowIs cb 3 l.length (fun i => .int .i64 (Cc.cna (Cc.pre l n t k) i : Int)) ∧ Kept0 w W) (fun _ t30 _ => t.args.length - (intOf t30).toNat)
      case atStart => exact ⟨0, by omega, rfl, rfl, R2, K2⟩
      case round =>
        clear R2 K2
        obtain ⟨k, hk, rfl, rfl, R, K⟩ := hrel
        by_cases hk2 : k < t.args.length
        · have dk : decide ((k : Int) < (t.args.length : Int)) = true := decide_eq_true (by omega)
          have hka : t.args[k]? = some t.args[k] := List.getElem?_eq_getElem hk2
          obtain ⟨b, off, cap, hv, _, hc⟩ := hU.cell (SS wr K) hka
          injection hv with e1 e2 e3
          clear e2
          subst e1 e3
          have ck := hc k _ hka
          clear hc
          have hlt := hb.args n t ht _ (List.getElem_mem hk2)
          have hpl := Cc.pre_len h4 ht k
          have hcl := Cc.cna_le (Cc.pre l n t k) t.args[k]
          have R' := World.rowIs.congr (R.set t.args[k] (.int .i64 ((Cc.cna (Cc.pre l n t k) t.args[k] : Int) + 1))) (g := fun i => .int .i64 (Cc.cna (Cc.pre l n t (k + 1)) i : Int)) (fun i hi => by
            rw [Cc.pre_step hka, Cc.cna_snoc]
            by_cases e : i = t.args[k]
            · rw [if_pos e, if_pos e, e]; simp
            · rw [if_neg e, if_neg e])
          have cc := R.cell (i := t.args[k]) hlt
          have fc := R.frozen t.args[k]
          have hpl' : (Cc.pre l n t (k + 1)).length = (Cc.pre l n t k).length + 1 := by rw [Cc.pre_step hka]; simp
          generalize t.args[k] = xa at *
          generalize Cc.cna (Cc.pre l n t k) xa = cn at *
          generalize (Cc.pre l n t k).length = pn at *
          have hk4 : t.args.length ≤ 4 := h4 t (List.mem_of_getElem? ht)
          have HF : Hid (_ ∧ _ ∧ _) := ⟨R', hpl', Kept.setNew (off := xa) K (Nat.le_of_eq hcbe) (.int .i64 ((cn : Int) + 1))⟩
          clear R R' hpl' K hU hka hav hA hR hS T0h SS hb h4 hln ht e0 hcb htl hcbe
          go_wp2_with fail
          obtain ⟨R', hpl', K'⟩ := HF.out
          refine ⟨⟨k + 1, hk2, ?_, ?_, R', K'⟩, ?_⟩
          · simp
          · rw [hpl']; simp
          · simp [intOf]; omega
        · have dk : decide ((k : Int) < (t.args.length : Int)) = false := decide_eq_false (by omega)
          obtain rfl : k = t.args.length := by omega
          rw [Cc.pre_all ht] at R ⊢
          go_wp2_with fail
          exact ⟨⟨n + 1, by omega, by simp, rfl, R, K⟩, by simp [intOf]; omega⟩
    · have dn : decide ((n : Int) < (l.length : Int)) = false := decide_eq_false (by omega)
      obtain rfl : n = l.length := by omega
      rw [Cc.evs_all] at R ⊢
      have htot : (Cc.evs l 0).length ≤ 4 * l.length := Cc.evs_len h4 0
      have hall : Cc.offs (Cc.cna (Cc.evs l 0)) l.length = (Cc.evs l 0).length := Cc.offs_all _ _ (Cc.evs_lt (fun t ht a ha => by
        obtain ⟨n, hn, rfl⟩ := List.mem_iff_getElem.1 ht
        exact hb.args n _ (List.getElem?_eq_getElem hn) a ha) 0)
      have M2 := make_ints wr 110 Tryz.underlying110 (Cc.evs l 0).length (by omega)
      have M3 := make_uses (wr.alloc (.cells (madeCells #[.int .i64 0] (Cc.evs l 0).length) 3)) l.length (by omega)
      have Rr := World.rowIs.alloc (World.rowIs_made wr (.int .i64 0) (Cc.evs l 0).length 3) (.cells (madeCells #[.slice none 0 0] l.length) 110)
      have Ra := World.rowIs_made (wr.alloc (.cells (madeCells #[.int .i64 0] (Cc.evs l 0).length) 3)) (.slice none 0 0) l.length 110
      have hs1 : (wr.alloc (.cells (madeCells #[.int .i64 0] (Cc.evs l 0).length) 3)).heap.size = wr.heap.size + 1 := by simp
      rw [hs1] at M3 Ra
      have Rc := (R.alloc (.cells (madeCells #[.int .i64 0] (Cc.evs l 0).length) 3)).alloc (.cells (madeCells #[.slice none 0 0] l.length) 110)
      have K5 := (K.alloc (.cells (madeCells #[.int .i64 0] (Cc.evs l 0).length) 3)).alloc (.cells (madeCells #[.slice none 0 0] l.length) 110)
      have hrb : cb < wr.heap.size := R.lt
      go_wp2_with fail
      clear M2 M3 R K hs1
      generalize (wr.alloc (.cells (madeCells #[.int .i64 0] (Cc.evs l 0).length) 3)).alloc (.cells (madeCells #[.slice none 0 0] l.length) 110) = w5 at *
      generalize wr.heap.size = rb at *
      generalize hE : Cc.evs l 0 = E at *
      have hEh : Hid (Cc.evs l 0 = E) := hE
      clear hE
      go_loopw [11, 51] (fun t11 t51 W => ∃ n : Nat, n ≤ l.length ∧ t51 = .int .i64 (n : Int) ∧ t11 = .int .i64 (Cc.offs (Cc.cna E) n : Int) ∧ W.rowIs (rb + 1) 110 l.length (fun i => if i < n then slD rb (Cc.cna E) [] i else .slice none 0 0) ∧ W.rowIs cb 3 l.length (fun i => .int .i64 (Cc.cna E i : Int)) ∧ W.rowIs rb 3 E.length (fun _ => .int .i64 0) ∧ Kept0 w W) (fun _ t51 _ => l.length - (intOf t51).toNat)
      case atStart => exact ⟨0, by omega, rfl, rfl, Ra.congr (fun i _ => by simp), Rc, Rr, K5⟩
      case round =>
        clear Ra Rc Rr K5
        obtain ⟨n, hn, rfl, rfl, Ra, Rc, Rr, K⟩ := hrel
        by_cases hn2 : n < l.length
        · have dn : decide ((n : Int) < (l.length : Int)) = true := decide_eq_true (by omega)
          have cc := Rc.cell (i := n) hn2
          have ca := Ra.cell (i := n) hn2
          rw [if_neg (Nat.lt_irrefl n)] at ca
          have fa := Ra.frozen n
          have hom := Cc.offs_mono (Cc.cna E) hn2
          rw [hall] at hom
          have hoff : Cc.offs (Cc.cna E) (n + 1) = Cc.offs (Cc.cna E) n + Cc.cna E n := rfl
          have SLD : Hid (slD rb (Cc.cna E) [] n = .slice (some ⟨rb, if Cc.cna E n = 0 then 0 else Cc.offs (Cc.cna E) n, none⟩) 0 (Cc.cna E n)) := rfl
          generalize hcn : Cc.cna E n = cn at *
          generalize hon : Cc.offs (Cc.cna E) n = on at *
          clear hA hR hS T0h SS hb h4 hall hcb htl
          have HH : Hid (_ ∧ _ ∧ _ ∧ _ ∧ _ ∧ _) := ⟨hcn, hon, Ra, Rc, Rr, K⟩
          clear hcn hon Ra Rc Rr K
          by_cases hc0 : cn = 0
          · subst hc0
            go_wp2_with fail
            obtain ⟨hcn, hon, Ra, Rc, Rr, K⟩ := HH.out
            have hv := SLD.out
            rw [if_pos rfl] at hv
            refine ⟨⟨n + 1, hn2, by simp, by rw [hoff]; rfl, (Ra.set n _).congr (fun i hi => ?_), Rc.setOther (show cb ≠ rb + 1 by omega) _, Rr.setOther (show rb ≠ rb + 1 by omega) _, Kept.setNew K (by omega) _⟩, by simp [intOf]; omega⟩
            by_cases e : i = n
            · rw [if_pos e, e, if_pos (Nat.lt_succ_self n), hv]
            · rw [if_neg e]
              by_cases e2 : i < n
              · rw [if_pos e2, if_pos (by omega)]
              · rw [if_neg e2, if_neg (by omega)]
          · go_wp2_with fail
            obtain ⟨hcn, hon, Ra, Rc, Rr, K⟩ := HH.out
            have hv := SLD.out
            rw [if_neg hc0] at hv
            refine ⟨⟨n + 1, hn2, by simp, by rw [hoff]; simp, (Ra.set n _).congr (fun i hi => ?_), Rc.setOther (show cb ≠ rb + 1 by omega) _, Rr.setOther (show rb ≠ rb + 1 by omega) _, Kept.setNew K (by omega) _⟩, by simp [intOf]; omega⟩
            by_cases e : i = n
            · rw [if_pos e, e, if_pos (Nat.lt_succ_self n), hv]
            · rw [if_neg e]
              by_cases e2 : i < n
              · rw [if_pos e2, if_pos (by omega)]
              · rw [if_neg e2, if_neg (by omega)]
        · have dn : decide ((n : Int) < (l.length : Int)) = false := decide_eq_false (by omega)
          obtain rfl : n = l.length := by omega
          have Ra0 : wr.rowIs (rb + 1) 110 l.length (slD rb (Cc.cna E) (Cc.evs (l.take 0) 0)) := Ra.congr (fun i hi => by rw [if_pos hi]; rfl)
          have Rm0 : Rm wr rb E.length l.length (Cc.cna E) (Cc.evs (l.take 0) 0) := ⟨_, Rr, fun i _ j x hj => by simp [Cc.evs, Cc.usf] at hj⟩
          have HC : Hid (cb < rb ∧ w.heap.size = cb) := ⟨hrb, hcbe⟩
          clear hrb hcbe hcb htl
          go_wp2_with fail
          clear Ra Rc Rr
          go_loopw [72] (fun t72 W => ∃ n : Nat, n ≤ l.length ∧ t72 = .int .i64 (n : Int) ∧ W.rowIs (rb + 1) 110 l.length (slD rb (Cc.cna E) (Cc.evs (l.take n) 0)) ∧ Rm W rb E.length l.length (Cc.cna E) (Cc.evs (l.take n) 0) ∧ Kept0 w W) (fun t72 _ => l.length - (intOf t72).toNat)
          case atStart => exact ⟨0, by omega, rfl, Ra0, Rm0, K⟩
          case round =>
            clear Ra0 Rm0 K
            obtain ⟨n, hn, rfl, Ra, Rm1, K⟩ := hrel
            by_cases hn2 : n < l.length
            · have dn : decide ((n : Int) < (l.length : Int)) = true := decide_eq_true (by omega)
              have ht : l[n]? = some l[n] := List.getElem?_eq_getElem hn2
              generalize hln : l[n] = t at ht
              clear hln
              obtain ⟨t0, t1⟩ := T0h.out wr K n t ht
              have hU := hA n t ht
              obtain ⟨aa, ac, hav⟩ := hU.form
              rw [hav] at t1 hU
              have K2 : Kept0 w (wr.alloc (.cells #[.string t.name, .slice aa t.args.length ac] 102)) := K.alloc _
              have R2 := Ra.alloc (.cells #[.string t.name, .slice aa t.args.length ac] 102)
              have Rm2 : Rm (wr.alloc (.cells #[.string t.name, .slice aa t.args.length ac] 102)) rb E.length l.length (Cc.cna E) (Cc.evs (l.take n) 0) := by
                obtain ⟨g, q1, q2⟩ := Rm1
                exact ⟨g, q1.alloc _, q2⟩
              rw [← Cc.pre_zero l n t] at R2 Rm2
              have HT : Hid (l[n]? = some t) := ht
              clear ht
              go_wp2_with fail
              have ht := HT.out
              clear HT
              generalize wr.alloc (.cells #[.string t.name, .slice aa t.args.length ac] 102) = w6 at *
              clear t0 t1 Ra Rm1 K hav
              go_loopw [80] (fun t80 W => ∃ k : Nat, k ≤ t.args.length ∧ t80 = .int .i64 (k : Int) ∧ W.rowIs (rb + 1) 110 l.length (slD rb (Cc.cna E) (Cc.pre l n t k)) ∧ Rm W rb E.length l.length (Cc.cna E) (Cc.pre l n t k) ∧ Kept0 w W) (fun t80 _ => t.args.length - (intOf t80).toNat)
              case atStart => exact ⟨0, by omega, rfl, R2, Rm2, K2⟩
              case round =>
                clear R2 Rm2 K2
                obtain ⟨k, hk, rfl, Ra, Rm1, K⟩ := hrel
                by_cases hk2 : k < t.args.length
                · have dk : decide ((k : Int) < (t.args.length : Int)) = true := decide_eq_true (by omega)
                  have hka : t.args[k]? = some t.args[k] := List.getElem?_eq_getElem hk2
                  obtain ⟨b, off, cap, hv, _, hc⟩ := hU.cell (SS wr K) hka
                  injection hv with e1 e2 e3
                  clear e2
                  subst e1 e3
                  have ck := hc k _ hka
                  clear hc
                  have hlt := hb.args n t ht _ (List.getElem_mem hk2)
                  have hk4 : t.args.length ≤ 4 := h4 t (List.mem_of_getElem? ht)
                  generalize t.args[k] = xa at *
                  have hle : ∀ i, Cc.cna (Cc.pre l n t k) i ≤ Cc.cna E i := fun i => by rw [← hEh.out]; exact Cc.pre_cna ht k i
                  have hlt2 : Cc.cna (Cc.pre l n t k) xa < Cc.cna E xa := by
                    have := Cc.pre_cna ht (k + 1) xa
                    rw [Cc.pre_step hka, Cc.cna_snoc, if_pos rfl, hEh.out] at this
                    omega
                  have hom := Cc.offs_mono (Cc.cna E) hlt
                  rw [hall] at hom
                  have Rm3 := Rm1.step (n := n) hlt2 hle
                  rw [← Cc.pre_step hka] at Rm3
                  have ca := Ra.cell (i := xa) hlt
                  have fa := Ra.frozen xa
                  have hsl : slD rb (Cc.cna E) (Cc.pre l n t k) xa = .slice (some ⟨rb, Cc.offs (Cc.cna E) xa, none⟩) (Cc.cna (Cc.pre l n t k) xa) (Cc.cna E xa) := by unfold slD; rw [if_neg (by omega)]
                  have hsl2 : slD rb (Cc.cna E) (Cc.pre l n t (k + 1)) xa = .slice (some ⟨rb, Cc.offs (Cc.cna E) xa, none⟩) (Cc.cna (Cc.pre l n t k) xa + 1) (Cc.cna E xa) := by unfold slD; rw [if_neg (by omega), Cc.pre_step hka, Cc.cna_snoc, if_pos rfl]
                  have hso : ∀ i, i ≠ xa → slD rb (Cc.cna E) (Cc.pre l n t (k + 1)) i = slD rb (Cc.cna E) (Cc.pre l n t k) i := fun i hi => by unfold slD; rw [Cc.pre_step hka, Cc.cna_snoc, if_neg hi]
                  rw [hsl] at ca
                  obtain ⟨g, Rg, hg⟩ := Rm1
                  have hxl : Cc.offs (Cc.cna E) xa + Cc.cna (Cc.pre l n t k) xa < E.length := by omega
                  have cr : ∀ O, (wr.alloc O).cell? ⟨rb, Cc.offs (Cc.cna E) xa + Cc.cna (Cc.pre l n t k) xa, none⟩ = some (g (Cc.offs (Cc.cna E) xa + Cc.cna (Cc.pre l n t k) xa)) ∧ (wr.alloc O).frozen? ⟨rb, Cc.offs (Cc.cna E) xa + Cc.cna (Cc.pre l n t k) xa, none⟩ = false := fun O => by
                    have := Rg.alloc O
                    exact ⟨this.cell hxl, this.frozen _⟩
                  have FIN : Hid (∀ O, ((((wr.alloc O).setCell ⟨rb, Cc.offs (Cc.cna E) xa + Cc.cna (Cc.pre l n t k) xa, none⟩ (.int .i64 (n : Int))).setCell ⟨rb + 1, xa, none⟩ (.slice (some ⟨rb, Cc.offs (Cc.cna E) xa, none⟩) (Cc.cna (Cc.pre l n t k) xa + 1) (Cc.cna E xa))).rowIs (rb + 1) 110 l.length (slD rb (Cc.cna E) (Cc.pre l n t (k + 1)))) ∧ Rm (((wr.alloc O).setCell ⟨rb, Cc.offs (Cc.cna E) xa + Cc.cna (Cc.pre l n t k) xa, none⟩ (.int .i64 (n : Int))).setCell ⟨rb + 1, xa, none⟩ (.slice (some ⟨rb, Cc.offs (Cc.cna E) xa, none⟩) (Cc.cna (Cc.pre l n t k) xa + 1) (Cc.cna E xa))) rb E.length l.length (Cc.cna E) (Cc.pre l n t (k + 1)) ∧ Kept0 w (((wr.alloc O).setCell ⟨rb, Cc.offs (Cc.cna E) xa + Cc.cna (Cc.pre l n t k) xa, none⟩ (.int .i64 (n : Int))).setCell ⟨rb + 1, xa, none⟩ (.slice (some ⟨rb, Cc.offs (Cc.cna E) xa, none⟩) (Cc.cna (Cc.pre l n t k) xa + 1) (Cc.cna E xa)))) := fun O => by
                    obtain ⟨h1, h2⟩ := HC.out
                    refine ⟨?_, ?_, ?_⟩
                    · refine (((Ra.alloc O).setOther (a := ⟨rb, Cc.offs (Cc.cna E) xa + Cc.cna (Cc.pre l n t k) xa, none⟩) (show rb + 1 ≠ rb by omega) (.int .i64 (n : Int))).set xa _).congr (fun i hi => ?_)
                      by_cases e : i = xa
                      · rw [if_pos e, e, hsl2]
                      · rw [if_neg e, hso i e]
                    · have := Rm.step (W := wr.alloc O) (n := n) (⟨g, Rg.alloc O, hg⟩ : Rm (wr.alloc O) rb E.length l.length (Cc.cna E) (Cc.pre l n t k)) hlt2 hle
                      rw [← Cc.pre_step hka] at this
                      obtain ⟨g', q1, q2⟩ := this
                      exact ⟨g', q1.setOther (a := ⟨rb + 1, xa, none⟩) (show rb ≠ rb + 1 by omega) _, q2⟩
                    · exact Kept.setNew (Kept.setNew (K.alloc O) (by omega) _) (by omega) _
                  have ca' : ∀ O, ((wr.alloc O).setCell ⟨rb, Cc.offs (Cc.cna E) xa + Cc.cna (Cc.pre l n t k) xa, none⟩ (.int .i64 (n : Int))).cell? ⟨rb + 1, xa, none⟩ = some (.slice (some ⟨rb, Cc.offs (Cc.cna E) xa, none⟩) (Cc.cna (Cc.pre l n t k) xa) (Cc.cna E xa)) ∧ ((wr.alloc O).setCell ⟨rb, Cc.offs (Cc.cna E) xa + Cc.cna (Cc.pre l n t k) xa, none⟩ (.int .i64 (n : Int))).frozen? ⟨rb + 1, xa, none⟩ = false := fun O => by
                    have q := (Ra.alloc O).setOther (a := ⟨rb, Cc.offs (Cc.cna E) xa + Cc.cna (Cc.pre l n t k) xa, none⟩) (show rb + 1 ≠ rb by omega) (.int .i64 (n : Int))
                    exact ⟨by rw [q.cell hlt, hsl], q.frozen _⟩
                  have HT : Hid (l[n]? = some t ∧ t.args[k]? = some xa) := ⟨ht, hka⟩
                  obtain ⟨i0, hi0, hz0, hz1, hz2⟩ := info_parts infoIntK
                  clear ht hka Ra Rg hg hsl hsl2 hso K Rm3 hle hU hA hS SS hR T0h hb hall h4
                  generalize Cc.cna E xa = cE at *
                  generalize Cc.offs (Cc.cna E) xa = oE at *
                  generalize Cc.cna (Cc.pre l n t k) xa = cd at *
                  obtain ⟨q1, q2⟩ := ca' (.cells #[.int .i64 (n : Int)] 3)
                  obtain ⟨q3, q4⟩ := cr (.cells #[.int .i64 (n : Int)] 3)
                  have hroom : cd + 1 ≤ cE := by omega
                  clear cr ca' hi0 hz0 hz1 hz2
                  go_wp2_with fail
                  obtain ⟨f1, f2, f3⟩ := FIN.out (.cells #[.int .i64 (n : Int)] 3)
                  exact ⟨⟨k + 1, hk2, by simp, f1, f2, f3⟩, by simp [intOf]; omega⟩
                · have dk : decide ((k : Int) < (t.args.length : Int)) = false := decide_eq_false (by omega)
                  obtain rfl : k = t.args.length := by omega
                  rw [Cc.pre_all ht] at Ra Rm1
                  have HT : Hid (l[n]? = some t) := ht
                  clear ht
                  go_wp2_with fail
                  exact ⟨⟨n + 1, by omega, by simp, Ra, Rm1, K⟩, by simp [intOf]; omega⟩
            · have dn : decide ((n : Int) < (l.length : Int)) = false := decide_eq_false (by omega)
              obtain rfl : n = l.length := by omega
              rw [Cc.evs_all] at Ra Rm1
              go_wp2_with fail
              go_ret
              obtain ⟨h1, h2⟩ := HC.out
              have hE := hEh.out
              rw [hE] at Ra Rm1
              rw [← hE] at Ra Rm1 hall
              obtain ⟨uv, st2, F⟩ := Fu.made Ra Rm1 hall K (by omega)
              exact ⟨_, uv, st2, rfl, F⟩

end Go.Proofs.YtlehlgipbhfioaaGreat

namespace Go.Proofs.YtlehlgipbhfioaaGreat
open Go.RowKit Go.Maps

theorem g0_lo : Uf.g0.lo = id := rfl

/-- What is known of the first k terms. -/
def Kn (l : List Tm) (k : Nat) (kn : Tm → Option Nat) : Prop := ∀ (s : Tm) (m : Nat), kn s = some m ↔ m < k ∧ ∃ t, l[m]? = some t ∧ Cc.sg id t = s
theorem Kn.step {l : List Tm} {k : Nat} {kn : Tm → Option Nat} (h : Kn l k kn) (hb : Cc.Bd l) {t : Tm} (ht : l[k]? = some t) : Kn l (k + 1) (fun u => if u = Cc.sg id t then some k else kn u) := by
  intro s m
  by_cases e : s = Cc.sg id t
  · subst e
    simp only [if_true]
    constructor
    · intro x
      cases x
      exact ⟨by omega, t, ht, rfl⟩
    · rintro ⟨_, u, hu, he⟩
      rw [Cc.sg_inj hb hu ht he]
  · simp only [e, if_false]
    rw [h s m]
    constructor
    · rintro ⟨h1, h2⟩
      exact ⟨by omega, h2⟩
    · rintro ⟨h1, u, hu, he⟩
      refine ⟨?_, u, hu, he⟩
      by_cases em : m = k
      · subst em
        rw [ht] at hu
        cases hu
        exact absurd he.symm e
      · omega

/-- The classes as they are made. -/
def z0 (l : List Tm) (pk ps nb tb ub mb : Nat) (av uv : Nat → Value) (st : List (Nat × Obj)) (kn : Tm → Option Nat) (ms : Nat) : Zs :=
  { pk := pk, ps := ps, nb := nb, tb := tb, ub := ub, mb := mb, jv := .slice none 0 0, bv := .slice none 0 0, av := av, uv := uv, g := Uf.g0, t := [], bs := [], st := st, us := fun i => Cc.usf (Cc.evs l 0) i, kn := kn, ms := ms }

theorem Cz.made {w w1 w2 : World} {base : Nat} {l : List Tm} {tb : Nat} {av : Nat → Value} {st : List (Nat × Obj)} (hR : w.rowIs tb 102 (l.length * 2) (termC l av)) (hS : Sat st w) (hA : ∀ (i : Nat) (t : Tm), l[i]? = some t → UseIs st (av i) t.args) (hb : Cc.Bd l) (hok : ∀ t ∈ l, t.ok) (hl : l.length ≤ 150)
    (hbase : base ≤ w.heap.size) (htb : base ≤ tb) (hst : ∀ x ∈ st, base ≤ x.1) (hsl : ∀ x ∈ st, x.1 < w.heap.size)
    (S1 : St w1 w.heap.size (w.heap.size + 1) w.heap.size (.slice none 0 0) l.length Uf.g0 []) (B1 : Below w.heap.size w w1) {ub : Nat} {uv : Nat → Value} {st2 : List (Nat × Obj)} (F : Fu w1 w2 ub l uv st2) :
    Cz ((w2.alloc (.map #[] 0)).alloc (.cells #[.pointer (some ⟨w.heap.size + 1, 0, none⟩), .slice (some ⟨tb, 0, none⟩) l.length l.length, .slice (some ⟨ub, 0, none⟩) l.length l.length, .map (some w2.heap.size), .slice none 0 0] 71)) base l
      (z0 l (w2.heap.size + 1) (w.heap.size + 1) w.heap.size tb ub w2.heap.size av uv (st ++ st2) (fun _ => none) 0) := by
  have k2 := F.kept
  have s1 := B1.size
  have s2 := k2.size
  have hlt1 : w.heap.size + 1 < w1.heap.size := S1.lies.sets.lt
  have hs : (w2.alloc (.map #[] 0)).heap.size = w2.heap.size + 1 := by simp
  have K4 : Kept0 w2 ((w2.alloc (.map #[] 0)).alloc (.cells #[.pointer (some ⟨w.heap.size + 1, 0, none⟩), .slice (some ⟨tb, 0, none⟩) l.length l.length, .slice (some ⟨ub, 0, none⟩) l.length l.length, .map (some w2.heap.size), .slice none 0 0] 71)) := Kept.alloc (Kept.alloc (Kept.refl _ w2) _) _
  have hlw : tb < w.heap.size := hR.lt
  have lub := F.ub
  have rub := F.row.lt
  refine ⟨?_, ?_, ?_, F.row.of_block (K4.block _ rub (fun e => e)), ?_, World.ownsRow_nil _ _ _ _, ?_, ?_, fun i t ht => (hA i t ht).mono (fun x hx => List.mem_append_left _ hx), fun i hi => (F.uses i hi).mono (fun x hx => List.mem_append_right _ hx), hb, hok, hl, ?_, htb, ?_, ?_⟩
  · have r := made_row (w2.alloc (.map #[] 0)) #[.pointer (some ⟨w.heap.size + 1, 0, none⟩), .slice (some ⟨tb, 0, none⟩) l.length l.length, .slice (some ⟨ub, 0, none⟩) l.length l.length, .map (some w2.heap.size), .slice none 0 0] 71
    rw [hs] at r
    refine r.congr (fun j hj => ?_)
    have hj' : j < 5 := hj
    rcases (by omega : j = 0 ∨ j = 1 ∨ j = 2 ∨ j = 3 ∨ j = 4) with rfl | rfl | rfl | rfl | rfl <;> rfl
  · have S2 := (S1.other F.kept (fun e => e) (fun e => e) (fun _ _ e => e)).other K4 (fun e => e) (fun e => e) (fun _ _ e => e)
    have L := S2.lies
    exact ⟨⟨L.sets, L.nodes, World.ownsRow_nil _ _ _ _, L.ne, L.jp, L.jn, by show base ≤ w.heap.size + 1; omega, hbase, L.small⟩, S2.hist, by have := K4.size; omega⟩
  · exact ((hR.of_block (B1.block _ hlw)).of_block (k2.block _ (by omega) (fun e => e))).of_block (K4.block _ (by omega) (fun e => e))
  · have m1 := World.ownsMap_made (H := Unit) w2 Tryz.prog 98 (plainElem Tryz.prog 3)
    exact ⟨.map [], mapIs_of (m1.alloc _), Nat.zero_le _, fun s _ => ⟨rfl, rfl⟩⟩
  · intro x hx
    rcases List.mem_append.1 hx with hx | hx
    · have := hsl x hx
      exact (K4.block _ (by omega) (fun e => e)).trans ((k2.block _ (by omega) (fun e => e)).trans ((B1.block _ this).trans (hS x hx)))
    · have := (Array.getElem?_eq_some_iff.1 (F.sat x hx)).1
      exact (K4.block _ this (fun e => e)).trans (F.sat x hx)
  · intro x hx
    rcases List.mem_append.1 hx with hx | hx
    · have := hsl x hx
      refine ⟨hst x hx, ?_⟩
      rintro (e | (e | e | e) | e | e | e)
      · have e' : x.1 = w2.heap.size + 1 := e; omega
      · have e' : x.1 = w.heap.size + 1 := e; omega
      · have e' : x.1 = w.heap.size := e; omega
      · simp [z0, Value.ownBlock] at e
      · have e' : x.1 = ub := e; omega
      · have e' : x.1 = w2.heap.size := e; omega
      · simp [z0, Value.ownBlock] at e
    · have h1 := F.far x hx
      have h2 := (Array.getElem?_eq_some_iff.1 (F.sat x hx)).1
      refine ⟨by omega, ?_⟩
      rintro (e | (e | e | e) | e | e | e)
      · have e' : x.1 = w2.heap.size + 1 := e; omega
      · have e' : x.1 = w.heap.size + 1 := e; omega
      · have e' : x.1 = w.heap.size := e; omega
      · simp [z0, Value.ownBlock] at e
      · exact h1.2 e
      · have e' : x.1 = w2.heap.size := e; omega
      · simp [z0, Value.ownBlock] at e
  · show base ≤ w2.heap.size + 1; omega
  · show base ≤ ub; omega
  · show base ≤ w2.heap.size; omega

end Go.Proofs.YtlehlgipbhfioaaGreat

namespace Go.Proofs.YtlehlgipbhfioaaGreat
open Go.RowKit Go.Maps

set_option maxHeartbeats 2000000 in
set_option maxRecDepth 100000 in
theorem newC_in (w : World) (base : Nat) (l : List Tm) (tb : Nat) (av : Nat → Value) (st : List (Nat × Obj)) (hR : w.rowIs tb 102 (l.length * 2) (termC l av)) (hS : Sat st w) (hA : ∀ (i : Nat) (t : Tm), l[i]? = some t → UseIs st (av i) t.args) (hb : Cc.Bd l) (hok : ∀ t ∈ l, t.ok) (hl : l.length ≤ 150)
    (hbase : base ≤ w.heap.size) (htb : base ≤ tb) (hst : ∀ x ∈ st, base ≤ x.1) :
    Calls Tryz.prog 15 #[.slice (some ⟨tb, 0, none⟩) l.length l.length] w fun e w' => ∃ z : Zs, e = .returned (.pointer (some ⟨z.pk, 0, none⟩)) ∧ Un w' base l z [] [] [] ∧ Kept0 w w' ∧ w.heap.size ≤ z.pk ∧ (∀ k, z.All k → base ≤ k) := by
  have hsl : ∀ x ∈ st, x.1 < w.heap.size := fun x hx => (Array.getElem?_eq_some_iff.1 (hS x hx)).1
  have NEW := New_st w l.length (by omega)
  have FIR : ∀ w1, Below w.heap.size w w1 → Calls Tryz.prog 33 #[.slice (some ⟨tb, 0, none⟩) l.length l.length] w1 fun e w' => ∃ ub uv st2, e = .returned (.slice (some ⟨ub, 0, none⟩) l.length l.length) ∧ Fu w1 w' ub l uv st2 := fun w1 B1 =>
    first_in w1 l tb av st (hR.of_block (B1.block _ hR.lt)) (fun x hx => (B1.block _ (hsl x hx)).trans (hS x hx)) hA hb hl
  have hmm := @run_makeMap Tryz.prog
  go_enter Tryz.func15, Tryz.ntmps15
  go_wp2_with (first | (go_at_call 32; refine NEW.mono ?_; rintro e w1 ⟨rfl, S1, B1⟩; have FI := FIR w1 B1) | (go_at_call 33; refine FI.mono ?_; rintro e w2 ⟨ub, uv, st2, rfl, F⟩))
  have C0 := Cz.made hR hS hA hb hok hl hbase htb hst hsl S1 B1 F
  have K0 : Kept0 w ((w2.alloc (.map #[] 0)).alloc (.cells #[.pointer (some ⟨w.heap.size + 1, 0, none⟩), .slice (some ⟨tb, 0, none⟩) l.length l.length, .slice (some ⟨ub, 0, none⟩) l.length l.length, .map (some w2.heap.size), .slice none 0 0] 71)) := Kept.alloc (Kept.alloc ((below_kept0 B1).trans F.kept) _) _
  have hs2 : w.heap.size ≤ w2.heap.size := ((below_kept0 B1).trans F.kept).size
  clear NEW FIR FI hmm S1 B1 F
  generalize (w2.alloc (.map #[] 0)).alloc (.cells #[.pointer (some ⟨w.heap.size + 1, 0, none⟩), .slice (some ⟨tb, 0, none⟩) l.length l.length, .slice (some ⟨ub, 0, none⟩) l.length l.length, .map (some w2.heap.size), .slice none 0 0] 71) = w4 at *
  generalize w2.heap.size = mb at *
  go_loopw [16] (fun t16 W => ∃ (k : Nat) (kn : Tm → Option Nat), k ≤ l.length ∧ t16 = .int .i64 (k : Int) ∧ Cz W base l (z0 l (mb + 1) (w.heap.size + 1) w.heap.size tb ub mb av uv (st ++ st2) kn k) ∧ Hid (Kn l k kn) ∧ Kept0 w W) (fun t16 _ => l.length - (intOf t16).toNat)
  case atStart => exact ⟨0, fun _ => none, by omega, rfl, C0, fun s m => by simp, K0⟩
  case round =>
    clear C0 K0
    obtain ⟨k, kn, hk, rfl, C, hkn, K⟩ := hrel
    by_cases hk2 : k < l.length
    · have dk : decide ((k : Int) < (l.length : Int)) = true := decide_eq_true (by omega)
      have ht : l[k]? = some l[k] := List.getElem?_eq_getElem hk2
      generalize hlk : l[k] = t at ht
      clear hlk
      have hsk : Sk (Cc.sg Uf.g0.lo t) := sg_sk hb (lo := Uf.g0.lo) (fun i _ => Nat.le_refl _) (by omega) ht (hok t (List.mem_of_getElem? ht))
      have c3 : wr.cell? ⟨mb + 1, 3, none⟩ = some (.map (some mb)) := C.k3
      have stay : ∀ W, Kept0 wr W → W.cell? ⟨mb + 1, 3, none⟩ = some (.map (some mb)) := fun W KW => (C.kept0 KW).k3
      have hV : sigV (Cc.sg Uf.g0.lo t) = .agg #[.string (Cc.sg Uf.g0.lo t).name, .int .i64 ((Cc.sg Uf.g0.lo t).arg 0 : Int), .int .i64 ((Cc.sg Uf.g0.lo t).arg 1 : Int), .int .i64 ((Cc.sg Uf.g0.lo t).arg 2 : Int), .int .i64 ((Cc.sg Uf.g0.lo t).arg 3 : Int)] := rfl
      have SG : ∀ W, Kept0 wr W → Calls Tryz.prog 34 #[.pointer (some ⟨mb + 1, 0, none⟩), .int .i64 (k : Int)] W fun e w' => e = .returned (.agg #[.string (Cc.sg Uf.g0.lo t).name, .int .i64 ((Cc.sg Uf.g0.lo t).arg 0 : Int), .int .i64 ((Cc.sg Uf.g0.lo t).arg 1 : Int), .int .i64 ((Cc.sg Uf.g0.lo t).arg 2 : Int), .int .i64 ((Cc.sg Uf.g0.lo t).arg 3 : Int)]) ∧ Kept0 W w' := fun W KW => sig_in W base l _ (C.kept0 KW) k t ht
      have STO : ∀ W, Kept0 wr W → ∃ w', (Instr.mapUpdate 68 (.map (some mb)) (.agg #[.string (Cc.sg Uf.g0.lo t).name, .int .i64 ((Cc.sg Uf.g0.lo t).arg 0 : Int), .int .i64 ((Cc.sg Uf.g0.lo t).arg 1 : Int), .int .i64 ((Cc.sg Uf.g0.lo t).arg 2 : Int), .int .i64 ((Cc.sg Uf.g0.lo t).arg 3 : Int)]) (.int .i64 (k : Int))).run Tryz.prog W = .ok () w' ∧ Cz w' base l (z0 l (mb + 1) (w.heap.size + 1) w.heap.size tb ub mb av uv (st ++ st2) (fun u => if u = Cc.sg Uf.g0.lo t then some k else kn u) (k + 1)) ∧ Kept1 mb W w' := fun W KW => (C.kept0 KW).store hsk (n := k) (by omega) (show k < 1000000 by omega)
      have HH : Hid (_ ∧ _ ∧ _) := ⟨ht, C, K⟩
      clear ht C K hR hS hA hst hsl hV hsk
      generalize hsE : Cc.sg Uf.g0.lo t = s at *
      have HSE : Hid (Cc.sg Uf.g0.lo t = s) := hsE
      clear hsE
      go_wp2_with fail
      go_region_held3 (fun W => W.cell? ⟨mb + 1, 3, none⟩ = some (.map (some mb))) (first | assumption | exact stay _ (by first | assumption | exact (Kept.refl _ _).drew)) (first | (go_at_call 34; refine (SG _ (by first | assumption | exact (Kept.refl _ _).drew)).mono ?_; rintro e w5 ⟨rfl, K5⟩; have KS : Kept0 wr w5 := Kept.trans (by first | assumption | exact (Kept.refl _ _).drew) K5; obtain ⟨w6, hr6, C6, K6⟩ := STO w5 KS; have s6 : w6.cell? ⟨mb + 1, 3, none⟩ = some (.map (some mb)) := C6.k3))
      all_goals
        clear SG STO stay hr6 s6
        go_wp2_with fail
        obtain ⟨ht, _, K⟩ := HH.out
        have hkn' := Kn.step hkn.out hb ht
        rw [← g0_lo, HSE.out] at hkn'
        exact ⟨⟨k + 1, _, hk2, by simp, C6, hkn', (K.trans KS).into K6 (fun i hi => .inr (by omega))⟩, by simp [intOf]; omega⟩
    · have dk : decide ((k : Int) < (l.length : Int)) = false := decide_eq_false (by omega)
      obtain rfl : k = l.length := by omega
      go_wp2_with fail
      go_ret
      refine ⟨_, rfl, ⟨C, ?_, by simp [z0], by simp [z0], by simp, Nat.le_trans hbase K.size⟩, K, by show w.heap.size ≤ mb + 1; omega, fun k hk => C.all_ge hk⟩
      have hI : Cc.Inv l [] id (fun i => Cc.usf (Cc.evs l 0) i) kn [] [] := Cc.Inv.start hb (fun r _ n => Cc.usf_uc l r n) (fun s m => by
        rw [hkn.out s m]
        exact ⟨fun x => x.2, fun x => ⟨by obtain ⟨t, ht, _⟩ := x; exact (List.getElem?_eq_some_iff.1 ht).1, x⟩⟩)
      exact hI

end Go.Proofs.YtlehlgipbhfioaaGreat

namespace Go.Proofs.YtlehlgipbhfioaaGreat
open Go.RowKit Go.Maps

theorem infoPair : (Tryz.prog.info? 34).map (fun i => (i.zero, i.size, i.bytes)) = some (some (.agg #[.int .i64 0, .int .i64 0]), 2, 16) := by kernel_rfl
theorem joinC_len (js : List (Nat × Nat)) : (joinC js).length = js.length * 2 := by
  induction js with
  | nil => rfl
  | cons x js ih => simp [joinC] at ih ⊢; omega
theorem joinC_app (a b : List (Nat × Nat)) : joinC (a ++ b) = joinC a ++ joinC b := by simp [joinC]

/-- What is to do, in memory. -/
structure Td (W : World) (B : Nat) (z : Zs) (v : Value) (todo : List (Nat × Nat)) : Prop where
  row : W.ownsRow B 34 2 v todo.length (joinC todo)
  far : ∀ k, v.ownBlock = some k → ¬ z.All k

theorem Td.went {l : List Tm} {W W' : World} {B : Nat} {z z' : Zs} {v : Value} {todo : List (Nat × Nat)} (h : Td W B z v todo) (g : Went l W W' z z') : Td W' B z' v todo := by
  refine ⟨ownsRow_blockC h.row (fun k hk => g.kept.block k (h.row.lt k hk).2 (fun e => h.far k hk (.inl e))), fun k hk hA => ?_⟩
  rcases g.grows.all hA with e | e
  · exact h.far k hk e
  · have := (h.row.lt k hk).2; omega
theorem Td.kept0 {W W' : World} {B : Nat} {z : Zs} {v : Value} {todo : List (Nat × Nat)} (h : Td W B z v todo) (K : Kept0 W W') : Td W' B z v todo :=
  ⟨h.row.kept K.grownBy (Decidable.em _), h.far⟩

/-- The last one of what is to do. -/
theorem Td.last {W : World} {B : Nat} {z : Zs} {v : Value} {rest : List (Nat × Nat)} {p : Nat × Nat} (h : Td W B z v (rest ++ [p])) :
    ∃ g cap, v = .slice (some ⟨g, 0, none⟩) (rest.length + 1) cap ∧ rest.length + 1 ≤ cap ∧ W.cell? ⟨g, rest.length * 2, none⟩ = some (.int .i64 (p.1 : Int)) ∧ W.cell? ⟨g, rest.length * 2 + 1, none⟩ = some (.int .i64 (p.2 : Int)) ∧ Td W B z (.slice (some ⟨g, 0, none⟩) rest.length cap) rest := by
  have hr := h.row
  rw [List.length_append, List.length_singleton, joinC_app] at hr
  obtain ⟨g, cap, hv⟩ := ownsRow_succ hr
  subst hv
  have hcap : rest.length + 1 ≤ cap := by
    rcases hr.2 with ⟨e, _⟩ | ⟨g', cap', cur, e, _, _, hnc, _⟩
    · cases e
    · cases e; exact hnc
  have c0 := hr.cellAt (rest.length * 2) (by omega)
  have c1 := hr.cellAt (rest.length * 2 + 1) (by omega)
  rw [List.getElem?_append_right (by rw [joinC_len]; omega), joinC_len] at c0 c1
  refine ⟨g, cap, rfl, hcap, by simpa [joinC] using c0, by simpa [joinC] using c1, ⟨ownsRow_pop (joinC_len rest) hr, fun k hk => h.far k (by simpa [Value.ownBlock] using hk)⟩⟩

theorem Chain.st {l : List Tm} {a b : Zs} (h : Chain l a b) : ∀ x ∈ a.st, x ∈ b.st := by
  induction h with
  | refl => exact fun x hx => hx
  | like n s bc bx v _ _ _ ih => exact fun x hx => List.mem_append_left _ (ih x hx)
  | join low high bc bm bo bl jv st2 v bv _ _ _ _ ih => exact fun x hx => List.mem_append_left _ (List.mem_append_left _ (ih x hx))
theorem Went.keep {l : List Tm} {w W W' : World} {z z' : Zs} (h : Went l w W z z') {S : Nat → Prop} (K : Kept S W W') (hS : ∀ k, S k → w.heap.size ≤ k) : Went l w W' z z' :=
  ⟨h.kept.into K (fun k hk => .inr (hS k hk)), h.grows, h.chain⟩

/-- One more is to do. -/
theorem Td.push {w W W' : World} {base : Nat} {l : List Tm} {z z' : Zs} {P td : List (Nat × Nat)} {pend : List Nat} {v v' : Value} {n m : Nat} (h : Td W w.heap.size z' v td) (U : Un W base l z' P (td ++ [(n, m)]) pend) (G : Went l w W z z') (O : Obj)
    (hown : W'.ownsRow w.heap.size 34 2 v' (td.length + 1) (joinC td ++ [.int .i64 (n : Int), .int .i64 (m : Int)])) (hgrow : (W.alloc O).grownBy W' v.ownBlock) (hloc : v'.ownBlock = v.ownBlock ∨ ∀ k, v'.ownBlock = some k → (W.alloc O).heap.size ≤ k) :
    Td W' w.heap.size z' v' (td ++ [(n, m)]) ∧ Un W' base l z' P (td ++ [(n, m)]) pend ∧ Went l w W' z z' := by
  have K : Kept (fun k => v.ownBlock = some k) W W' := Kept.grown ((Kept.refl _ W).alloc O) hgrow (fun _ e => e)
  refine ⟨⟨?_, fun k hk hA => ?_⟩, U.keep K (fun k hA e => h.far k e hA), G.keep K (fun k hk => (h.row.lt k hk).1)⟩
  · rw [joinC_snoc, List.length_append]
    exact hown
  · rcases hloc with e | e
    · exact h.far k (e ▸ hk) hA
    · have h1 := e k hk
      have h2 := U.cz.all_lt hA
      simp at h1
      omega

set_option maxHeartbeats 4000000 in
set_option maxRecDepth 100000 in
theorem unite_in (w : World) (base : Nat) (l : List Tm) (z : Zs) (P : List (Nat × Nat)) (a b : Nat) (h : Un w base l z P [(a, b)] []) :
    Calls Tryz.prog 19 #[.pointer (some ⟨z.pk, 0, none⟩), .agg #[.int .i64 (a : Int), .int .i64 (b : Int)]] w fun e w' => e = .returned (.tuple #[]) ∧ ∃ z' : Zs, Un w' base l z' P [] [] ∧ Went l w w' z z' := by
  have K1 : Kept0 w ((w.alloc (.cells #[.int .i64 (a : Int), .int .i64 (b : Int)] 34)).alloc (.cells #[.int .i64 (a : Int), .int .i64 (b : Int)] 34)) := Kept.alloc (Kept.alloc (Kept.refl _ w) _) _
  have hs1 : (w.alloc (.cells #[.int .i64 (a : Int), .int .i64 (b : Int)] 34)).heap.size = w.heap.size + 1 := by simp
  have T1 : Td ((w.alloc (.cells #[.int .i64 (a : Int), .int .i64 (b : Int)] 34)).alloc (.cells #[.int .i64 (a : Int), .int .i64 (b : Int)] 34)) w.heap.size z (.slice (some ⟨w.heap.size + 1, 0, none⟩) 1 1) [(a, b)] := by
    refine ⟨?_, fun k hk hA => ?_⟩
    · rw [← hs1]
      exact World.ownsRow_lit _ #[.int .i64 (a : Int), .int .i64 (b : Int)] 1 (by rw [hs1]; omega) (by decide) rfl
    · simp [Value.ownBlock] at hk
      have := h.cz.all_lt hA
      omega
  have hlen := h.cz.len
  go_enter Tryz.func19, Tryz.ntmps19
  go_wp2_with fail
  generalize (w.alloc (.cells #[.int .i64 (a : Int), .int .i64 (b : Int)] 34)).alloc (.cells #[.int .i64 (a : Int), .int .i64 (b : Int)] 34) = w1 at *
  have U1 := h.kept0 K1
  have W1 : Went l w w1 z z := Went.refl l z K1
  go_loopg [4] ((l.length - z.t.length) * (4 * l.length + 1) + 1) (fun k v W => ∃ (z' : Zs) (todo : List (Nat × Nat)), Hid (k = (l.length - z'.t.length) * (4 * l.length + 1) + todo.length) ∧ Td W w.heap.size z' v todo ∧ Un W base l z' P todo [] ∧ Went l w W z z')
  case atStart => exact ⟨z, [(a, b)], rfl, T1, U1, W1⟩
  case round =>
    clear T1 U1 W1 K1
    obtain ⟨z', todo, hk, T, U, G⟩ := hrel
    rcases List.eq_nil_or_concat todo with rfl | ⟨rest, p, rfl⟩
    · obtain ⟨va, vc, hv⟩ := row_form' T.row
      subst hv
      go_wp2_with fail
      go_end0
      exact ⟨rfl, z', U, G⟩
    · rw [List.concat_eq_append] at hk T U
      obtain ⟨g, cap, hv, hcap, c0, c1, T2⟩ := T.last
      subst hv
      have hpk : z'.pk = z.pk := G.grows.pk
      have hin := U.inv.inr p (by simp)
      have htd := U.td
      obtain ⟨b1, b2⟩ := U.bound
      simp only [List.length_append, List.length_cons, List.length_nil] at htd
      have dk : decide ((0 : Int) < (rest.length : Int) + 1) = true := decide_eq_true (by omega)
      have K2 : Kept0 wr (wr.alloc (.cells #[.int .i64 (p.1 : Int), .int .i64 (p.2 : Int)] 34)) := Kept.alloc (Kept.refl _ wr) _
      have R2 := made_row wr #[.int .i64 (p.1 : Int), .int .i64 (p.2 : Int)] 34
      go_wp2_with fail
      clear c0 c1 T
      have T3 := T2.kept0 K2
      have U3 := U.kept0 K2
      have G3 := G.trans (Went.refl l z' K2)
      clear T2 U G
      generalize wr.alloc (.cells #[.int .i64 (p.1 : Int), .int .i64 (p.2 : Int)] 34) = w3 at *
      generalize wr.heap.size = b6 at *
      have x0 : w3.cell? ⟨b6, 0, none⟩ = some (.int .i64 (p.1 : Int)) := R2.cell (i := 0) (by simp)
      have x1 : w3.cell? ⟨b6, 1, none⟩ = some (.int .i64 (p.2 : Int)) := R2.cell (i := 1) (by simp)
      have k0 := U3.cz.k0
      rw [hpk] at k0
      have LX := fun (m : Nat) (x : Nat) (hx : x < l.length) => (U3.cz.drewN m).least hx
      go_quiet ((go_at_call 38; exact Calls.quiet_of (LX _ _ (by first | exact hin.1 | exact hin.2))))
      have K4 : Kept0 w3 (w3.drewN nq) := (Kept.refl _ w3).drewN nq
      have T4 := T3.kept0 K4
      have U4 := U3.kept0 K4
      have G4 := G3.trans (Went.refl l z' K4)
      clear T3 U3 G3 LX x0 x1 k0 R2 K2 K4
      generalize w3.drewN nq = w4 at *
      by_cases hs : z'.g.lo p.1 = z'.g.lo p.2
      · have ds : ((z'.g.lo p.1 : Int) == (z'.g.lo p.2 : Int)) = true := by rw [hs]; simp
        have U5 : Un w4 base l z' P rest [] := by
          have hI : Cc.Inv l P z'.g.lo z'.us z'.kn (rest ++ [(p.1, p.2)]) [] := U4.inv
          exact ⟨U4.cz, hI.drop hs, U4.ms, U4.bs, by simp only [List.length_nil]; omega, U4.low⟩
        clear U4 hs
        go_wp2_with fail
        go_roundg ((l.length - z'.t.length) * (4 * l.length + 1) + rest.length)
        case measure => rw [hk.out]; simp
        case rel => exact ⟨z', rest, rfl, T4, U5, G4⟩
      · have ds : ((z'.g.lo p.1 : Int) == (z'.g.lo p.2 : Int)) = false := beq_eq_false_iff_ne.2 (by omega)
        by_cases hgt : z'.g.lo p.2 < z'.g.lo p.1
        · have dg : decide ((z'.g.lo p.2 : Int) < (z'.g.lo p.1 : Int)) = true := decide_eq_true (by omega)
          have JN := join_un w4 base l z' P rest p U4 p.2 p.1 _ _ (.inr rfl) rfl rfl hgt
          have hlh : z'.g.lo p.1 < l.length := by have := U4.inv.le p.1 hin.1; omega
          rw [hpk] at JN
          go_wp2_with (go_at_call 39; refine JN.mono ?_; rintro e w5 ⟨rfl, z5, U5, G5, ht5, huv5, hus5⟩; have k25 := U5.cz.k2; rw [G5.grows.pk, hpk] at k25; have uh5 := U5.cz.u hlh; obtain ⟨ua, uc, hua⟩ := UseIs.form (U5.cz.usesAt _ hlh); rw [hua] at uh5)
          have X5 : UseIs z5.st (.slice ua (z'.us (z'.g.lo p.1)).length uc) (z'.us (z'.g.lo p.1)) := by
            have := U5.cz.usesAt _ hlh
            rw [hua, hus5] at this
            exact this
          have T5 := T4.went G5
          have G6 := G4.trans G5
          have hmeas : Hid ((l.length - z5.t.length) * (4 * l.length + 1) + (4 * l.length + 1) = (l.length - z'.t.length) * (4 * l.length + 1)) := by
            have h1 := U5.tle
            have h2 : l.length - z'.t.length = (l.length - z5.t.length) + 1 := by omega
            show _ = _
            rw [h2, Nat.add_mul, Nat.one_mul]
          have hxl : (z'.us (z'.g.lo p.1)).length ≤ 4 * l.length := by
            have := U4.inv.ulen U4.cz.bd hlh (U4.inv.idem _ hin.1)
            exact this
          have hpk5 : z5.pk = z.pk := G5.grows.pk.trans hpk
          have htd5 := U5.td
          have hHk : Hid (_ = _) := hk.out
          clear JN k25 uh5 U4 T4 G4 G5 ds dg hs hgt hk hua huv5 hus5 htd dk hin hcap
          generalize z'.us (z'.g.lo p.1) = xs at *
          go_loopw [4, 60] (fun v t60 W => ∃ (j : Nat) (z6 : Zs) (td : List (Nat × Nat)), j ≤ xs.length ∧ t60 = .int .i64 (j : Int) ∧ Td W w.heap.size z6 v td ∧ Un W base l z6 P td (xs.drop j) ∧ Went l w W z z6 ∧ Hid (z6.t.length = z5.t.length) ∧ Hid (td.length = rest.length + j) ∧ UseIs z6.st (.slice ua xs.length uc) xs) (fun _ t60 _ => xs.length - (intOf t60).toNat)
          case atStart => exact ⟨0, z5, rest, by omega, rfl, T5, by simpa using U5, G6, rfl, rfl, X5⟩
          case round =>
            clear T5 U5 G6 X5
            obtain ⟨j, z6, td, hj, rfl, T6, U6, G6, ht6, hl6, X6⟩ := hrel
            obtain ⟨va, vc, hv⟩ := row_form' T6.row
            subst hv
            by_cases hj2 : j < xs.length
            · have dj : decide ((j : Int) < (xs.length : Int)) = true := decide_eq_true (by omega)
              have hxj : xs[j]? = some xs[j] := List.getElem?_eq_getElem hj2
              obtain ⟨bb, off, cap6, hv6, _, hc6⟩ := X6.cell U6.cz.sat hxj
              injection hv6 with e1 _ e3
              subst e1 e3
              have cj := hc6 j _ hxj
              clear hc6
              have hpk6 : z6.pk = z.pk := G6.grows.pk
              rw [List.drop_eq_getElem_cons hj2] at U6
              have LK := like_un wr base l z6 P td xs[j] (xs.drop (j + 1)) U6
              rw [hpk6] at LK
              have b6' := U6.bound
              have htd6 := U6.td
              obtain ⟨i0, hi0, hz0, hz1, hz2⟩ := info_parts infoPair
              generalize hxn : xs[j] = xn at *
              go_wp2_with (first | (go_at_call 40; refine LK.mono ?_; rintro e w7 ⟨m7, z7, rfl, U7, G7, ht7, huv7, hus7⟩; have T7 := T6.went G7; have hB7 : w.heap.size ≤ w7.heap.size := Nat.le_trans G6.kept.size G7.kept.size) | (at_builtin; refine wpList_append_here rfl _ _ 109 rfl w.heap.size 34 i0 _ 2 16 Tryz.underlying109 hi0 hz0 hz1 hz2 rfl (by decide) _ td.length (joinC td) rfl (T7.row.alloc _) ⟨w7.heap.size, 0, none⟩ 1 1 [.int .i64 (xn : Int), .int .i64 (m7 : Int)] rfl rfl (cell_two_news w7 0 _ _ _) (by simp [Value.oneCell']) (by unfold maxLen; omega) (by omega) (by simp; omega) ?_; intro v8 w8 hown8 hgrow8 hloc8; obtain ⟨ga, gc, hg8⟩ := row_form' hown8; subst hg8))
              obtain ⟨T8, U8, G8⟩ := T7.push U7 (G6.trans G7) _ hown8 hgrow8 hloc8
              refine ⟨⟨j + 1, z7, td ++ [(xn, m7)], by omega, by simp, T8, U8, G8, ?_, ?_, X6.mono G7.chain.st⟩, by simp [intOf]; omega⟩
              · show z7.t.length = z5.t.length
                rw [ht7]; exact ht6.out
              · show (td ++ [(xn, m7)]).length = rest.length + (j + 1)
                have := hl6.out
                simp; omega
            · have dj : decide ((j : Int) < (xs.length : Int)) = false := decide_eq_false (by omega)
              obtain rfl : j = xs.length := by omega
              rw [List.drop_length] at U6
              go_wp2_with fail
              go_roundg ((l.length - z6.t.length) * (4 * l.length + 1) + td.length)
              case measure =>
                have h1 := hHk.out
                have h2 := hmeas.out
                have h3 := hl6.out
                have h4 := ht6.out
                rw [h1, h4, h3, ← h2]
                simp
                omega
              case rel => exact ⟨z6, td, rfl, T6, U6, G6⟩
        · have dg : decide ((z'.g.lo p.2 : Int) < (z'.g.lo p.1 : Int)) = false := decide_eq_false (by omega)
          have JN := join_un w4 base l z' P rest p U4 p.1 p.2 _ _ (.inl rfl) rfl rfl (by omega)
          have hlh : z'.g.lo p.2 < l.length := by have := U4.inv.le p.2 hin.2; omega
          rw [hpk] at JN
          go_wp2_with (go_at_call 39; refine JN.mono ?_; rintro e w5 ⟨rfl, z5, U5, G5, ht5, huv5, hus5⟩; have k25 := U5.cz.k2; rw [G5.grows.pk, hpk] at k25; have uh5 := U5.cz.u hlh; obtain ⟨ua, uc, hua⟩ := UseIs.form (U5.cz.usesAt _ hlh); rw [hua] at uh5)
          have X5 : UseIs z5.st (.slice ua (z'.us (z'.g.lo p.2)).length uc) (z'.us (z'.g.lo p.2)) := by
            have := U5.cz.usesAt _ hlh
            rw [hua, hus5] at this
            exact this
          have T5 := T4.went G5
          have G6 := G4.trans G5
          have hmeas : Hid ((l.length - z5.t.length) * (4 * l.length + 1) + (4 * l.length + 1) = (l.length - z'.t.length) * (4 * l.length + 1)) := by
            have h1 := U5.tle
            have h2 : l.length - z'.t.length = (l.length - z5.t.length) + 1 := by omega
            show _ = _
            rw [h2, Nat.add_mul, Nat.one_mul]
          have hxl : (z'.us (z'.g.lo p.2)).length ≤ 4 * l.length := by
            have := U4.inv.ulen U4.cz.bd hlh (U4.inv.idem _ hin.2)
            exact this
          have hpk5 : z5.pk = z.pk := G5.grows.pk.trans hpk
          have htd5 := U5.td
          have hHk : Hid (_ = _) := hk.out
          clear JN k25 uh5 U4 T4 G4 G5 ds dg hs hgt hk hua huv5 hus5 htd dk hin hcap
          generalize z'.us (z'.g.lo p.2) = xs at *
          go_loopw [4, 60] (fun v t60 W => ∃ (j : Nat) (z6 : Zs) (td : List (Nat × Nat)), j ≤ xs.length ∧ t60 = .int .i64 (j : Int) ∧ Td W w.heap.size z6 v td ∧ Un W base l z6 P td (xs.drop j) ∧ Went l w W z z6 ∧ Hid (z6.t.length = z5.t.length) ∧ Hid (td.length = rest.length + j) ∧ UseIs z6.st (.slice ua xs.length uc) xs) (fun _ t60 _ => xs.length - (intOf t60).toNat)
          case atStart => exact ⟨0, z5, rest, by omega, rfl, T5, by simpa using U5, G6, rfl, rfl, X5⟩
          case round =>
            clear T5 U5 G6 X5
            obtain ⟨j, z6, td, hj, rfl, T6, U6, G6, ht6, hl6, X6⟩ := hrel
            obtain ⟨va, vc, hv⟩ := row_form' T6.row
            subst hv
            by_cases hj2 : j < xs.length
            · have dj : decide ((j : Int) < (xs.length : Int)) = true := decide_eq_true (by omega)
              have hxj : xs[j]? = some xs[j] := List.getElem?_eq_getElem hj2
              obtain ⟨bb, off, cap6, hv6, _, hc6⟩ := X6.cell U6.cz.sat hxj
              injection hv6 with e1 _ e3
              subst e1 e3
              have cj := hc6 j _ hxj
              clear hc6
              have hpk6 : z6.pk = z.pk := G6.grows.pk
              rw [List.drop_eq_getElem_cons hj2] at U6
              have LK := like_un wr base l z6 P td xs[j] (xs.drop (j + 1)) U6
              rw [hpk6] at LK
              have b6' := U6.bound
              have htd6 := U6.td
              obtain ⟨i0, hi0, hz0, hz1, hz2⟩ := info_parts infoPair
              generalize hxn : xs[j] = xn at *
              go_wp2_with (first | (go_at_call 40; refine LK.mono ?_; rintro e w7 ⟨m7, z7, rfl, U7, G7, ht7, huv7, hus7⟩; have T7 := T6.went G7; have hB7 : w.heap.size ≤ w7.heap.size := Nat.le_trans G6.kept.size G7.kept.size) | (at_builtin; refine wpList_append_here rfl _ _ 109 rfl w.heap.size 34 i0 _ 2 16 Tryz.underlying109 hi0 hz0 hz1 hz2 rfl (by decide) _ td.length (joinC td) rfl (T7.row.alloc _) ⟨w7.heap.size, 0, none⟩ 1 1 [.int .i64 (xn : Int), .int .i64 (m7 : Int)] rfl rfl (cell_two_news w7 0 _ _ _) (by simp [Value.oneCell']) (by unfold maxLen; omega) (by omega) (by simp; omega) ?_; intro v8 w8 hown8 hgrow8 hloc8; obtain ⟨ga, gc, hg8⟩ := row_form' hown8; subst hg8))
              obtain ⟨T8, U8, G8⟩ := T7.push U7 (G6.trans G7) _ hown8 hgrow8 hloc8
              refine ⟨⟨j + 1, z7, td ++ [(xn, m7)], by omega, by simp, T8, U8, G8, ?_, ?_, X6.mono G7.chain.st⟩, by simp [intOf]; omega⟩
              · show z7.t.length = z5.t.length
                rw [ht7]; exact ht6.out
              · show (td ++ [(xn, m7)]).length = rest.length + (j + 1)
                have := hl6.out
                simp; omega
            · have dj : decide ((j : Int) < (xs.length : Int)) = false := decide_eq_false (by omega)
              obtain rfl : j = xs.length := by omega
              rw [List.drop_length] at U6
              go_wp2_with fail
              go_roundg ((l.length - z6.t.length) * (4 * l.length + 1) + td.length)
              case measure =>
                have h1 := hHk.out
                have h2 := hmeas.out
                have h3 := hl6.out
                have h4 := ht6.out
                rw [h1, h4, h3, ← h2]
                simp
                omega
              case rel => exact ⟨z6, td, rfl, T6, U6, G6⟩

end Go.Proofs.YtlehlgipbhfioaaGreat

namespace Go.Proofs.YtlehlgipbhfioaaGreat
open Go.RowKit Go.Maps

/-- All of a Closure. -/
structure Ks where
  pc : Nat
  tv : Value
  told : List Nat
  z : Zs
def Ks.Foot (k : Ks) (i : Nat) : Prop := i = k.pc ∨ k.tv.ownBlock = some i ∨ k.z.Foot i
def Ks.All (k : Ks) (i : Nat) : Prop := i = k.pc ∨ k.tv.ownBlock = some i ∨ k.z.All i
theorem Ks.Foot.all {k : Ks} {i : Nat} (h : k.Foot i) : k.All i := h.imp id (fun h => h.imp id .inl)
def cloC (pk : Nat) (tv : Value) (j : Nat) : Value := if j = 0 then .pointer (some ⟨pk, 0, none⟩) else tv

structure Cl (w : World) (base : Nat) (l : List Tm) (c : Ks) (P : List (Nat × Nat)) : Prop where
  clo : w.rowIs c.pc 62 2 (cloC c.z.pk c.tv)
  told : w.ownsRow base 3 1 c.tv c.told.length (natC c.told)
  un : Un w base l c.z P [] []
  farP : ¬ c.z.All c.pc
  farT : ∀ k, c.tv.ownBlock = some k → ¬ c.z.All k
  bp : base ≤ c.pc
  num : c.told.length = P.length

theorem Cl.all_lt {w : World} {base : Nat} {l : List Tm} {c : Ks} {P : List (Nat × Nat)} (h : Cl w base l c P) {k : Nat} (hk : c.All k) : k < w.heap.size := by
  rcases hk with e | e | e
  · rw [e]; exact h.clo.lt
  · exact (h.told.lt k e).2
  · exact h.un.cz.all_lt e
theorem Cl.all_ge {w : World} {base : Nat} {l : List Tm} {c : Ks} {P : List (Nat × Nat)} (h : Cl w base l c P) {k : Nat} (hk : c.All k) : base ≤ k := by
  rcases hk with e | e | e
  · rw [e]; exact h.bp
  · exact (h.told.lt k e).1
  · exact h.un.cz.all_ge e
theorem Cl.keep {w w' : World} {base : Nat} {l : List Tm} {c : Ks} {P : List (Nat × Nat)} (h : Cl w base l c P) {S : Nat → Prop} (K : Kept S w w') (hS : ∀ k, c.All k → ¬ S k) : Cl w' base l c P :=
  ⟨h.clo.of_block (K.block _ h.clo.lt (hS _ (.inl rfl))), ownsRow_blockC h.told (fun k hk => K.block k (h.told.lt k hk).2 (hS k (.inr (.inl hk)))), h.un.keep K (fun k hk => hS k (.inr (.inr hk))), h.farP, h.farT, h.bp, h.num⟩
theorem Cl.kept0 {w w' : World} {base : Nat} {l : List Tm} {c : Ks} {P : List (Nat × Nat)} (h : Cl w base l c P) (K : Kept0 w w') : Cl w' base l c P := h.keep K (fun _ _ e => e)
theorem Cl.c0 {w : World} {base : Nat} {l : List Tm} {c : Ks} {P : List (Nat × Nat)} (h : Cl w base l c P) : w.cell? ⟨c.pc, 0, none⟩ = some (.pointer (some ⟨c.z.pk, 0, none⟩)) := h.clo.cell (i := 0) (by omega)
theorem Cl.c1 {w : World} {base : Nat} {l : List Tm} {c : Ks} {P : List (Nat × Nat)} (h : Cl w base l c P) : w.cell? ⟨c.pc, 1, none⟩ = some c.tv := h.clo.cell (i := 1) (by omega)

set_option maxHeartbeats 1000000 in
theorem khas_in (w : World) (base : Nat) (l : List Tm) (c : Ks) (P : List (Nat × Nat)) (h : Cl w base l c P) (a : Int) :
    Calls Tryz.prog 18 #[.pointer (some ⟨c.pc, 0, none⟩), .int .i64 a] w fun e w' => e = .returned (.bool (inB l.length a)) ∧ w = w' := by
  have c0 := h.c0
  have k1 := h.un.cz.k1
  have hl := h.un.cz.len
  clear h
  go_enter Tryz.func18, Tryz.ntmps18
  go_wp2
  · go_ret
    exact ⟨ret_bool (inB_ge ‹_›), rfl⟩
  · go_ret
    exact ⟨ret_bool (inB_lt ‹_›), rfl⟩

set_option maxHeartbeats 1000000 in
theorem kSame_in (w : World) (base : Nat) (l : List Tm) (c : Ks) (P : List (Nat × Nat)) (h : Cl w base l c P) (a b : Int) :
    Calls Tryz.prog 11 #[.pointer (some ⟨c.pc, 0, none⟩), .int .i64 a, .int .i64 b] w fun e w' => e = .returned (.bool (sameB l.length c.z.g a b)) ∧ ∃ m, w' = w.drewN m := by
  have c0 := h.c0
  have k0 := h.un.cz.k0
  have SM := Same_in w base c.z.ps c.z.nb l.length c.z.g c.z.jv _ h.un.cz.sets.lies _ h.un.cz.ok a b
  clear h
  go_enter Tryz.func11, Tryz.ntmps11
  go_wp2_with (go_at_call 26; refine SM.mono ?_; rintro e w2 ⟨rfl, m, rfl⟩)
  go_ret
  exact ⟨rfl, m, rfl⟩

set_option maxHeartbeats 1000000 in
theorem kMark_in (w : World) (base : Nat) (l : List Tm) (c : Ks) (P : List (Nat × Nat)) (h : Cl w base l c P) :
    Calls Tryz.prog 224 #[.pointer (some ⟨c.pc, 0, none⟩)] w fun e w' => e = .returned (.int .i64 (P.length : Int)) ∧ w = w' := by
  have c1 := h.c1
  obtain ⟨ta, tc, htv⟩ := row_form' h.told
  rw [htv] at c1
  have hn := h.num
  rw [← hn]
  clear h hn
  go_enter Tryz.func224, Tryz.ntmps224
  go_wp2
  go_ret
  exact ⟨rfl, rfl⟩

/-- The least terms of all classes. -/
def lows (l : List Tm) (g : Uf.G) : List Nat := (List.range l.length).map g.lo
theorem lows_get {l : List Tm} {g : Uf.G} {i : Nat} (hi : i < l.length) : (lows l g)[i]? = some (g.lo i) := by simp [lows, hi]
theorem lows_len (l : List Tm) (g : Uf.G) : (lows l g).length = l.length := by simp [lows]

set_option maxHeartbeats 2000000 in
set_option maxRecDepth 100000 in
theorem kClasses_in (w : World) (base : Nat) (l : List Tm) (c : Ks) (P : List (Nat × Nat)) (h : Cl w base l c P) :
    Calls Tryz.prog 90 #[.pointer (some ⟨c.pc, 0, none⟩)] w fun e w' => e = .returned (.slice (some ⟨w.heap.size, 0, none⟩) l.length l.length) ∧ w'.rowIs w.heap.size 3 l.length (fun i => .int .i64 (c.z.g.lo i : Int)) ∧ Kept0 w w' := by
  have hlen := h.un.cz.len
  have M1 := make_ints w 39 Tryz.underlying39 l.length (by omega)
  have R1 := World.rowIs_made w (.int .i64 0) l.length 3
  have K1 : Kept0 w (w.alloc (.cells (madeCells #[.int .i64 0] l.length) 3)) := Kept.alloc (Kept.refl _ w) _
  have c0 := h.c0
  have k1 := h.un.cz.k1
  go_enter Tryz.func90, Tryz.ntmps90
  go_wp2_with fail
  clear M1 c0 k1
  generalize w.alloc (.cells (madeCells #[.int .i64 0] l.length) 3) = w1 at *
  go_loopw [16] (fun t16 W => ∃ k : Nat, k ≤ l.length ∧ t16 = .int .i64 (k : Int) ∧ W.rowIs w.heap.size 3 l.length (fun i => .int .i64 (if i < k then (c.z.g.lo i : Int) else 0)) ∧ Kept0 w W) (fun t16 _ => l.length - (intOf t16).toNat)
  case atStart => exact ⟨0, by omega, rfl, R1.congr (fun i _ => by simp), K1⟩
  case round =>
    clear R1 K1
    obtain ⟨k, hk, rfl, R, K⟩ := hrel
    by_cases hk2 : k < l.length
    · have dk : decide ((k : Int) < (l.length : Int)) = true := decide_eq_true (by omega)
      have H := h.kept0 K
      have c0 := H.c0
      have k0 := H.un.cz.k0
      have LE := H.un.cz.least hk2
      have ck := R.cell (i := k) hk2
      have fk := R.frozen k
      have HH : Hid (_ ∧ _) := ⟨R, K⟩
      clear R K H
      go_wp2_with (go_at_call 38; refine LE.mono ?_; rintro e w9 ⟨rfl, m9, rfl⟩)
      obtain ⟨R, K⟩ := HH.out
      refine ⟨⟨k + 1, hk2, by simp, ?_, Kept.setNew (K.drewN _) (Nat.le_refl _) _⟩, by simp [intOf]; omega⟩
      refine World.rowIs.congr (World.rowIs.set (World.rowIs.of_block R rfl : (wr.drewN m9).rowIs w.heap.size 3 l.length _) k _) (fun i hi => ?_)
      by_cases e : i = k
      · rw [if_pos e, e, if_pos (Nat.lt_succ_self k)]
      · rw [if_neg e]
        by_cases e2 : i < k
        · rw [if_pos e2, if_pos (by omega)]
        · rw [if_neg e2, if_neg (by omega)]
    · have dk : decide ((k : Int) < (l.length : Int)) = false := decide_eq_false (by omega)
      obtain rfl : k = l.length := by omega
      go_wp2_with fail
      go_ret
      exact ⟨rfl, R.congr (fun i hi => by rw [if_pos hi]), K⟩

set_option maxHeartbeats 1000000 in
set_option maxRecDepth 100000 in
theorem kNew_in (w : World) (base p : Nat) (ev : Value) (nb fb : Nat) (l : List Tm) (h : Bk w base p ev nb fb l) (hb : Cc.Bd l) (hl : l.length ≤ 150) :
    Calls Tryz.prog 5 #[.pointer (some ⟨p, 0, none⟩)] w fun e w' => ∃ c : Ks, e = .returned (.pointer (some ⟨c.pc, 0, none⟩)) ∧ Cl w' w.heap.size l c [] ∧ Kept0 w w' := by
  have TO := termsOf_in w base p ev nb fb l h
  have NC : ∀ w1 tb av st, Tf w w1 tb l l.length av st → Calls Tryz.prog 15 #[.slice (some ⟨tb, 0, none⟩) l.length l.length] w1 fun e w' => ∃ z : Zs, e = .returned (.pointer (some ⟨z.pk, 0, none⟩)) ∧ Un w' w.heap.size l z [] [] [] ∧ Kept0 w1 w' ∧ w1.heap.size ≤ z.pk ∧ (∀ k, z.All k → w.heap.size ≤ k) := fun w1 tb av st T => by
    obtain ⟨f, R, hf⟩ := T.row
    exact newC_in w1 w.heap.size l tb av st (R.congr (fun j hj => hf j hj)) T.sat (fun i t ht => T.args i t (List.getElem?_eq_some_iff.1 ht).1 ht) hb h.oks hl T.kept.size T.tb (fun x hx => (T.far x hx).1)
  go_enter Tryz.func5, Tryz.ntmps5
  go_wp2_with (first | (go_at_call 16; refine TO.mono ?_; rintro e w1 ⟨tb, av, st, rfl, T⟩; have NC1 := NC w1 tb av st T) | (go_at_call 15; refine NC1.mono ?_; rintro e w2 ⟨z, rfl, U, K2, hz, hA⟩))
  go_ret
  have K3 : Kept0 w2 (w2.alloc (.cells #[.pointer (some ⟨z.pk, 0, none⟩), .slice none 0 0] 62)) := Kept.alloc (Kept.refl _ w2) _
  have hw2 : w.heap.size ≤ w2.heap.size := Nat.le_trans T.kept.size K2.size
  refine ⟨⟨w2.heap.size, .slice none 0 0, [], z⟩, rfl, ⟨?_, World.ownsRow_nil _ _ _ _, U.kept0 K3, fun hA' => ?_, fun k hk => by simp [Value.ownBlock] at hk, hw2, rfl⟩, (T.kept.trans K2).trans K3⟩
  · exact (box_row w2 (.pointer (some ⟨z.pk, 0, none⟩)) (.slice none 0 0) 62)
  · have := U.cz.all_lt hA'
    exact Nat.lt_irrefl _ this

end Go.Proofs.YtlehlgipbhfioaaGreat

namespace Go.Proofs.YtlehlgipbhfioaaGreat
open Go.RowKit Go.Maps

set_option maxHeartbeats 1000000 in
theorem kMerge_no (w : World) (base : Nat) (l : List Tm) (c : Ks) (P : List (Nat × Nat)) (h : Cl w base l c P) (a b : Int) (hno : (inB l.length a && inB l.length b) = false) :
    Calls Tryz.prog 7 #[.pointer (some ⟨c.pc, 0, none⟩), .int .i64 a, .int .i64 b] w fun e w' => e = .returned (.int .i64 7) ∧ w = w' := by
  have HA := khas_in w base l c P h a
  have HB := khas_in w base l c P h b
  clear h
  cases ha : inB l.length a
  · rw [ha] at HA
    clear HB hno
    go_enter Tryz.func7, Tryz.ntmps7
    go_wp2_with (go_at_call 18; refine HA.mono ?_; rintro e w' ⟨rfl, rfl⟩)
    go_ret
    exact ⟨rfl, rfl⟩
  · have hb : inB l.length b = false := by simpa [ha] using hno
    rw [ha] at HA
    rw [hb] at HB
    clear hno
    go_enter Tryz.func7, Tryz.ntmps7
    go_wp2_with fail
    refine HA.mono ?_
    rintro e w' ⟨rfl, rfl⟩
    go_wp2_with fail
    refine HB.mono ?_
    rintro e w' ⟨rfl, rfl⟩
    go_wp2
    go_ret
    exact ⟨rfl, rfl⟩

/-- A pair is noted. -/
theorem Cl.noted {w wa w1 : World} {base : Nat} {l : List Tm} {c : Ks} {P : List (Nat × Nat)} (h : Cl w base l c P) (K0 : Kept0 w wa) (v' : Value) (hown : w1.ownsRow base 3 1 v' (c.told.length + 1) (natC c.told ++ [.int .i64 (c.z.bs.length : Int)])) (hgrow : wa.grownBy w1 c.tv.ownBlock)
    (hloc : v'.ownBlock = c.tv.ownBlock ∨ ∀ k, v'.ownBlock = some k → wa.heap.size ≤ k) :
    w1.cell? ⟨c.pc, 1, none⟩ = some c.tv ∧ w1.frozen? ⟨c.pc, 1, none⟩ = false ∧ w1.cell? ⟨c.pc, 0, none⟩ = some (.pointer (some ⟨c.z.pk, 0, none⟩)) ∧ Kept (fun k => c.tv.ownBlock = some k) w w1 ∧
    (w1.setCell ⟨c.pc, 1, none⟩ v').rowIs c.pc 62 2 (cloC c.z.pk v') ∧ (w1.setCell ⟨c.pc, 1, none⟩ v').ownsRow base 3 1 v' (c.told ++ [c.z.bs.length]).length (natC (c.told ++ [c.z.bs.length])) ∧ Un (w1.setCell ⟨c.pc, 1, none⟩ v') base l c.z P [] [] ∧ Kept c.Foot w (w1.setCell ⟨c.pc, 1, none⟩ v') ∧ (∀ k, v'.ownBlock = some k → ¬ c.z.All k) ∧ (∀ k, v'.ownBlock = some k → c.tv.ownBlock = some k ∨ w.heap.size ≤ k) := by
  have K1 : Kept (fun k => c.tv.ownBlock = some k) w w1 := Kept.grown (Kept.mono K0 (fun _ _ e => e.elim)) hgrow (fun _ e => e)
  have K2 : Kept (fun k => k = c.pc ∨ c.tv.ownBlock = some k) w (w1.setCell ⟨c.pc, 1, none⟩ v') := Kept.setCell (p := ⟨c.pc, 1, none⟩) (Kept.mono K1 (fun _ _ e => .inr e)) (.inl rfl) _
  have hp0 := rowIs_type h.clo (by decide) h.told
  have hp : w1.rowIs c.pc 62 2 (cloC c.z.pk c.tv) := h.clo.of_block (K1.block _ h.clo.lt hp0)
  have np := rowIs_type hp (by decide) hown
  have hnew : ∀ k, v'.ownBlock = some k → c.tv.ownBlock = some k ∨ w.heap.size ≤ k := fun k hk => by
    rcases hloc with e | e
    · exact .inl (e ▸ hk)
    · exact .inr (Nat.le_trans K0.size (e k hk))
  refine ⟨hp.cell (i := 1) (by omega), hp.frozen 1, hp.cell (i := 0) (by omega), K1, (hp.set 1 v').congr (fun i hi => ?_), ?_, h.un.keep K2 ?_, Kept.mono K2 ?_, fun k hk hA => ?_, hnew⟩
  · rcases (by omega : i = 0 ∨ i = 1) with rfl | rfl <;> simp [cloC]
  · rw [List.length_append, ← natC_app]
    exact ownsRow_setCell_other hown np _
  · rintro k hk (e | e)
    · exact h.farP (e ▸ hk)
    · exact h.farT k e hk
  · rintro k _ (e | e)
    · exact .inl e
    · exact .inr (.inl e)
  · rcases hnew k hk with e | e
    · exact h.farT k e hA
    · have := h.un.cz.all_lt hA; omega

/-- .. and all that follows is the same then. -/
theorem Cl.merged {w w2 w3 : World} {base : Nat} {l : List Tm} {c : Ks} {P : List (Nat × Nat)} (h : Cl w base l c P) {v' : Value} {a b : Nat} (R2 : w2.rowIs c.pc 62 2 (cloC c.z.pk v')) (O2 : w2.ownsRow base 3 1 v' (c.told ++ [c.z.bs.length]).length (natC (c.told ++ [c.z.bs.length]))) (K2 : Kept c.Foot w w2)
    (F2 : ∀ k, v'.ownBlock = some k → ¬ c.z.All k) (N2 : ∀ k, v'.ownBlock = some k → c.tv.ownBlock = some k ∨ w.heap.size ≤ k) {z' : Zs} (U3 : Un w3 base l z' (P ++ [(a, b)]) [] []) (G3 : Went l w2 w3 c.z z') :
    ∃ c' : Ks, Cl w3 base l c' (P ++ [(a, b)]) ∧ Kept c.Foot w w3 ∧ c'.pc = c.pc ∧ (∀ k, c'.All k → c.All k ∨ w.heap.size ≤ k) ∧ Chain l c.z c'.z ∧ c'.told = c.told ++ [c.z.bs.length] := by
  have hpc : ¬ c.z.Foot c.pc := fun e => h.farP (.inl e)
  refine ⟨⟨c.pc, v', c.told ++ [c.z.bs.length], z'⟩, ⟨?_, ownsRow_blockC O2 (fun k hk => G3.kept.block k (O2.lt k hk).2 (fun e => F2 k hk (.inl e))), U3, fun hA => ?_, fun k hk hA => ?_, h.bp, by simp [h.num]⟩, K2.trans (Kept.mono G3.kept (fun k _ e => .inr (.inr e))), rfl, fun k hk => ?_, G3.chain, rfl⟩
  · have := R2.of_block (G3.kept.block _ R2.lt hpc)
    show w3.rowIs c.pc 62 2 (cloC z'.pk v')
    rw [G3.grows.pk]
    exact this
  · rcases G3.grows.all hA with e | e
    · exact h.farP e
    · have h1 := R2.lt
      have e' : w2.heap.size ≤ c.pc := e
      omega
  · rcases G3.grows.all hA with e | e
    · exact F2 k hk e
    · have := (O2.lt k hk).2; omega
  · rcases hk with e | e | e
    · exact .inl (.inl e)
    · exact (N2 k e).imp (fun x => .inr (.inl x)) id
    · rcases G3.grows.all e with e | e
      · exact .inl (.inr (.inr e))
      · exact .inr (Nat.le_trans K2.size e)

set_option maxHeartbeats 4000000 in
set_option maxRecDepth 100000 in
theorem kMerge_yes (w : World) (base : Nat) (l : List Tm) (c : Ks) (P : List (Nat × Nat)) (h : Cl w base l c P) (a b : Nat) (ha : a < l.length) (hb : b < l.length) (hn : (P.length + 1) * 8 ≤ 140737488355328) :
    Calls Tryz.prog 7 #[.pointer (some ⟨c.pc, 0, none⟩), .int .i64 (a : Int), .int .i64 (b : Int)] w fun e w' => e = .returned (.int .i64 0) ∧ ∃ c' : Ks, Cl w' base l c' (P ++ [(a, b)]) ∧ Kept c.Foot w w' ∧ c'.pc = c.pc ∧ (∀ k, c'.All k → c.All k ∨ w.heap.size ≤ k) ∧ Chain l c.z c'.z ∧ c'.told = c.told ++ [c.z.bs.length] := by
  have HA := khas_in w base l c P h a
  have HB := khas_in w base l c P h b
  rw [inB_nat ha] at HA
  rw [inB_nat hb] at HB
  obtain ⟨ta, tc, htv⟩ := row_form' h.told
  obtain ⟨ba, bc, hbv⟩ := row_form' h.un.cz.back
  have hbs : c.z.bs.length ≤ 90150 := by have h1 := h.un.bs; have := h.un.bound.2; simp only [List.length_nil] at h1; omega
  have htl : c.told.length = P.length := h.num
  have c0 := h.c0
  have c1 := h.c1
  have k4 := h.un.cz.k4
  rw [htv] at c1
  rw [hbv] at k4
  have A0 : ∀ O, (w.alloc O).cell? ⟨c.pc, 0, none⟩ = some (.pointer (some ⟨c.z.pk, 0, none⟩)) := fun O => (h.kept0 ((Kept.refl _ w).alloc O)).c0
  have A1 : ∀ O, (w.alloc O).cell? ⟨c.pc, 1, none⟩ = some (.slice ta c.told.length tc) := fun O => by rw [← htv]; exact (h.kept0 ((Kept.refl _ w).alloc O)).c1
  have A4 : ∀ O, (w.alloc O).cell? ⟨c.z.pk, 4, none⟩ = some (.slice ba c.z.bs.length bc) := fun O => by rw [← hbv]; exact (h.kept0 ((Kept.refl _ w).alloc O)).un.cz.k4
  have OWN : ∀ O, (w.alloc O).drew.ownsRow base 3 1 (.slice ta c.told.length tc) c.told.length (natC c.told) := fun O => by rw [← htv]; exact World.ownsRow.alloc h.told O
  have NEW := one_newD w 0 (.int .i64 (c.z.bs.length : Int)) 3
  have NOTE : ∀ w1 O v', w1.ownsRow base 3 1 v' (c.told.length + 1) (natC c.told ++ [.int .i64 (c.z.bs.length : Int)]) → (w.alloc O).drew.grownBy w1 (Value.slice ta c.told.length tc).ownBlock → (v'.ownBlock = (Value.slice ta c.told.length tc).ownBlock ∨ ∀ k, v'.ownBlock = some k → (w.alloc O).drew.heap.size ≤ k) → _ := fun w1 O v' h1 h2 h3 => h.noted (w1 := w1) (((Kept.refl _ w).alloc O).drew) v' h1 (by rw [← htv] at h2; exact h2) (by rw [← htv] at h3; exact h3)
  have CEL : ∀ w1 O v', w1.ownsRow base 3 1 v' (c.told.length + 1) (natC c.told ++ [.int .i64 (c.z.bs.length : Int)]) → (w.alloc O).drew.grownBy w1 (Value.slice ta c.told.length tc).ownBlock → (v'.ownBlock = (Value.slice ta c.told.length tc).ownBlock ∨ ∀ k, v'.ownBlock = some k → (w.alloc O).drew.heap.size ≤ k) →
      w1.cell? ⟨c.pc, 1, none⟩ = some (.slice ta c.told.length tc) ∧ w1.frozen? ⟨c.pc, 1, none⟩ = false ∧ w1.cell? ⟨c.pc, 0, none⟩ = some (.pointer (some ⟨c.z.pk, 0, none⟩)) := fun w1 O v' h1 h2 h3 => by
    obtain ⟨q1, q2, q3, _⟩ := NOTE w1 O v' h1 h2 h3
    exact ⟨by rw [← htv]; exact q1, q2, q3⟩
  have hbase := h.un.low
  obtain ⟨i0, hi0, hz0, hz1, hz2⟩ := info_parts infoIntK
  have HH : Hid (_ ∧ _ ∧ _) := ⟨h, NOTE, htl⟩
  rw [← htl] at hn
  clear h NOTE htv hbv htl
  go_enter Tryz.func7, Tryz.ntmps7
  go_wp2_with fail
  refine HA.mono ?_
  rintro e w' ⟨rfl, rfl⟩
  go_wp2_with fail
  refine HB.mono ?_
  rintro e w' ⟨rfl, rfl⟩
  clear HA HB
  go_wp2_with fail
  go_region_law (refine step_append_here rfl (.tmp 21) (.tmp 30) 39 rfl base 3 i0 _ 1 8 Tryz.underlying39 hi0 hz0 hz1 hz2 rfl (by decide) _ c.told.length (natC c.told) (by simp [Act.eval]; rfl) (by exact OWN _) ⟨w.heap.size, 0, none⟩ 1 1 [.int .i64 (c.z.bs.length : Int)] (by simp [Act.eval]) rfl (by exact NEW) (by simp [Value.oneCell']) (by unfold maxLen; omega) (by omega) (by simp; omega) ?_; intro v' w1 hown1 hgrow hloc; obtain ⟨kp1, kf1, kc1⟩ := CEL w1 _ v' hown1 hgrow hloc; obtain ⟨b1, cap1, hv1⟩ := ownsRow_succ hown1; subst hv1; replace hown1 : Hid _ := hown1; replace hgrow : Hid _ := hgrow; replace hloc : Hid _ := hloc)
  all_goals
    obtain ⟨h, NOTE, _⟩ := HH.out
    obtain ⟨_, _, _, _, R2, O2, U2, K2, F2, N2⟩ := NOTE w1 _ _ hown1.out hgrow.out hloc.out
    have U2' : Un (w1.setCell ⟨c.pc, 1, none⟩ (.slice (some ⟨b1, 0, none⟩) (c.told.length + 1) cap1)) base l c.z (P ++ [(a, b)]) [(a, b)] [] := ⟨U2.cz, U2.inv.tell ha hb, U2.ms, U2.bs, by simp, U2.low⟩
    have UN := unite_in _ base l c.z (P ++ [(a, b)]) a b U2'
    have d0 : (w1.setCell ⟨c.pc, 1, none⟩ (.slice (some ⟨b1, 0, none⟩) (c.told.length + 1) cap1)).cell? ⟨c.pc, 0, none⟩ = some (.pointer (some ⟨c.z.pk, 0, none⟩)) := R2.cell (i := 0) (by omega)
    have ALL : Hid (_ ∧ _ ∧ _ ∧ _ ∧ _ ∧ _) := ⟨h, R2, O2, K2, F2, N2⟩
    clear kp1 kf1 kc1 A0 A1 A4 OWN NEW CEL HH hown1 hgrow hloc c0 c1 k4 h NOTE R2 O2 U2 K2 F2 N2 U2'
    generalize w1.setCell ⟨c.pc, 1, none⟩ (.slice (some ⟨b1, 0, none⟩) (c.told.length + 1) cap1) = w2 at *
    go_wp2_with (go_at_call 19; refine UN.mono ?_; rintro e w3 ⟨rfl, z', U3, G3⟩)
    go_ret
    obtain ⟨h, R2, O2, K2, F2, N2⟩ := ALL.out
    exact ⟨rfl, h.merged R2 O2 K2 F2 N2 U3 G3⟩

/-- What Merge does to the pairs. -/
def mergeP (l : List Tm) (P : List (Nat × Nat)) (a b : Int) : List (Nat × Nat) := if inB l.length a && inB l.length b then P ++ [(a.toNat, b.toNat)] else P
def mergeE (l : List Tm) (a b : Int) : Int := if inB l.length a && inB l.length b then 0 else 7

theorem kMerge_in (w : World) (base : Nat) (l : List Tm) (c : Ks) (P : List (Nat × Nat)) (h : Cl w base l c P) (a b : Int) (hn : (P.length + 1) * 8 ≤ 140737488355328) :
    Calls Tryz.prog 7 #[.pointer (some ⟨c.pc, 0, none⟩), .int .i64 a, .int .i64 b] w fun e w' => e = .returned (.int .i64 (mergeE l a b)) ∧ ∃ c' : Ks, Cl w' base l c' (mergeP l P a b) ∧ Kept c.Foot w w' ∧ c'.pc = c.pc ∧ (∀ k, c'.All k → c.All k ∨ w.heap.size ≤ k) := by
  cases hi : inB l.length a && inB l.length b
  · refine (kMerge_no w base l c P h a b hi).mono ?_
    rintro e w' ⟨rfl, rfl⟩
    refine ⟨by simp [mergeE, hi], c, ?_, Kept.refl _ _, rfl, fun k hk => .inl hk⟩
    rw [mergeP, hi, if_neg (by decide)]
    exact h
  · rw [Bool.and_eq_true] at hi
    obtain ⟨a1, a2⟩ := inB_true hi.1
    obtain ⟨b1, b2⟩ := inB_true hi.2
    obtain ⟨x, rfl⟩ := Int.eq_ofNat_of_zero_le a1
    obtain ⟨y, rfl⟩ := Int.eq_ofNat_of_zero_le b1
    refine (kMerge_yes w base l c P h x y (by omega) (by omega) hn).mono ?_
    rintro e w' ⟨rfl, c', C, K, hp, hA, _⟩
    refine ⟨by simp [mergeE, hi.1, hi.2], c', ?_, K, hp, hA⟩
    rw [mergeP, hi.1, hi.2]
    exact C

end Go.Proofs.YtlehlgipbhfioaaGreat
