/- append, told besides that what lay there stays; the document's put with that. The document's reader: Term. The document's reader: Term, where nothing is wrong at its head. -/
import Derived.Test.YtinphcnknionmaaP13
import Derived.Deep.CutRange
namespace Go.Proofs.Ytinphcnknionmaa
open Go.RowKit

/-- Rows on the block of av that are no longer than n stay. -/
def Hold (e : TypeId) (size : Nat) (w w' : World) (av : Value) (n : Nat) : Prop := ∀ (base : Nat) (u : Value) (k : Nat) (xs : List Value), u.ownBlock = av.ownBlock → k ≤ n → w.ownsRow base e size u k xs → w'.ownsRow base e size u k xs
theorem Hold.of_kept0 {e : TypeId} {size : Nat} {w w' : World} (h : Kept0 w w') (av : Value) (n : Nat) : Hold e size w w' av n := fun _ _ _ _ _ _ hr => hr.kept h.grownBy (Decidable.em _)
theorem Hold.trans {e : TypeId} {size : Nat} {a b c : World} {av : Value} {n : Nat} (h : Hold e size a b av n) (k : Hold e size b c av n) : Hold e size a c av n := fun base u m xs h1 h2 h3 => k base u m xs h1 h2 (h base u m xs h1 h2 h3)

theorem run_append_old {P : Program} (w : World) (base : Nat) (t ty e : TypeId) (i : TypeInfo) (z : Value) (size bytes : Nat) (ht : P.underlying t = some (.slice e)) (hi : P.info? e = some i) (hz : i.zero = some z)
    (hsize : i.size = size) (hby : i.bytes = bytes) (hzs : z.cells.size = size) (hsz : 0 < size)
    (v : Value) (n : Nat) (xs : List Value) (hown : w.ownsRow base e size v n xs)
    (a : Addr) (m c : Nat) (news : List Value) (hl : news.length = m * size) (hnews : ∀ j u, news[j]? = some u → w.cell? (a.add j) = some u) (h1 : ∀ u ∈ news, u.oneCell' = true)
    (h63 : n + m ≤ maxLen) (hbytes : (n + m) * bytes ≤ 140737488355328) (hbase : base ≤ w.heap.size) :
    ∃ v' w', (Builtin.append_ #[t, t] ty #[v, .slice (some a) m c]).run P w = .ok v' w' ∧ w'.ownsRow base e size v' (n + m) (xs ++ news) ∧ w.grownBy w' v.ownBlock ∧
      (v'.ownBlock = v.ownBlock ∨ ∀ k, v'.ownBlock = some k → w.heap.size ≤ k) ∧ Hold e size w w' v n := by
  obtain ⟨v', w', hr, r1, r2, r3⟩ := run_append_here (P := P) w base t ty e i z size bytes ht hi hz hsize hby hzs hsz v n xs hown a m c news hl hnews h1 h63 hbytes hbase
  refine ⟨v', w', hr, r1, r2, r3, ?_⟩
  rcases hown.2 with ⟨rfl, rfl⟩ | ⟨g, cap, cur, rfl, hbg, hg, hnc, hcm, hcs, htake⟩
  · intro base2 u k ys hu hk hrow
    have hu' : u.ownBlock = none := hu
    exact hrow.kept r2 (Or.inl hu')
  · by_cases hroom : n + m ≤ cap
    · subst hsize
      have hfit : n * i.size + news.length ≤ cur.size := by rw [hl, hcs, ← Nat.add_mul]; exact Nat.mul_le_mul_right _ hroom
      have hr2 := run_append_room (P := P) w t ty e i ht hi g n cap cur hg a m c news hl hnews h1 hroom hfit
      rw [hr] at hr2
      simp only [Result.ok.injEq] at hr2
      obtain ⟨rfl, rfl⟩ := hr2
      intro base2 u k ys hu hk hrow
      refine ⟨hrow.1, ?_⟩
      rcases hrow.2 with h0 | ⟨g2, cap2, cur2, rfl, k1, k2, k3, k4, k5, k6⟩
      · exact Or.inl h0
      · simp [Value.ownBlock] at hu
        subst hu
        rw [hg] at k2
        simp only [Option.some.injEq, Obj.cells.injEq] at k2
        obtain ⟨rfl, _⟩ := k2
        rcases r1.2 with ⟨e0, _⟩ | ⟨g3, cap3, cur3, e3, c1, c2, c3, c4, c5, c6⟩
        · cases e0
        · simp only [Value.slice.injEq, Option.some.injEq, Addr.mk.injEq, and_true, true_and] at e3
          obtain ⟨rfl, rfl⟩ := e3
          refine Or.inr ⟨_, cap2, cur3, rfl, k1, c2, k3, k4, ?_, ?_⟩
          · rw [c5, ← hcs, k5]
          · have hcc : k * i.size ≤ n * i.size := Nat.mul_le_mul_right _ hk
            have t1 : cur3.toList.take (k * i.size) = (xs ++ news).take (k * i.size) := by
              rw [← c6, List.take_take]
              congr 1
              rw [Nat.add_mul]
              omega
            rw [t1, List.take_append_of_le_length (by rw [hown.1]; exact hcc), ← htake, List.take_take, ← k6]
            congr 1
            omega
    · obtain ⟨v2, w2, hr2, s1, s2⟩ := run_append_arg_grows (P := P) w t ty e i z size bytes ht hi hz hsize hby hzs hsz ⟨g, 0, none⟩ n cap xs hown.1 (hown.cells (g := g) rfl) a m c news hl hnews (by omega) h63 hbytes
      rw [hr] at hr2
      simp only [Result.ok.injEq] at hr2
      obtain ⟨rfl, rfl⟩ := hr2
      intro base2 u k ys hu hk hrow
      exact hrow.kept s2 (by
        rcases hrow.2 with ⟨e0, _⟩ | ⟨g2, cap2, cur2, e0, _⟩
        · exact Or.inl (by rw [e0]; rfl)
        · exact Or.inr (by rw [e0]; simp [Value.ownBlock]))

theorem wpList_append_old {P : Program} {ops : Array Oper} {rest : List Oper} {o : Oper} {a : Act} {w : World} {Q : Exit → Act → World → Prop} (hgd : o.guard = none) (sl x : Operand) (t : TypeId)
    (ho : o.op = .call { callee := .builtin .append, args := #[sl, x], argTypes := #[t, t] })
    (base : Nat) (e : TypeId) (i : TypeInfo) (z : Value) (size bytes : Nat) (h1 : P.underlying t = some (.slice e)) (h2 : P.info? e = some i) (h3 : i.zero = some z) (h4 : i.size = size) (h5 : i.bytes = bytes) (h6 : z.cells.size = size) (h7 : 0 < size)
    (v : Value) (n : Nat) (xs : List Value) (hs : a.eval sl = v) (hown : w.ownsRow base e size v n xs)
    (ad : Addr) (m c : Nat) (news : List Value) (hx : a.eval x = .slice (some ad) m c) (hn : news.length = m * size) (hc : ∀ j u, news[j]? = some u → w.cell? (ad.add j) = some u) (h1c : ∀ u ∈ news, u.oneCell' = true)
    (b1 : n + m ≤ maxLen) (b2 : (n + m) * bytes ≤ 140737488355328) (hbase : base ≤ w.heap.size)
    (h : ∀ v' w', w'.ownsRow base e size v' (n + m) (xs ++ news) → w.grownBy w' v.ownBlock → (v'.ownBlock = v.ownBlock ∨ ∀ k, v'.ownBlock = some k → w.heap.size ≤ k) → Hold e size w w' v n → wpList P ops Q rest (a.put o.dst v') w') : wpList P ops Q (o :: rest) a w := by
  refine wpList_plain hgd fun K hK => ?_
  obtain ⟨v', w', hr, r1, r2, r3, r4⟩ := run_append_old (P := P) w base t o.type e i z size bytes h1 h2 h3 h4 h5 h6 h7 v n xs hown ad m c news hn hc h1c b1 b2 hbase
  unfold Oper.wp execOp
  simp only [ho, resolve, invoke, builtin, Sem.run_bind, Sem.run_pure, Result.andThen_ok, List.map_toArray, List.map_cons, List.map_nil, hs, hx, hr]
  exact hK _ _ (h v' w' r1 r2 r3 r4)

/-- What put leaves. -/
def PutPost2 (w : World) (base : Nat) (av : Value) (l : List Tm) (vs : List Value) (t : Tm) (v : Value) (e : Ending) (w' : World) : Prop :=
  ∃ av', e = .returned (.tuple #[av', .int .i64 (addN l t : Int)]) ∧ Ls w' base av' (addL l t) (putV l t vs v) ∧ Kept (fun k => av.ownBlock = some k) w w' ∧ (av'.ownBlock = av.ownBlock ∨ ∀ k, av'.ownBlock = some k → w.heap.size ≤ k) ∧ Hold 114 2 w w' av l.length

set_option maxHeartbeats 2000000 in
set_option maxRecDepth 100000 in
theorem put2_in (w : World) (base : Nat) (av : Value) (l : List Tm) (vs : List Value) (h : Ls w base av l vs) (hl : l.length ≤ 1000) (t : Tm) (v : Value) (hv : ArgsAt1 w base t.args v) (hu4 : ∀ u ∈ l, u.args.length ≤ 4) (hbase : base ≤ w.heap.size) :
    Calls Try.prog 116 #[av, .agg #[.string t.name, v]] w (PutPost2 w base av l vs t v) := by
  obtain ⟨ta, tc, rfl⟩ := row_form hv
  obtain ⟨aa, ac, rfl⟩ := h.form
  have K1 : Kept0 w (w.alloc (.cells #[.string t.name, .slice ta t.args.length tc] 114)) := Kept.alloc (Kept.refl _ w) _
  have R1 := made_row w #[.string t.name, .slice ta t.args.length tc] 114
  generalize hw1 : w.alloc (.cells #[.string t.name, .slice ta t.args.length tc] 114) = w1 at *
  have L1 := h.kept0 K1
  have V1 := hv.kept K1.grownBy (Decidable.em _)
  go_enter Try.func116, Try.ntmps116
  go_wp2_with fail
  clear hw1
  generalize w.heap.size = x at R1 ⊢
  go_loopw [6] (fun t6 W => ∃ k : Nat, k ≤ l.length ∧ t6 = .int .i64 (k : Int) ∧ Hid (∀ j, j < k → l[j]? ≠ some t) ∧ Hid (Kept0 w1 W)) (fun t6 _ => l.length - (intOf t6).toNat)
  case atStart => exact ⟨0, by omega, rfl, fun j hj => absurd hj (by omega), Kept.refl _ w1⟩
  case round =>
    obtain ⟨k, hk, rfl, hne, KK⟩ := hrel
    have LW := L1.kept0 KK.out
    have VW := V1.kept KK.out.grownBy (Decidable.em _)
    have RW := World.rowIs.of_block R1 (KK.out.block x (World.rowIs.lt R1) (fun e => e))
    have a0 : wr.cell? ⟨x, 0, none⟩ = some (.string t.name) := World.rowIs.cell RW (i := 0) (by simp)
    have a1 : wr.cell? ⟨x, 1, none⟩ = some (.slice ta t.args.length tc) := World.rowIs.cell RW (i := 1) (by simp)
    by_cases hk2 : k < l.length
    · have dk : decide ((k : Int) < (l.length : Int)) = true := decide_eq_true (by omega)
      have hu : l[k]? = some l[k] := List.getElem?_eq_getElem hk2
      have hu4' := hu4 _ (List.getElem_mem hk2)
      generalize hgu : l[k] = u at hu hu4'
      obtain ⟨g, cap, vu, hg, _, g0, g1, hvu⟩ := LW.at hu
      injection hg with e1 _ e3
      subst e1 e3
      obtain ⟨ua, uc, rfl⟩ := row_form hvu
      have SAME := fun m => same1_in (wr.drewN m) base u t (.slice ua u.args.length uc) (.slice ta t.args.length tc) hvu VW hu4'
      by_cases he : u = t
      · rw [decide_eq_true he] at SAME
        have hN : nix l t = some k := nix_first (he ▸ hu) hne.out
        clear he hgu
        go_wp2_with fail
        go_region_with (go_at_call 148; refine (SAME _).mono ?_; rintro e w3 ⟨rfl, K3⟩)
        all_goals
          go_wp2_with fail
          go_ret2
          have K4 : Kept0 w1 w3 := Kept.trans (Kept.drewN KK.out _) K3
          have K5 : Kept0 w w3 := Kept.trans K1 K4
          exact ⟨_, by simp [addN, hN], by simpa [addL, putV, hN] using h.kept0 K5, Kept.mono K5 (fun _ _ e => e.elim), Or.inl rfl, Hold.of_kept0 K5 _ _⟩
      · rw [decide_eq_false he] at SAME
        have hne2 : Hid (∀ j, j < k + 1 → l[j]? ≠ some t) := fun j hj => by
          by_cases e : j = k
          · subst e
            rw [hu]
            simpa using he
          · exact hne.out j (by omega)
        clear he hgu
        go_wp2_with fail
        go_region_with (go_at_call 148; refine (SAME _).mono ?_; rintro e w3 ⟨rfl, K3⟩)
        all_goals
          go_wp2_with fail
          go_roundw
          case rel => exact ⟨k + 1, by omega, by go_num, hne2, Kept.trans (Kept.drewN KK.out _) K3⟩
          case measure => simp [intOf]; omega
    · have dk : decide ((k : Int) < (l.length : Int)) = false := decide_eq_false (by omega)
      have hN : nix l t = none := nix_nowhere fun j hj => hne.out j (by omega)
      obtain ⟨i0, hi0, hz0, hz1, hz2⟩ := info_parts infoRT
      have hsz := KK.out.size
      have hsz1 := K1.size
      have NEWS := two_new wr (.string t.name) (.slice ta t.args.length tc)
      clear dk hne
      have dk : decide ((k : Int) < (l.length : Int)) = false := decide_eq_false (by omega)
      have hlenb : Hid (l.length ≤ 1000) := hl
      go_wp2_with (at_builtin; refine wpList_append_old rfl _ _ 26 rfl base 114 i0 _ 2 40 Try.underlying26 hi0 hz0 hz1 hz2 rfl (by decide) _ l.length (lsC l vs) rfl (LW.row.alloc _) ⟨wr.heap.size, 0, none⟩ 1 1 [.string t.name, .slice ta t.args.length tc] rfl rfl NEWS (by simp [Value.oneCell']) (by unfold maxLen; omega) (by omega) (by simp; omega) ?_; intro v' w5 hown5 hgrow hloc hold5)
      go_ret2
      have K4 : Kept0 w (wr.alloc (.cells #[.string t.name, .slice ta t.args.length tc] 114)) := (Kept.trans K1 KK.out).alloc _
      have LA : Ls (wr.alloc (.cells #[.string t.name, .slice ta t.args.length tc] 114)) base (.slice aa l.length ac) l vs := h.kept0 K4
      refine ⟨v', by simp [addN, hN], ?_, Kept.grown (Kept.mono K4 (fun _ _ e => e.elim)) hgrow (fun k e => e), ?_, (Hold.of_kept0 K4 _ _).trans hold5⟩
      · have := LA.snoc (hv.kept K4.grownBy (Decidable.em _)) hown5 hgrow
        simpa [addL, putV, hN] using this
      · rcases hloc with e | e
        · exact Or.inl e
        · refine Or.inr fun k hk => ?_
          have h1 := e k hk
          have h2 := K4.size
          omega

end Go.Proofs.Ytinphcnknionmaa

namespace Go.Proofs.Ytinphcnknionmaa
open Go.RowKit

theorem argC_snoc (xs : List Nat) (n : Nat) : argC (xs ++ [n]) = argC xs ++ [.int .i64 (n : Int)] := by simp [argC]

/-- One more arg. -/
theorem S2.push {w w' : World} {base r : Nat} {av : Value} {s : ByteArray} {i e a : Nat} {l : List Tm} {vs : List Value} {x : Nat} {nm : ByteArray} {xs : List Nat} {v v' : Value} (h : S2 w base r av s i e a l vs x nm xs v) (n : Nat)
    (hr : w'.ownsRow base 3 1 v' (xs.length + 1) (argC xs ++ [.int .i64 (n : Int)])) (hg : w.grownBy w' v.ownBlock) (hloc : v'.ownBlock = v.ownBlock ∨ ∀ k, v'.ownBlock = some k → w.heap.size ≤ k) :
    S2 (w'.setCell ⟨x, 1, none⟩ v') base r av s i e a l vs x nm (xs ++ [n]) v' := by
  have hvx : v.ownBlock ≠ some x := row_ne h.arg h.box (by decide)
  have hvr : v.ownBlock ≠ some r := row_ne h.arg h.st.rd.row (by decide)
  have hva : ∀ b, av.ownBlock = some b → v.ownBlock ≠ some b := fun b hb z => by
    rcases rows_apart (by decide) h.arg h.st.ls.row with y | y
    · rw [z] at y; cases y
    · exact y (z.trans hb.symm)
  have hxl := h.box.lt
  have hrl := h.st.rd.row.lt
  have K2 : Kept1 x w' (w'.setCell ⟨x, 1, none⟩ v') := Kept1.set (Kept.refl _ w') _ _
  have stay : ∀ b, b < w.heap.size → v.ownBlock ≠ some b → b ≠ x → (w'.setCell ⟨x, 1, none⟩ v').heap[b]? = w.heap[b]? := fun b hb hne hbx =>
    (K2.block b (Nat.lt_of_lt_of_le hb hg.size) hbx).trans (hg.block b hb (fun z => hne z.symm))
  have hv'x : v'.ownBlock ≠ some x := by
    rcases hloc with z | z
    · rw [z]; exact hvx
    · intro y
      have := z x y
      omega
  refine ⟨⟨h.st.rd.of_block (stay r hrl hvr (Ne.symm h.xr)), h.st.ls.blocks (fun b hb => stay b (row_lt h.st.ls.row hb) (hva b hb) (fun z => h.ax (z ▸ hb))) (fun u hu b hb => ?_), Nat.le_trans h.st.bs (Nat.le_trans hg.size K2.size), h.st.lo, h.st.four⟩, ?_, ?_, h.ax, ?_⟩
  · obtain ⟨ys, hy⟩ := h.st.ls.mem hu
    exact stay b (row_lt hy hb) (h.nv u hu b hb) (fun z => row_ne hy h.box (by decide) (z ▸ hb))
  · have b1 : w'.rowIs x 114 2 (tbox nm v) := h.box.of_block (hg.block x hxl (fun z => hvx z.symm))
    refine (b1.set 1 v').congr (fun j hj => ?_)
    rcases (by omega : j = 0 ∨ j = 1) with rfl | rfl <;> simp [tbox]
  · have := ownsRow_setCell_other (a := ⟨x, 1, none⟩) hr hv'x v'
    simpa [ArgsAt1, argC_snoc] using this
  · intro u hu k hk
    rcases hloc with z | z
    · rw [z]; exact h.nv u hu k hk
    · intro y
      obtain ⟨ys, hy⟩ := h.st.ls.mem hu
      have h1 := row_lt hy hk
      have h2 := z k y
      omega

/-- What the document's Term leaves. -/
def RPost (w : World) (base r : Nat) (av : Value) (s : ByteArray) (vs : List Value) : Res Nat → Ending → World → Prop
  | .ok n k l', e, w' => e = .returned (.int .i64 (n : Int)) ∧ ∃ av' i' vs', S1 w' base r av' s i' 0 0 l' vs' ∧ bl s i' = k ∧ GR r w av w' av' ∧ NewV w vs vs'
  | .bad c q _, e, w' => e = .returned (.int .i64 0) ∧ ∃ av' i' l' vs', S1 w' base r av' s i' c q l' vs' ∧ GR r w av w' av' ∧ NewV w vs vs'

def RTermAt (f : Nat) : Prop := ∀ (w : World) (base r : Nat) (av : Value) (s : ByteArray) (i : Nat) (l : List Tm) (vs : List Value) (deep : Nat), S1 w base r av s i 0 0 l vs → Good l → 2 * (s.size - bl s i) + 1 ≤ f → l.length + (s.size - bl s i) ≤ 600 → deep ≤ 100 →
  Calls Try.prog 68 #[.pointer (some ⟨r, 0, none⟩), .int .i64 (deep : Int)] w (RPost w base r av s vs (pTerm s f deep (bl s i) l))

/-- A new box for a term. -/
theorem S1.boxed {w : World} {base r : Nat} {av : Value} {s : ByteArray} {i e a : Nat} {l : List Tm} {vs : List Value} (h : S1 w base r av s i e a l vs) (nm : ByteArray) :
    S2 (w.alloc (.cells #[.string nm, .slice none 0 0] 114)) base r av s i e a l vs w.heap.size nm [] (.slice none 0 0) := by
  have K : Kept0 w (w.alloc (.cells #[.string nm, .slice none 0 0] 114)) := Kept.alloc (Kept.refl _ w) _
  refine ⟨h.kept0 K, World.rowIs.congr (made_row w #[.string nm, .slice none 0 0] 114) (fun j hj => ?_), World.ownsRow_nil _ _ _ _, fun e => ?_, fun u _ k _ => by simp [Value.ownBlock]⟩
  · have hj' : j < 2 := hj
    rcases (by omega : j = 0 ∨ j = 1) with rfl | rfl <;> rfl
  · have := row_lt h.ls.row e
    omega

theorem isB_err {s : ByteArray} {i e c : Nat} (h : 1 ≤ e) : isB s i e c = false := by
  have : ¬ e = 0 := by omega
  simp [isB, this]
theorem isB_ok (s : ByteArray) (i c : Nat) : isB s i 0 c = stands s (bl s i) c := by simp [isB]
theorem hasI_no {s : ByteArray} {i e c : Nat} (h : isB s i e c = false) : hasI s i e c = bl s i := by simp [hasI, h]
theorem hasI_yes {s : ByteArray} {i e c : Nat} (h : isB s i e c = true) : hasI s i e c = bl s i + 1 := by simp [hasI, h]
theorem failE_err {e c : Nat} (h : 1 ≤ e) : failE e c = e := by
  have : ¬ e = 0 := by omega
  simp [failE, this]
theorem failA_err {e a q : Nat} (h : 1 ≤ e) : failA e a q = a := by
  have : ¬ e = 0 := by omega
  simp [failA, this]

set_option maxHeartbeats 8000000 in
set_option maxRecDepth 100000 in
theorem rterm_err (f : Nat) (w : World) (base r : Nat) (av : Value) (s : ByteArray) (i : Nat) (l : List Tm) (vs : List Value) (deep : Nat) (h : S1 w base r av s i 0 0 l vs) (hd : deep ≤ 100) (hE : badNm s (bl s i) = true ∨ 12 < deep) :
    Calls Try.prog 68 #[.pointer (some ⟨r, 0, none⟩), .int .i64 (deep : Int)] w (RPost w base r av s vs (pTerm s (f + 1) deep (bl s i) l)) := by
  have hsm := h.rd.small
  have hple := bl_le h.rd.le
  have NM := rname_in w r s i av 0 0 h.rd
  generalize hres : pTerm s (f + 1) deep (bl s i) l = res
  rw [pTerm] at hres
  unfold NmPost at NM
  cases hbad : badNm s (bl s i) with
  | true =>
    rw [hbad] at NM hres
    rw [if_pos rfl] at hres
    simp only [if_true] at NM
    replace hres := hres.symm
    have NM2 : Calls Try.prog 113 #[.pointer (some ⟨r, 0, none⟩)] w fun x w' => x = .returned (.tuple #[.string (s.extract (bl s i) (nmE s (bl s i))), .int .i64 (bl s i : Int)]) ∧ S1 w' base r av s (nmE s (bl s i)) 2 (bl s i) l vs ∧ GR r w av w' av := NM.mono fun x w' hP => ⟨hP.1, h.read hP.2.1 hP.2.2, (GR.refl r w av).kept1 hP.2.1⟩
    clear NM
    generalize s.extract (bl s i) (nmE s (bl s i)) = N at *
    go_enter Try.func68, Try.ntmps68
    by_cases hab : 12 < deep
    · have d12 : (12 : Int) < (deep : Int) := by omega
      go_wp2_with (first | (go_at_call 113; refine NM2.mono ?_; rintro e w2 ⟨rfl, S2a, G2⟩; have FA := fail_in w2 r s _ av 2 (bl s i) S2a.rd 4 (bl s i); rw [failE_err (by omega), failA_err (by omega)] at FA) | (go_at_call 70; refine FA.mono ?_; rintro e w3 ⟨rfl, R3, K3⟩; have S3 := S2a.read K3 R3; have X3 := S3.boxed N; have HA := rhas1_in _ r s _ av 2 (bl s i) X3.st.rd 40; rw [isB_err (by omega)] at HA) | (go_at_call 114; refine HA.mono ?_; rintro e W ⟨rfl, R4, K4⟩))
      have X : S2 W base r av s _ 2 (bl s i) l vs w3.heap.size N [] (.slice none 0 0) := X3.read K4 R4
      have G : GR r w av W av := ((G2.kept1 K3).kept0 (Kept.alloc (Kept.refl _ w3) _)).kept1 K4
      have NV := NewV.refl w vs
      clear HA R4 K4 X3
      generalize w3.heap.size = x at *
      have gen : ∃ (c q : Nat) (avc : Value) (lc : List Tm) (vsc : List Value) (xs : List Nat) (v : Value) (j : Nat) (lx : List Tm), 1 ≤ c ∧ xs.length ≤ 5 ∧ S2 W base r avc s j c q lc vsc x N xs v ∧ GR r w av W avc ∧ NewV w vs vsc ∧ res = .bad c q lx := ⟨2, bl s i, av, l, vs, [], .slice none 0 0, _, _, by omega, by simp, X, G, NV, hres⟩
      clear X G NV hres
      obtain ⟨c, q, avc, lc, vsc, xs, v, j, lx, hc1, hx5, X, G, NV, rfl⟩ := gen
      obtain ⟨ca, cc, hcv⟩ := row_form X.arg
      subst hcv
      have rc2 := X.st.rd.c2
      have rc3 := X.st.rd.c3
      have y0 := X.c0
      have y1 := X.c1
      have dE : ((c : Int) != 0) = true := by simp; omega
      have CL : ∀ m, Calls Try.prog 115 #[avc, .agg #[.string N, .slice ca xs.length cc]] (W.drewN m) fun e w' => e = .returned (.bool (clashB lc ⟨N, xs⟩)) ∧ Kept0 (W.drewN m) w' := fun m => clashes_in (W.drewN m) base avc lc vsc (X.st.ls.drewN m) X.st.lo ⟨N, xs⟩ (.slice ca xs.length cc) X.arg (by simpa using hx5) X.st.four
      cases hcl : clashB lc ⟨N, xs⟩ with
      | false =>
        rw [hcl] at CL
        go_region_with (go_at_call 115; refine (CL _).mono ?_; rintro e w7 ⟨rfl, K7⟩; have X7 := (X.drewN _).kept0 K7; have e7 := X7.st.rd.c3)
        all_goals
          go_wp2_with fail
          go_ret
          exact ⟨rfl, avc, _, lc, vsc, X7.st, (G.step (Kept.drewN (Kept.refl (fun _ => False) W) _) (fun _ _ e => e.elim)).kept0 K7, NV⟩
      | true =>
        rw [hcl] at CL
        go_region_with (go_at_call 115; refine (CL _).mono ?_; rintro e w7 ⟨rfl, K7⟩; have X7 := (X.drewN _).kept0 K7; have FL := fail_in w7 r s _ avc c q X7.st.rd 5 (bl s i); rw [failE_err hc1, failA_err hc1] at FL)
        all_goals
          go_wp2_with (go_at_call 70; refine FL.mono ?_; rintro e w8 ⟨rfl, R8, K8⟩; have e8 := R8.c3)
          go_ret
          exact ⟨rfl, avc, _, lc, vsc, (X7.read K8 R8).st, ((G.step (Kept.drewN (Kept.refl (fun _ => False) W) _) (fun _ _ e => e.elim)).kept0 K7).kept1 K8, NV⟩
    · have d12 : ¬ (12 : Int) < (deep : Int) := by omega
      go_wp2_with (first | (go_at_call 113; refine NM2.mono ?_; rintro e w3 ⟨rfl, S3, G2⟩; have X3 := S3.boxed N; have HA := rhas1_in _ r s _ av 2 (bl s i) X3.st.rd 40; rw [isB_err (by omega)] at HA) | (go_at_call 114; refine HA.mono ?_; rintro e W ⟨rfl, R4, K4⟩))
      have X : S2 W base r av s _ 2 (bl s i) l vs w3.heap.size N [] (.slice none 0 0) := X3.read K4 R4
      have G : GR r w av W av := (G2.kept0 (Kept.alloc (Kept.refl _ w3) _)).kept1 K4
      have NV := NewV.refl w vs
      clear HA R4 K4 X3
      generalize w3.heap.size = x at *
      have gen : ∃ (c q : Nat) (avc : Value) (lc : List Tm) (vsc : List Value) (xs : List Nat) (v : Value) (j : Nat) (lx : List Tm), 1 ≤ c ∧ xs.length ≤ 5 ∧ S2 W base r avc s j c q lc vsc x N xs v ∧ GR r w av W avc ∧ NewV w vs vsc ∧ res = .bad c q lx := ⟨2, bl s i, av, l, vs, [], .slice none 0 0, _, _, by omega, by simp, X, G, NV, hres⟩
      clear X G NV hres
      obtain ⟨c, q, avc, lc, vsc, xs, v, j, lx, hc1, hx5, X, G, NV, rfl⟩ := gen
      obtain ⟨ca, cc, hcv⟩ := row_form X.arg
      subst hcv
      have rc2 := X.st.rd.c2
      have rc3 := X.st.rd.c3
      have y0 := X.c0
      have y1 := X.c1
      have dE : ((c : Int) != 0) = true := by simp; omega
      have CL : ∀ m, Calls Try.prog 115 #[avc, .agg #[.string N, .slice ca xs.length cc]] (W.drewN m) fun e w' => e = .returned (.bool (clashB lc ⟨N, xs⟩)) ∧ Kept0 (W.drewN m) w' := fun m => clashes_in (W.drewN m) base avc lc vsc (X.st.ls.drewN m) X.st.lo ⟨N, xs⟩ (.slice ca xs.length cc) X.arg (by simpa using hx5) X.st.four
      cases hcl : clashB lc ⟨N, xs⟩ with
      | false =>
        rw [hcl] at CL
        go_region_with (go_at_call 115; refine (CL _).mono ?_; rintro e w7 ⟨rfl, K7⟩; have X7 := (X.drewN _).kept0 K7; have e7 := X7.st.rd.c3)
        all_goals
          go_wp2_with fail
          go_ret
          exact ⟨rfl, avc, _, lc, vsc, X7.st, (G.step (Kept.drewN (Kept.refl (fun _ => False) W) _) (fun _ _ e => e.elim)).kept0 K7, NV⟩
      | true =>
        rw [hcl] at CL
        go_region_with (go_at_call 115; refine (CL _).mono ?_; rintro e w7 ⟨rfl, K7⟩; have X7 := (X.drewN _).kept0 K7; have FL := fail_in w7 r s _ avc c q X7.st.rd 5 (bl s i); rw [failE_err hc1, failA_err hc1] at FL)
        all_goals
          go_wp2_with (go_at_call 70; refine FL.mono ?_; rintro e w8 ⟨rfl, R8, K8⟩; have e8 := R8.c3)
          go_ret
          exact ⟨rfl, avc, _, lc, vsc, (X7.read K8 R8).st, ((G.step (Kept.drewN (Kept.refl (fun _ => False) W) _) (fun _ _ e => e.elim)).kept0 K7).kept1 K8, NV⟩
  | false =>
    rw [hbad] at NM hres
    rw [if_neg (by simp)] at hres
    simp only [Bool.false_eq_true, if_false] at NM
    have hnl := nm_lt hbad
    have hne := nmE_le hple
    have hn6 := nm_small hbad hple
    have NM2 : Calls Try.prog 113 #[.pointer (some ⟨r, 0, none⟩)] w fun x w' => x = .returned (.tuple #[.string (s.extract (bl s i) (nmE s (bl s i))), .int .i64 (bl s i : Int)]) ∧ S1 w' base r av s (nmE s (bl s i)) 0 0 l vs ∧ GR r w av w' av := NM.mono fun x w' hP => ⟨hP.1, h.read hP.2.1 hP.2.2, (GR.refl r w av).kept1 hP.2.1⟩
    clear NM
    generalize s.extract (bl s i) (nmE s (bl s i)) = N at *
    go_enter Try.func68, Try.ntmps68
    by_cases hab : 12 < deep
    · have d12 : (12 : Int) < (deep : Int) := by omega
      rw [if_pos hab] at hres
      replace hres := hres.symm
      go_wp2_with (first | (go_at_call 113; refine NM2.mono ?_; rintro e w2 ⟨rfl, S2a, G2⟩; have FA : Calls Try.prog 70 #[.pointer (some ⟨r, 0, none⟩), .int .i64 ((4 : Nat) : Int), .int .i64 (bl s i : Int)] w2 fun x w' => x = .returned (.tuple #[]) ∧ Rr w' r s (nmE s (bl s i)) av 4 (bl s i) ∧ Kept1 r w2 w' := fail_in w2 r s _ av 0 0 S2a.rd 4 (bl s i)) | (go_at_call 70; refine FA.mono ?_; rintro e w3 ⟨rfl, R3, K3⟩; have S3 := S2a.read K3 R3; have X3 := S3.boxed N; have HA := rhas1_in _ r s _ av 4 (bl s i) X3.st.rd 40; rw [isB_err (by omega)] at HA) | (go_at_call 114; refine HA.mono ?_; rintro e W ⟨rfl, R4, K4⟩))
      have X : S2 W base r av s _ 4 (bl s i) l vs w3.heap.size N [] (.slice none 0 0) := X3.read K4 R4
      have G : GR r w av W av := ((G2.kept1 K3).kept0 (Kept.alloc (Kept.refl _ w3) _)).kept1 K4
      have NV := NewV.refl w vs
      clear HA R4 K4 X3
      generalize w3.heap.size = x at *
      have gen : ∃ (c q : Nat) (avc : Value) (lc : List Tm) (vsc : List Value) (xs : List Nat) (v : Value) (j : Nat) (lx : List Tm), 1 ≤ c ∧ xs.length ≤ 5 ∧ S2 W base r avc s j c q lc vsc x N xs v ∧ GR r w av W avc ∧ NewV w vs vsc ∧ res = .bad c q lx := ⟨4, bl s i, av, l, vs, [], .slice none 0 0, _, _, by omega, by simp, X, G, NV, hres⟩
      clear X G NV hres
      obtain ⟨c, q, avc, lc, vsc, xs, v, j, lx, hc1, hx5, X, G, NV, rfl⟩ := gen
      obtain ⟨ca, cc, hcv⟩ := row_form X.arg
      subst hcv
      have rc2 := X.st.rd.c2
      have rc3 := X.st.rd.c3
      have y0 := X.c0
      have y1 := X.c1
      have dE : ((c : Int) != 0) = true := by simp; omega
      have CL : ∀ m, Calls Try.prog 115 #[avc, .agg #[.string N, .slice ca xs.length cc]] (W.drewN m) fun e w' => e = .returned (.bool (clashB lc ⟨N, xs⟩)) ∧ Kept0 (W.drewN m) w' := fun m => clashes_in (W.drewN m) base avc lc vsc (X.st.ls.drewN m) X.st.lo ⟨N, xs⟩ (.slice ca xs.length cc) X.arg (by simpa using hx5) X.st.four
      cases hcl : clashB lc ⟨N, xs⟩ with
      | false =>
        rw [hcl] at CL
        go_region_with (go_at_call 115; refine (CL _).mono ?_; rintro e w7 ⟨rfl, K7⟩; have X7 := (X.drewN _).kept0 K7; have e7 := X7.st.rd.c3)
        all_goals
          go_wp2_with fail
          go_ret
          exact ⟨rfl, avc, _, lc, vsc, X7.st, (G.step (Kept.drewN (Kept.refl (fun _ => False) W) _) (fun _ _ e => e.elim)).kept0 K7, NV⟩
      | true =>
        rw [hcl] at CL
        go_region_with (go_at_call 115; refine (CL _).mono ?_; rintro e w7 ⟨rfl, K7⟩; have X7 := (X.drewN _).kept0 K7; have FL := fail_in w7 r s _ avc c q X7.st.rd 5 (bl s i); rw [failE_err hc1, failA_err hc1] at FL)
        all_goals
          go_wp2_with (go_at_call 70; refine FL.mono ?_; rintro e w8 ⟨rfl, R8, K8⟩; have e8 := R8.c3)
          go_ret
          exact ⟨rfl, avc, _, lc, vsc, (X7.read K8 R8).st, ((G.step (Kept.drewN (Kept.refl (fun _ => False) W) _) (fun _ _ e => e.elim)).kept0 K7).kept1 K8, NV⟩
    · have d12 : ¬ (12 : Int) < (deep : Int) := by omega
      rcases hE with e | e
      · exact absurd e (by rw [hbad]; simp)
      · exact absurd e hab

end Go.Proofs.Ytinphcnknionmaa

namespace Go.Proofs.Ytinphcnknionmaa
open Go.RowKit

/-- Behind put: the list is laid into the reader. -/
theorem S1.stored {w w' : World} {base r : Nat} {av av' : Value} {s : ByteArray} {i e a : Nat} {l l' : List Tm} {vs vs' : List Value} (h : S1 w base r av s i e a l vs) (K : Kept (fun k => av.ownBlock = some k) w w') (L : Ls w' base av' l' vs') (hlo : l'.length ≤ 1000) (h4 : ∀ u ∈ l', u.args.length ≤ 4) :
    S1 (w'.setCell ⟨r, 2, none⟩ av') base r av' s i e a l' vs' := by
  have R : Rr w' r s i av e a := h.rd.of_block (K.block r h.rd.row.lt (row_ne h.ls.row h.rd.row (by decide)))
  have K2 : Kept1 r w' (w'.setCell ⟨r, 2, none⟩ av') := Kept1.set (Kept.refl _ w') _ _
  refine ⟨R.list av', L.blocks (fun b hb => K2.block b (row_lt L.row hb) (fun x => row_ne L.row R.row (by decide) (x ▸ hb))) (fun u hu b hb => ?_), Nat.le_trans h.bs (Nat.le_trans K.size K2.size), hlo, h4⟩
  obtain ⟨xs, hx⟩ := L.mem hu
  exact K2.block b (row_lt hx hb) (fun x => row_ne hx R.row (by decide) (x ▸ hb))

theorem putV_mem {l : List Tm} {t : Tm} {vs : List Value} {v u : Value} (h : u ∈ putV l t vs v) : u ∈ vs ∨ u = v := by
  unfold putV at h
  cases hn : nix l t with
  | some _ => rw [hn] at h; exact Or.inl h
  | none => rw [hn] at h; simpa using h
theorem addL_mem {l : List Tm} {t u : Tm} (h : u ∈ addL l t) : u ∈ l ∨ u = t := by
  unfold addL at h
  cases hn : nix l t with
  | some _ => rw [hn] at h; exact Or.inl h
  | none => rw [hn] at h; simpa using h

set_option maxHeartbeats 8000000 in
set_option maxRecDepth 100000 in
theorem rterm_plain (f : Nat) (w : World) (base r : Nat) (av : Value) (s : ByteArray) (i : Nat) (l : List Tm) (vs : List Value) (deep : Nat) (h : S1 w base r av s i 0 0 l vs) (hGo : Good l) (_hf : 2 * (s.size - bl s i) + 1 ≤ f + 1) (hb : l.length + (s.size - bl s i) ≤ 600) (hab : ¬ 12 < deep) (hbad : badNm s (bl s i) = false) (hst : stands s (bl s (nmE s (bl s i))) 40 = false) :
    Calls Try.prog 68 #[.pointer (some ⟨r, 0, none⟩), .int .i64 (deep : Int)] w (RPost w base r av s vs (pTerm s (f + 1) deep (bl s i) l)) := by
  have hsm := h.rd.small
  have hple := bl_le h.rd.le
  have NM := rname_in w r s i av 0 0 h.rd
  generalize hres : pTerm s (f + 1) deep (bl s i) l = res
  rw [pTerm] at hres
  unfold NmPost at NM
  rw [hbad] at NM hres
  rw [if_neg (by simp), if_neg hab] at hres
  simp only [Bool.false_eq_true, if_false] at NM
  have hnl := nm_lt hbad
  have hne := nmE_le hple
  have hbe := bl_ge s (nmE s (bl s i))
  have hbel := bl_le hne
  have NM2 : Calls Try.prog 113 #[.pointer (some ⟨r, 0, none⟩)] w fun x w' => x = .returned (.tuple #[.string (s.extract (bl s i) (nmE s (bl s i))), .int .i64 (bl s i : Int)]) ∧ S1 w' base r av s (nmE s (bl s i)) 0 0 l vs ∧ GR r w av w' av := NM.mono fun x w' hP => ⟨hP.1, h.read hP.2.1 hP.2.2, (GR.refl r w av).kept1 hP.2.1⟩
  clear NM
  generalize s.extract (bl s i) (nmE s (bl s i)) = N at *
  have d12 : ¬ (12 : Int) < (deep : Int) := by omega
  go_enter Try.func68, Try.ntmps68
  rw [hst, if_neg (by simp)] at hres
  replace hres := hres.symm
  go_wp2_with (first | (go_at_call 113; refine NM2.mono ?_; rintro e w3 ⟨rfl, S3, G2⟩; have X3 := S3.boxed N; have HA := rhas1_in _ r s _ av 0 0 X3.st.rd 40; rw [isB_ok, hst] at HA) | (go_at_call 114; refine HA.mono ?_; rintro e W ⟨rfl, R4, K4⟩))
  rw [hasI_no (by rw [isB_ok]; exact hst)] at R4
  have X : S2 W base r av s _ 0 0 l vs w3.heap.size N [] (.slice none 0 0) := X3.read K4 R4
  have G : GR r w av W av := (G2.kept0 (Kept.alloc (Kept.refl _ w3) _)).kept1 K4
  have NV := NewV.refl w vs
  clear HA R4 K4 X3
  generalize w3.heap.size = x at *
  have gen : ∃ (avc : Value) (lc : List Tm) (vsc : List Value) (xs : List Nat) (v : Value) (j : Nat), xs.length ≤ 4 ∧ S2 W base r avc s j 0 0 lc vsc x N xs v ∧ GR r w av W avc ∧ NewV w vs vsc ∧ (∀ k, v.ownBlock = some k → w.heap.size ≤ k) ∧ Good lc ∧ lc.length < 1000 ∧ res = pEnd ⟨N, xs⟩ (bl s i) (bl s j) lc := ⟨av, l, vs, [], .slice none 0 0, bl s (nmE s (bl s i)), by simp, X, G, NV, by simp [Value.ownBlock], hGo, by omega, by rw [bl_bl]; exact hres⟩
  clear X G NV hres
  obtain ⟨avc, lc, vsc, xs, v, j, hx4, X, G, NV, hvf, hGc, hlc, hres⟩ := gen
  obtain ⟨ca, cc, hcv⟩ := row_form X.arg
  subst hcv
  have rc2 := X.st.rd.c2
  have rc3 := X.st.rd.c3
  have y0 := X.c0
  have y1 := X.c1
  have CL : ∀ m, Calls Try.prog 115 #[avc, .agg #[.string N, .slice ca xs.length cc]] (W.drewN m) fun e w' => e = .returned (.bool (clashB lc ⟨N, xs⟩)) ∧ Kept0 (W.drewN m) w' := fun m => clashes_in (W.drewN m) base avc lc vsc (X.st.ls.drewN m) X.st.lo ⟨N, xs⟩ (.slice ca xs.length cc) X.arg (by simp; omega) X.st.four
  cases hcl : clashB lc ⟨N, xs⟩ with
  | true =>
    rw [hcl] at CL
    have hfit : fitsB lc ⟨N, xs⟩ = false := by have := clash_fits hGc ⟨N, xs⟩; rw [hcl] at this; simpa using this.symm
    have hr2 : res = .bad 5 (bl s i) lc := by rw [hres, pEnd, hfit]; rfl
    clear hres
    subst hr2
    go_region_with (go_at_call 115; refine (CL _).mono ?_; rintro e w7 ⟨rfl, K7⟩; have X7 := (X.drewN _).kept0 K7; have FL : Calls Try.prog 70 #[.pointer (some ⟨r, 0, none⟩), .int .i64 ((5 : Nat) : Int), .int .i64 (bl s i : Int)] w7 fun x w' => x = .returned (.tuple #[]) ∧ Rr w' r s _ avc 5 (bl s i) ∧ Kept1 r w7 w' := fail_in w7 r s _ avc 0 0 X7.st.rd 5 (bl s i))
    all_goals
      go_wp2_with (go_at_call 70; refine FL.mono ?_; rintro e w8 ⟨rfl, R8, K8⟩; have e8 := R8.c3)
      go_ret
      exact ⟨rfl, avc, _, lc, vsc, (X7.read K8 R8).st, ((G.step (Kept.drewN (Kept.refl (fun _ => False) W) _) (fun _ _ e => e.elim)).kept0 K7).kept1 K8, NV⟩
  | false =>
    rw [hcl] at CL
    have hfit : fitsB lc ⟨N, xs⟩ = true := by have := clash_fits hGc ⟨N, xs⟩; rw [hcl] at this; simpa using this.symm
    have hr2 : res = .ok (addN lc ⟨N, xs⟩) (bl s j) (addL lc ⟨N, xs⟩) := by rw [hres, pEnd, hfit]; rfl
    clear hres
    subst hr2
    go_region_with (go_at_call 115; refine (CL _).mono ?_; rintro e w7 ⟨rfl, K7⟩; have X7 := (X.drewN _).kept0 K7; have e7 := X7.st.rd.c3; have e72 := X7.st.rd.c2; have z0 := X7.c0; have z1 := X7.c1)
    all_goals
      clear rc2 rc3 y0 y1 CL
      have PUT : ∀ m, Calls Try.prog 116 #[avc, .agg #[.string N, .slice ca xs.length cc]] (w7.drewN m) (PutPost (w7.drewN m) base avc lc vsc ⟨N, xs⟩ (.slice ca xs.length cc)) := fun m => put_in (w7.drewN m) base avc lc vsc (X7.st.ls.drewN m) X7.st.lo ⟨N, xs⟩ (.slice ca xs.length cc) X7.arg X7.st.four X7.st.bs
      go_wp2_with fail
      go_region_with (go_at_call 116; refine (PUT _).mono ?_; rintro e w9 ⟨av9, rfl, L9, K9, loc9⟩; have R9 : Rr w9 r s _ avc 0 0 := (X7.st.rd.drewN _).of_block (K9.block r X7.st.rd.row.lt (row_ne X7.st.ls.row X7.st.rd.row (by decide))); have q2 := R9.c2; have q3 := R9.row.frozen 2; obtain ⟨pa, pc, hpv⟩ := L9.form; subst hpv)
      all_goals
        go_wp2_with fail
        go_ret
        have SS := (X7.st.drewN _).stored K9 L9 (by have := addL_len lc ⟨N, xs⟩; omega) (fun u hu => by
          rcases addL_mem hu with y | y
          · exact X7.st.four u y
          · rw [y]; exact hx4)
        have GB := ((G.step (Kept.drewN (Kept.refl (fun _ => False) W) 1) (fun _ _ e => e.elim)).kept0 K7)
        have GC := (GB.step (Kept.drewN (Kept.refl (fun _ => False) w7) 1) (fun _ _ e => e.elim)).step K9 (fun k _ e => Or.inr (Or.inl e))
        have hsz : w.heap.size ≤ w7.heap.size := GB.kept.size
        refine ⟨rfl, _, j, _, SS, rfl, ⟨(GC.step (Kept1.set (nb := r) (Kept.refl _ w9) 2 _) (fun _ _ e => Or.inl e)).kept, ?_⟩, ?_⟩
        · rcases loc9 with e | e
          · rcases G.row with e2 | e2
            · exact Or.inl (e.trans e2)
            · exact Or.inr fun k hk => e2 k (e ▸ hk)
          · exact Or.inr fun k hk => Nat.le_trans hsz (e k hk)
        · intro u hu
          rcases putV_mem hu with y | y
          · exact NV u y
          · rw [y]; exact Or.inr hvf

end Go.Proofs.Ytinphcnknionmaa
