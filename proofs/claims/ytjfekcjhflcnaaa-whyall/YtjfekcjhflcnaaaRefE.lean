/- The document's lists of terms: put. -/
import Derived.Test.YtjfekcjhflcnaaaRefD
namespace Go.Proofs.Ytjfekcjhflcnaaa
open Go.RowKit

theorem wpList_append_here {P : Program} {ops : Array Oper} {rest : List Oper} {o : Oper} {a : Act} {w : World} {Q : Exit → Act → World → Prop} (hgd : o.guard = none) (sl x : Operand) (t : TypeId)
    (ho : o.op = .call { callee := .builtin .append, args := #[sl, x], argTypes := #[t, t] })
    (base : Nat) (e : TypeId) (i : TypeInfo) (z : Value) (size bytes : Nat) (h1 : P.underlying t = some (.slice e)) (h2 : P.info? e = some i) (h3 : i.zero = some z) (h4 : i.size = size) (h5 : i.bytes = bytes) (h6 : z.cells.size = size) (h7 : 0 < size)
    (v : Value) (n : Nat) (xs : List Value) (hs : a.eval sl = v) (hown : w.ownsRow base e size v n xs)
    (ad : Addr) (m c : Nat) (news : List Value) (hx : a.eval x = .slice (some ad) m c) (hn : news.length = m * size) (hc : ∀ j u, news[j]? = some u → w.cell? (ad.add j) = some u) (h1c : ∀ u ∈ news, u.oneCell' = true)
    (b1 : n + m ≤ maxLen) (b2 : (n + m) * bytes ≤ 140737488355328) (hbase : base ≤ w.heap.size)
    (h : ∀ v' w', w'.ownsRow base e size v' (n + m) (xs ++ news) → w.grownBy w' v.ownBlock → (v'.ownBlock = v.ownBlock ∨ ∀ k, v'.ownBlock = some k → w.heap.size ≤ k) → wpList P ops Q rest (a.put o.dst v') w') : wpList P ops Q (o :: rest) a w := by
  refine wpList_plain hgd fun K hK => ?_
  obtain ⟨v', w', hr, r1, r2, r3⟩ := run_append_here (P := P) w base t o.type e i z size bytes h1 h2 h3 h4 h5 h6 h7 v n xs hown ad m c news hn hc h1c b1 b2 hbase
  unfold Oper.wp execOp
  simp only [ho, resolve, invoke, builtin, Sem.run_bind, Sem.run_pure, Result.andThen_ok, List.map_toArray, List.map_cons, List.map_nil, hs, hx, hr]
  exact hK _ _ (h v' w' r1 r2 r3)

/-- Rows of ints and rows of terms lie apart. -/
theorem rows_apart {w : World} {base base' : Nat} {e e' : TypeId} {k k' n n' : Nat} {v v' : Value} {xs xs' : List Value} (he : e ≠ e') (h : w.ownsRow base e k v n xs) (h' : w.ownsRow base' e' k' v' n' xs') : v.ownBlock = none ∨ v.ownBlock ≠ v'.ownBlock := by
  rcases h.2 with ⟨rfl, _⟩ | ⟨b, cap, cur, rfl, _, hb, _⟩
  · exact Or.inl rfl
  · rcases h'.2 with ⟨rfl, _⟩ | ⟨b', cap', cur', rfl, _, hb', _⟩
    · exact Or.inr (by simp [Value.ownBlock])
    · refine Or.inr fun x => ?_
      simp [Value.ownBlock] at x
      subst x
      rw [hb] at hb'
      injection hb' with e1
      injection e1 with _ e2
      exact he e2

theorem lsC_snoc {l : List Tm} {vs : List Value} (h : vs.length = l.length) (t : Tm) (v : Value) : lsC (l ++ [t]) (vs ++ [v]) = lsC l vs ++ [.string t.name, v] := by
  unfold lsC
  rw [List.zip_append h.symm]
  simp

theorem Ls.snoc {w w' : World} {base : Nat} {av v' : Value} {l : List Tm} {vs : List Value} (h : Ls w base av l vs) {t : Tm} {v : Value} (hv : ArgsAt1 w base t.args v) (hr : w'.ownsRow base 114 2 v' (l.length + 1) (lsC l vs ++ [.string t.name, v])) (hg : w.grownBy w' av.ownBlock) : Ls w' base v' (l ++ [t]) (vs ++ [v]) := by
  have keep : ∀ xs u, ArgsAt1 w base xs u → ArgsAt1 w' base xs u := fun xs u hu => hu.kept hg (rows_apart (by decide) hu h.row)
  refine ⟨by simp [h.len], by rw [lsC_snoc h.len]; simpa using hr, ?_⟩
  intro i t' u h1 h2
  by_cases hi : i < l.length
  · rw [List.getElem?_append_left hi] at h1
    rw [List.getElem?_append_left (by rw [h.len]; exact hi)] at h2
    exact keep _ _ (h.args i t' u h1 h2)
  · have hi2 := (List.getElem?_eq_some_iff.1 h1).1
    have e : i = l.length := by simp at hi2; omega
    subst e
    simp at h1
    rw [← h.len] at h2
    simp at h2
    subst h1 h2
    exact keep _ _ hv

theorem infoRT : (Try.prog.info? 114).map (fun i => (i.zero, i.size, i.bytes)) = some (some (.agg #[.string ⟨#[]⟩, .slice none 0 0]), 2, 40) := by kernel_rfl

def putV (l : List Tm) (t : Tm) (vs : List Value) (v : Value) : List Value := match nix l t with
  | some _ => vs
  | none => vs ++ [v]

/-- What put leaves. -/
def PutPost (w : World) (base : Nat) (av : Value) (l : List Tm) (vs : List Value) (t : Tm) (v : Value) (e : Ending) (w' : World) : Prop :=
  ∃ av', e = .returned (.tuple #[av', .int .i64 (addN l t : Int)]) ∧ Ls w' base av' (addL l t) (putV l t vs v) ∧ Kept (fun k => av.ownBlock = some k) w w' ∧ (av'.ownBlock = av.ownBlock ∨ ∀ k, av'.ownBlock = some k → w.heap.size ≤ k)

theorem nix_first {l : List Tm} {t : Tm} {k : Nat} (hk : l[k]? = some t) (h : ∀ j, j < k → l[j]? ≠ some t) : nix l t = some k := by
  unfold nix
  rw [List.findIdx?_eq_some_iff_getElem]
  obtain ⟨h1, h2⟩ := List.getElem?_eq_some_iff.1 hk
  refine ⟨h1, decide_eq_true h2, fun j hj => ?_⟩
  have := h j hj
  rw [List.getElem?_eq_getElem (by omega)] at this
  simpa using this
theorem nix_nowhere {l : List Tm} {t : Tm} (h : ∀ j, j < l.length → l[j]? ≠ some t) : nix l t = none := by
  unfold nix
  rw [List.findIdx?_eq_none_iff]
  intro x hx
  obtain ⟨j, hj, rfl⟩ := List.getElem_of_mem hx
  have := h j hj
  rw [List.getElem?_eq_getElem hj] at this
  simpa using this

theorem two_new (w : World) (a b : Value) : ∀ j u, ([a, b] : List Value)[j]? = some u → (w.alloc (.cells #[a, b] 114)).cell? ((⟨w.heap.size, 0, none⟩ : Addr).add j) = some u := by
  intro j u hj
  match j, hj with
  | 0, hj => simp at hj; subst hj; simp [Addr.add]
  | 1, hj => simp at hj; subst hj; simp [Addr.add]

set_option maxHeartbeats 2000000 in
set_option maxRecDepth 100000 in
theorem put_in (w : World) (base : Nat) (av : Value) (l : List Tm) (vs : List Value) (h : Ls w base av l vs) (hl : l.length ≤ 1000) (t : Tm) (v : Value) (hv : ArgsAt1 w base t.args v) (hu4 : ∀ u ∈ l, u.args.length ≤ 4) (hbase : base ≤ w.heap.size) :
    Calls Try.prog 116 #[av, .agg #[.string t.name, v]] w (PutPost w base av l vs t v) := by
  obtain ⟨ta, tc, rfl⟩ := row_form hv
  obtain ⟨aa, ac, rfl⟩ := h.form
  have K1 : Kept0 w (w.alloc (.cells #[.string t.name, .slice ta t.args.length tc] 114)) := Kept.alloc (Kept.refl _ w) _
  have R1 := made_row w #[.string t.name, .slice ta t.args.length tc] 114
  generalize hw1 : w.alloc (.cells #[.string t.name, .slice ta t.args.length tc] 114) = w1 at *
  have L1 := h.kept0 K1
  have V1 := hv.kept K1.grownBy (Decidable.em _)
  go_enter Try.func116, Try.ntmps116
  go_wp2_with fail
  clear hw1
  generalize w.heap.size = x at R1 ⊢
  go_loopw [6] (fun t6 W => ∃ k : Nat, k ≤ l.length ∧ t6 = .int .i64 (k : Int) ∧ Hid (∀ j, j < k → l[j]? ≠ some t) ∧ Hid (Kept0 w1 W)) (fun t6 _ => l.length - (intOf t6).toNat)
  case atStart => exact ⟨0, by omega, rfl, fun j hj => absurd hj (by omega), Kept.refl _ w1⟩
  case round =>
    obtain ⟨k, hk, rfl, hne, KK⟩ := hrel
    have LW := L1.kept0 KK.out
    have VW := V1.kept KK.out.grownBy (Decidable.em _)
    have RW := World.rowIs.of_block R1 (KK.out.block x (World.rowIs.lt R1) (fun e => e))
    have a0 : wr.cell? ⟨x, 0, none⟩ = some (.string t.name) := World.rowIs.cell RW (i := 0) (by simp)
    have a1 : wr.cell? ⟨x, 1, none⟩ = some (.slice ta t.args.length tc) := World.rowIs.cell RW (i := 1) (by simp)
    by_cases hk2 : k < l.length
    · have dk : decide ((k : Int) < (l.length : Int)) = true := decide_eq_true (by omega)
      have hu : l[k]? = some l[k] := List.getElem?_eq_getElem hk2
      have hu4' := hu4 _ (List.getElem_mem hk2)
      generalize hgu : l[k] = u at hu hu4'
      obtain ⟨g, cap, vu, hg, _, g0, g1, hvu⟩ := LW.at hu
      injection hg with e1 _ e3
      subst e1 e3
      obtain ⟨ua, uc, rfl⟩ := row_form hvu
      have SAME := fun m => same1_in (wr.drewN m) base u t (.slice ua u.args.length uc) (.slice ta t.args.length tc) hvu VW hu4'
      by_cases he : u = t
      · rw [decide_eq_true he] at SAME
        have hN : nix l t = some k := nix_first (he ▸ hu) hne.out
        clear he hgu
        go_wp2_with fail
        go_region_with (go_at_call 148; refine (SAME _).mono ?_; rintro e w3 ⟨rfl, K3⟩)
        all_goals
          go_wp2_with fail
          go_ret2
          have K4 : Kept0 w1 w3 := Kept.trans (Kept.drewN KK.out _) K3
          have K5 : Kept0 w w3 := Kept.trans K1 K4
          exact ⟨_, by simp [addN, hN], by simpa [addL, putV, hN] using h.kept0 K5, Kept.mono K5 (fun _ _ e => e.elim), Or.inl rfl⟩
      · rw [decide_eq_false he] at SAME
        have hne2 : Hid (∀ j, j < k + 1 → l[j]? ≠ some t) := fun j hj => by
          by_cases e : j = k
          · subst e
            rw [hu]
            simpa using he
          · exact hne.out j (by omega)
        clear he hgu
        go_wp2_with fail
        go_region_with (go_at_call 148; refine (SAME _).mono ?_; rintro e w3 ⟨rfl, K3⟩)
        all_goals
          go_wp2_with fail
          go_roundw
          case rel => exact ⟨k + 1, by omega, by go_num, hne2, Kept.trans (Kept.drewN KK.out _) K3⟩
          case measure => simp [intOf]; omega
    · have dk : decide ((k : Int) < (l.length : Int)) = false := decide_eq_false (by omega)
      have hN : nix l t = none := nix_nowhere fun j hj => hne.out j (by omega)
      obtain ⟨i0, hi0, hz0, hz1, hz2⟩ := info_parts infoRT
      have hsz := KK.out.size
      have hsz1 := K1.size
      have NEWS := two_new wr (.string t.name) (.slice ta t.args.length tc)
      clear dk hne
      have dk : decide ((k : Int) < (l.length : Int)) = false := decide_eq_false (by omega)
      have hlenb : Hid (l.length ≤ 1000) := hl
      go_wp2_with (at_builtin; refine wpList_append_here rfl _ _ 26 rfl base 114 i0 _ 2 40 Try.underlying26 hi0 hz0 hz1 hz2 rfl (by decide) _ l.length (lsC l vs) rfl (LW.row.alloc _) ⟨wr.heap.size, 0, none⟩ 1 1 [.string t.name, .slice ta t.args.length tc] rfl rfl NEWS (by simp [Value.oneCell']) (by unfold maxLen; omega) (by omega) (by simp; omega) ?_; intro v' w5 hown5 hgrow hloc)
      go_ret2
      have K4 : Kept0 w (wr.alloc (.cells #[.string t.name, .slice ta t.args.length tc] 114)) := (Kept.trans K1 KK.out).alloc _
      have LA : Ls (wr.alloc (.cells #[.string t.name, .slice ta t.args.length tc] 114)) base (.slice aa l.length ac) l vs := h.kept0 K4
      refine ⟨v', by simp [addN, hN], ?_, Kept.grown (Kept.mono K4 (fun _ _ e => e.elim)) hgrow (fun k e => e), ?_⟩
      · have := LA.snoc (hv.kept K4.grownBy (Decidable.em _)) hown5 hgrow
        simpa [addL, putV, hN] using this
      · rcases hloc with e | e
        · exact Or.inl e
        · refine Or.inr fun k hk => ?_
          have h1 := e k hk
          have h2 := K4.size
          omega
