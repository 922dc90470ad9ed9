/- The document's lists of terms: put. The document's reader against the parser: what is wanted, plainly. -/
import Derived.Test.YtinphcnknionmaaG26
import Derived.Test.YtinphcnknionmaaSRefB
namespace Go.Proofs.Ytinphcnknionmaa
open Go.RowKit

theorem wpList_append_here {P : Program} {ops : Array Oper} {rest : List Oper} {o : Oper} {a : Act} {w : World} {Q : Exit → Act → World → Prop} (hgd : o.guard = none) (sl x : Operand) (t : TypeId)
    (ho : o.op = .call { callee := .builtin .append, args := #[sl, x], argTypes := #[t, t] })
    (base : Nat) (e : TypeId) (i : TypeInfo) (z : Value) (size bytes : Nat) (h1 : P.underlying t = some (.slice e)) (h2 : P.info? e = some i) (h3 : i.zero = some z) (h4 : i.size = size) (h5 : i.bytes = bytes) (h6 : z.cells.size = size) (h7 : 0 < size)
    (v : Value) (n : Nat) (xs : List Value) (hs : a.eval sl = v) (hown : w.ownsRow base e size v n xs)
    (ad : Addr) (m c : Nat) (news : List Value) (hx : a.eval x = .slice (some ad) m c) (hn : news.length = m * size) (hc : ∀ j u, news[j]? = some u → w.cell? (ad.add j) = some u) (h1c : ∀ u ∈ news, u.oneCell' = true)
    (b1 : n + m ≤ maxLen) (b2 : (n + m) * bytes ≤ 140737488355328) (hbase : base ≤ w.heap.size)
    (h : ∀ v' w', w'.ownsRow base e size v' (n + m) (xs ++ news) → w.grownBy w' v.ownBlock → (v'.ownBlock = v.ownBlock ∨ ∀ k, v'.ownBlock = some k → w.heap.size ≤ k) → wpList P ops Q rest (a.put o.dst v') w') : wpList P ops Q (o :: rest) a w := by
  refine wpList_plain hgd fun K hK => ?_
  obtain ⟨v', w', hr, r1, r2, r3⟩ := run_append_here (P := P) w base t o.type e i z size bytes h1 h2 h3 h4 h5 h6 h7 v n xs hown ad m c news hn hc h1c b1 b2 hbase
  unfold Oper.wp execOp
  simp only [ho, resolve, invoke, builtin, Sem.run_bind, Sem.run_pure, Result.andThen_ok, List.map_toArray, List.map_cons, List.map_nil, hs, hx, hr]
  exact hK _ _ (h v' w' r1 r2 r3)

/-- Rows of ints and rows of terms lie apart. -/
theorem rows_apart {w : World} {base base' : Nat} {e e' : TypeId} {k k' n n' : Nat} {v v' : Value} {xs xs' : List Value} (he : e ≠ e') (h : w.ownsRow base e k v n xs) (h' : w.ownsRow base' e' k' v' n' xs') : v.ownBlock = none ∨ v.ownBlock ≠ v'.ownBlock := by
  rcases h.2 with ⟨rfl, _⟩ | ⟨b, cap, cur, rfl, _, hb, _⟩
  · exact Or.inl rfl
  · rcases h'.2 with ⟨rfl, _⟩ | ⟨b', cap', cur', rfl, _, hb', _⟩
    · exact Or.inr (by simp [Value.ownBlock])
    · refine Or.inr fun x => ?_
      simp [Value.ownBlock] at x
      subst x
      rw [hb] at hb'
      injection hb' with e1
      injection e1 with _ e2
      exact he e2

theorem lsC_snoc {l : List Tm} {vs : List Value} (h : vs.length = l.length) (t : Tm) (v : Value) : lsC (l ++ [t]) (vs ++ [v]) = lsC l vs ++ [.string t.name, v] := by
  unfold lsC
  rw [List.zip_append h.symm]
  simp

theorem Ls.snoc {w w' : World} {base : Nat} {av v' : Value} {l : List Tm} {vs : List Value} (h : Ls w base av l vs) {t : Tm} {v : Value} (hv : ArgsAt1 w base t.args v) (hr : w'.ownsRow base 114 2 v' (l.length + 1) (lsC l vs ++ [.string t.name, v])) (hg : w.grownBy w' av.ownBlock) : Ls w' base v' (l ++ [t]) (vs ++ [v]) := by
  have keep : ∀ xs u, ArgsAt1 w base xs u → ArgsAt1 w' base xs u := fun xs u hu => hu.kept hg (rows_apart (by decide) hu h.row)
  refine ⟨by simp [h.len], by rw [lsC_snoc h.len]; simpa using hr, ?_⟩
  intro i t' u h1 h2
  by_cases hi : i < l.length
  · rw [List.getElem?_append_left hi] at h1
    rw [List.getElem?_append_left (by rw [h.len]; exact hi)] at h2
    exact keep _ _ (h.args i t' u h1 h2)
  · have hi2 := (List.getElem?_eq_some_iff.1 h1).1
    have e : i = l.length := by simp at hi2; omega
    subst e
    simp at h1
    rw [← h.len] at h2
    simp at h2
    subst h1 h2
    exact keep _ _ hv

theorem infoRT : (Try.prog.info? 114).map (fun i => (i.zero, i.size, i.bytes)) = some (some (.agg #[.string ⟨#[]⟩, .slice none 0 0]), 2, 40) := by kernel_rfl

def putV (l : List Tm) (t : Tm) (vs : List Value) (v : Value) : List Value := match nix l t with
  | some _ => vs
  | none => vs ++ [v]

/-- What put leaves. -/
def PutPost (w : World) (base : Nat) (av : Value) (l : List Tm) (vs : List Value) (t : Tm) (v : Value) (e : Ending) (w' : World) : Prop :=
  ∃ av', e = .returned (.tuple #[av', .int .i64 (addN l t : Int)]) ∧ Ls w' base av' (addL l t) (putV l t vs v) ∧ Kept (fun k => av.ownBlock = some k) w w' ∧ (av'.ownBlock = av.ownBlock ∨ ∀ k, av'.ownBlock = some k → w.heap.size ≤ k)

theorem nix_first {l : List Tm} {t : Tm} {k : Nat} (hk : l[k]? = some t) (h : ∀ j, j < k → l[j]? ≠ some t) : nix l t = some k := by
  unfold nix
  rw [List.findIdx?_eq_some_iff_getElem]
  obtain ⟨h1, h2⟩ := List.getElem?_eq_some_iff.1 hk
  refine ⟨h1, decide_eq_true h2, fun j hj => ?_⟩
  have := h j hj
  rw [List.getElem?_eq_getElem (by omega)] at this
  simpa using this
theorem nix_nowhere {l : List Tm} {t : Tm} (h : ∀ j, j < l.length → l[j]? ≠ some t) : nix l t = none := by
  unfold nix
  rw [List.findIdx?_eq_none_iff]
  intro x hx
  obtain ⟨j, hj, rfl⟩ := List.getElem_of_mem hx
  have := h j hj
  rw [List.getElem?_eq_getElem hj] at this
  simpa using this

theorem two_new (w : World) (a b : Value) : ∀ j u, ([a, b] : List Value)[j]? = some u → (w.alloc (.cells #[a, b] 114)).cell? ((⟨w.heap.size, 0, none⟩ : Addr).add j) = some u := by
  intro j u hj
  match j, hj with
  | 0, hj => simp at hj; subst hj; simp [Addr.add]
  | 1, hj => simp at hj; subst hj; simp [Addr.add]

set_option maxHeartbeats 2000000 in
set_option maxRecDepth 100000 in
theorem put_in (w : World) (base : Nat) (av : Value) (l : List Tm) (vs : List Value) (h : Ls w base av l vs) (hl : l.length ≤ 1000) (t : Tm) (v : Value) (hv : ArgsAt1 w base t.args v) (hu4 : ∀ u ∈ l, u.args.length ≤ 4) (hbase : base ≤ w.heap.size) :
    Calls Try.prog 116 #[av, .agg #[.string t.name, v]] w (PutPost w base av l vs t v) := by
  obtain ⟨ta, tc, rfl⟩ := row_form hv
  obtain ⟨aa, ac, rfl⟩ := h.form
  have K1 : Kept0 w (w.alloc (.cells #[.string t.name, .slice ta t.args.length tc] 114)) := Kept.alloc (Kept.refl _ w) _
  have R1 := made_row w #[.string t.name, .slice ta t.args.length tc] 114
  generalize hw1 : w.alloc (.cells #[.string t.name, .slice ta t.args.length tc] 114) = w1 at *
  have L1 := h.kept0 K1
  have V1 := hv.kept K1.grownBy (Decidable.em _)
  go_enter Try.func116, Try.ntmps116
  go_wp2_with fail
  clear hw1
  generalize w.heap.size = x at R1 ⊢
  go_loopw [6] (fun t6 W => ∃ k : Nat, k ≤ l.length ∧ t6 = .int .i64 (k : Int) ∧ Hid (∀ j, j < k → l[j]? ≠ some t) ∧ Hid (Kept0 w1 W)) (fun t6 _ => l.length - (intOf t6).toNat)
  case atStart => exact ⟨0, by omega, rfl, fun j hj => absurd hj (by omega), Kept.refl _ w1⟩
  case round =>
    obtain ⟨k, hk, rfl, hne, KK⟩ := hrel
    have LW := L1.kept0 KK.out
    have VW := V1.kept KK.out.grownBy (Decidable.em _)
    have RW := World.rowIs.of_block R1 (KK.out.block x (World.rowIs.lt R1) (fun e => e))
    have a0 : wr.cell? ⟨x, 0, none⟩ = some (.string t.name) := World.rowIs.cell RW (i := 0) (by simp)
    have a1 : wr.cell? ⟨x, 1, none⟩ = some (.slice ta t.args.length tc) := World.rowIs.cell RW (i := 1) (by simp)
    by_cases hk2 : k < l.length
    · have dk : decide ((k : Int) < (l.length : Int)) = true := decide_eq_true (by omega)
      have hu : l[k]? = some l[k] := List.getElem?_eq_getElem hk2
      have hu4' := hu4 _ (List.getElem_mem hk2)
      generalize hgu : l[k] = u at hu hu4'
      obtain ⟨g, cap, vu, hg, _, g0, g1, hvu⟩ := LW.at hu
      injection hg with e1 _ e3
      subst e1 e3
      obtain ⟨ua, uc, rfl⟩ := row_form hvu
      have SAME := fun m => same1_in (wr.drewN m) base u t (.slice ua u.args.length uc) (.slice ta t.args.length tc) hvu VW hu4'
      by_cases he : u = t
      · rw [decide_eq_true he] at SAME
        have hN : nix l t = some k := nix_first (he ▸ hu) hne.out
        clear he hgu
        go_wp2_with fail
        go_region_with (go_at_call 148; refine (SAME _).mono ?_; rintro e w3 ⟨rfl, K3⟩)
        all_goals
          go_wp2_with fail
          go_ret2
          have K4 : Kept0 w1 w3 := Kept.trans (Kept.drewN KK.out _) K3
          have K5 : Kept0 w w3 := Kept.trans K1 K4
          exact ⟨_, by simp [addN, hN], by simpa [addL, putV, hN] using h.kept0 K5, Kept.mono K5 (fun _ _ e => e.elim), Or.inl rfl⟩
      · rw [decide_eq_false he] at SAME
        have hne2 : Hid (∀ j, j < k + 1 → l[j]? ≠ some t) := fun j hj => by
          by_cases e : j = k
          · subst e
            rw [hu]
            simpa using he
          · exact hne.out j (by omega)
        clear he hgu
        go_wp2_with fail
        go_region_with (go_at_call 148; refine (SAME _).mono ?_; rintro e w3 ⟨rfl, K3⟩)
        all_goals
          go_wp2_with fail
          go_roundw
          case rel => exact ⟨k + 1, by omega, by go_num, hne2, Kept.trans (Kept.drewN KK.out _) K3⟩
          case measure => simp [intOf]; omega
    · have dk : decide ((k : Int) < (l.length : Int)) = false := decide_eq_false (by omega)
      have hN : nix l t = none := nix_nowhere fun j hj => hne.out j (by omega)
      obtain ⟨i0, hi0, hz0, hz1, hz2⟩ := info_parts infoRT
      have hsz := KK.out.size
      have hsz1 := K1.size
      have NEWS := two_new wr (.string t.name) (.slice ta t.args.length tc)
      clear dk hne
      have dk : decide ((k : Int) < (l.length : Int)) = false := decide_eq_false (by omega)
      have hlenb : Hid (l.length ≤ 1000) := hl
      go_wp2_with (at_builtin; refine wpList_append_here rfl _ _ 26 rfl base 114 i0 _ 2 40 Try.underlying26 hi0 hz0 hz1 hz2 rfl (by decide) _ l.length (lsC l vs) rfl (LW.row.alloc _) ⟨wr.heap.size, 0, none⟩ 1 1 [.string t.name, .slice ta t.args.length tc] rfl rfl NEWS (by simp [Value.oneCell']) (by unfold maxLen; omega) (by omega) (by simp; omega) ?_; intro v' w5 hown5 hgrow hloc)
      go_ret2
      have K4 : Kept0 w (wr.alloc (.cells #[.string t.name, .slice ta t.args.length tc] 114)) := (Kept.trans K1 KK.out).alloc _
      have LA : Ls (wr.alloc (.cells #[.string t.name, .slice ta t.args.length tc] 114)) base (.slice aa l.length ac) l vs := h.kept0 K4
      refine ⟨v', by simp [addN, hN], ?_, Kept.grown (Kept.mono K4 (fun _ _ e => e.elim)) hgrow (fun k e => e), ?_⟩
      · have := LA.snoc (hv.kept K4.grownBy (Decidable.em _)) hown5 hgrow
        simpa [addL, putV, hN] using this
      · rcases hloc with e | e
        · exact Or.inl e
        · refine Or.inr fun k hk => ?_
          have h1 := e k hk
          have h2 := K4.size
          omega

end Go.Proofs.Ytinphcnknionmaa

namespace Go.Proofs.Ytinphcnknionmaa
open Go.RowKit

/-- Names have one number of args each, at most 4. -/
structure Good (l : List Tm) : Prop where
  one : ∀ t ∈ l, ∀ u ∈ l, t.name = u.name → t.args.length = u.args.length
  four : ∀ t ∈ l, t.args.length ≤ 4

theorem fst_none' {l : List Tm} {n : ByteArray} (h : fst l n = none) : ∀ u ∈ l, u.name ≠ n := by
  intro u hu
  have := List.findIdx?_eq_none_iff.1 h u hu
  simpa using this

theorem clash_fits {l : List Tm} (h : Good l) (t : Tm) : clashB l t = !fitsB l t := by
  unfold fitsB
  cases hf : fst l t.name with
  | none =>
    have h1 := fst_none' hf
    have : clashB l t = false := List.any_eq_false.2 fun u hu => by simp [clashP, h1 u hu]
    simp [this]
  | some i =>
    obtain ⟨u, hu, hun⟩ := fst_some hf
    have hum := List.mem_of_getElem? hu
    simp only [hu]
    by_cases hq : u.args.length = t.args.length
    · have : clashB l t = false := List.any_eq_false.2 fun u' hu' => by
        simp only [clashP, Bool.and_eq_true, decide_eq_true_eq, not_and, ne_eq, Decidable.not_not]
        intro e
        rw [h.one u' hu' u hum (e.trans hun.symm), hq]
      simp [this, hq]
    · have : clashB l t = true := List.any_eq_true.2 ⟨u, hum, by simp [clashP, hun, hq]⟩
      simp [this, hq]

theorem Good.add {l : List Tm} (h : Good l) {t : Tm} (hf : fitsB l t = true) (h4 : t.args.length ≤ 4) : Good (addL l t) := by
  have hc : clashB l t = false := by rw [clash_fits h, hf]; rfl
  have key : ∀ u ∈ l, u.name = t.name → u.args.length = t.args.length := by
    intro u hu e
    have := List.any_eq_false.1 hc u hu
    simp only [clashP, Bool.and_eq_true, decide_eq_true_eq, not_and, ne_eq, Decidable.not_not] at this
    exact this e
  unfold addL
  cases nix l t with
  | some i => exact h
  | none =>
    refine ⟨?_, ?_⟩
    · intro a ha b hb e
      simp only [List.mem_append, List.mem_singleton] at ha hb
      rcases ha with ha | rfl <;> rcases hb with hb | rfl
      · exact h.one a ha b hb e
      · exact key a ha e
      · exact (key b hb e.symm).symm
      · rfl
    · intro a ha
      simp only [List.mem_append, List.mem_singleton] at ha
      rcases ha with ha | rfl
      · exact h.four a ha
      · exact h4

theorem p_good (s : ByteArray) : ∀ f : Nat,
    (∀ above i l n k l', i ≤ s.size → Good l → pTerm s f above i l = .ok n k l' → Good l') ∧
    (∀ above i l xs x k l', i ≤ s.size → xs.length ≤ 4 → Good l → pArgs s f above i l xs = .ok x k l' → Good l' ∧ x.length ≤ 4)
  | 0 => ⟨fun _ _ _ _ _ _ _ _ e => (by rw [pTerm] at e; cases e), fun _ _ _ _ _ _ _ _ _ _ e => (by rw [pArgs] at e; cases e)⟩
  | f + 1 => by
    obtain ⟨IT, IA⟩ := p_good s f
    obtain ⟨GT, GA⟩ := p_grows s f
    constructor
    · intro above i l n k l' hi hg e
      rw [pTerm] at e
      split at e
      · cases e
      · have h4 := bl_le (nmE_le hi)
        split at e
        · cases e
        · split at e
          · have h6 := behind_le (c := 40) h4
            split at e
            · cases e
            · next xs k2 l2 hx =>
              obtain ⟨A1, A2⟩ := IA _ _ _ _ _ _ _ h6 (by simp) hg hx
              unfold pEnd at e
              split at e
              · next hf =>
                injection e with e1 e2 e3
                subst e3
                exact A1.add hf A2
              · cases e
          · unfold pEnd at e
            split at e
            · next hf =>
              injection e with e1 e2 e3
              subst e3
              exact hg.add hf (by simp)
            · cases e
    · intro above i l xs x k l' hi hx4 hg e
      rw [pArgs] at e
      split at e
      · cases e
      · split at e
        · cases e
        · split at e
          · cases e
          · next n k2 l2 hx =>
            have A1 := IT _ _ _ _ _ _ hi hg hx
            obtain ⟨B2, B3⟩ := (GT above i l hi).2 n k2 l2 hx
            have hl4 : (xs ++ [n]).length ≤ 4 := by simp; omega
            split at e
            · injection e with e1 e2 e3
              subst e1 e3
              exact ⟨A1, hl4⟩
            · split at e
              · exact IA _ _ _ _ _ _ _ (behind_le B3) hl4 A1 e
              · cases e

theorem bl_bl (s : ByteArray) (i : Nat) : bl s (bl s i) = bl s i := by
  induction i using bl.induct s with
  | case1 i h ih => rw [bl_at h.1 h.2]; exact ih
  | case2 i h => rw [bl_end h, bl_end h]

theorem pTerm_end (s : ByteArray) (f above : Nat) (l : List Tm) : pTerm s (f + 1) above s.size l = .bad 2 s.size l := by
  have h : badNm s s.size = true := by
    have : nmE s s.size = s.size := nmE_end (fun x => by omega)
    simp [badNm, this]
  rw [pTerm, h]
  rfl

/-- The args as the document reads them. -/
theorem pArgs_ref (s : ByteArray) (g above k : Nat) (l : List Tm) (xs : List Nat) (hk : k ≤ s.size) : pArgs s (g + 2) above k l xs =
    if xs.length = 4 ∧ k < s.size then .bad 3 k l else match pTerm s (g + 1) above k l with
      | .bad e p l' => .bad e p l'
      | .ok n k l' => if stands s k 44 then pArgs s (g + 1) above (behind s k 44) l' (xs ++ [n]) else if stands s k 41 then .ok (xs ++ [n]) (behind s k 41) l' else .bad 2 k l' := by
  rw [pArgs]
  by_cases h1 : k = s.size
  · subst h1
    rw [if_pos rfl, if_neg (by omega), pTerm_end]
  · rw [if_neg h1]
    by_cases h2 : xs.length = 4
    · rw [if_pos h2, if_pos ⟨h2, by omega⟩]
    · rw [if_neg h2, if_neg (by omega)]
      cases pTerm s (g + 1) above k l with
      | bad e p l' => rfl
      | ok n k' l' =>
        simp only
        by_cases h41 : stands s k' 41 = true
        · have h44 : stands s k' 44 = false := by
            have := of_decide_eq_true h41
            exact decide_eq_false fun x => by omega
          simp [h41, h44]
        · simp [h41]

theorem p_bad (s : ByteArray) : ∀ f : Nat,
    (∀ above i l c q l', i ≤ s.size → 2 * (s.size - i) + 1 ≤ f → pTerm s f above i l = .bad c q l' → 1 ≤ c ∧ c ≤ 5) ∧
    (∀ above i l xs c q l', i ≤ s.size → 2 * (s.size - i) + 2 ≤ f → pArgs s f above i l xs = .bad c q l' → 1 ≤ c ∧ c ≤ 5)
  | 0 => ⟨fun _ _ _ _ _ _ _ h => absurd h (by omega), fun _ _ _ _ _ _ _ _ h => absurd h (by omega)⟩
  | f + 1 => by
    obtain ⟨IT, IA⟩ := p_bad s f
    obtain ⟨GT, GA⟩ := p_grows s f
    constructor
    · intro above i l c q l' hi hf e
      rw [pTerm] at e
      split at e
      · injection e with e1; omega
      · next hb =>
        have hb' : badNm s i = false := by simpa using hb
        have h1 := nm_lt hb'
        have h2 := nmE_le hi
        have h3 := bl_ge s (nmE s i)
        have h4 := bl_le h2
        split at e
        · injection e with e1; omega
        · split at e
          · next hs =>
            have h5 := behind_lt hs
            have h6 := behind_le (c := 40) h4
            split at e
            · next hx => injection e with e1 e2 e3; subst e1; exact IA _ _ _ _ _ _ _ h6 (by omega) hx
            · unfold pEnd at e
              split at e
              · cases e
              · injection e with e1; omega
          · unfold pEnd at e
            split at e
            · cases e
            · injection e with e1; omega
    · intro above i l xs c q l' hi hf e
      rw [pArgs] at e
      split at e
      · injection e with e1; omega
      · split at e
        · injection e with e1; omega
        · split at e
          · next hx => injection e with e1 e2 e3; subst e1; exact IT _ _ _ _ _ _ hi (by omega) hx
          · next n k2 l2 hx =>
            obtain ⟨B2, B3⟩ := (GT above i l hi).2 n k2 l2 hx
            split at e
            · cases e
            · split at e
              · next hs =>
                have h5 := behind_lt hs
                exact IA _ _ _ _ _ _ _ (behind_le B3) (by omega) e
              · injection e with e1; omega

/-- A row of one type is not the block of another. -/
theorem row_ne {w : World} {base : Nat} {e ty : TypeId} {k n m r : Nat} {v : Value} {xs : List Value} {g : Nat → Value} (h : w.ownsRow base e k v n xs) (R : w.rowIs r ty m g) (he : e ≠ ty) : v.ownBlock ≠ some r := by
  rcases h.2 with ⟨rfl, _⟩ | ⟨b, cap, cur, rfl, _, hb, _⟩
  · simp [Value.ownBlock]
  · intro x
    simp [Value.ownBlock] at x
    subst x
    obtain ⟨cur', h1, _⟩ := R
    rw [hb] at h1
    injection h1 with e1
    injection e1 with _ e2
    exact he e2
theorem row_lt {w : World} {base : Nat} {e : TypeId} {k n : Nat} {v : Value} {xs : List Value} (h : w.ownsRow base e k v n xs) {b : Nat} (hb : v.ownBlock = some b) : b < w.heap.size := by
  rcases h.2 with ⟨rfl, _⟩ | ⟨b', cap, cur, rfl, _, hb', _⟩
  · simp [Value.ownBlock] at hb
  · simp [Value.ownBlock] at hb
    subst hb
    exact right_lt hb'
theorem row_blocks {w w' : World} {base : Nat} {e : TypeId} {k n : Nat} {v : Value} {xs : List Value} (h : w.ownsRow base e k v n xs) (hb : ∀ b, v.ownBlock = some b → w'.heap[b]? = w.heap[b]?) : w'.ownsRow base e k v n xs := by
  refine ⟨h.1, ?_⟩
  rcases h.2 with x | ⟨b, cap, cur, e1, e2, e3, e4⟩
  · exact Or.inl x
  · exact Or.inr ⟨b, cap, cur, e1, e2, (hb b (by rw [e1]; rfl)).trans e3, e4⟩

theorem Ls.blocks {w w' : World} {base : Nat} {av : Value} {l : List Tm} {vs : List Value} (h : Ls w base av l vs) (hb : ∀ b, av.ownBlock = some b → w'.heap[b]? = w.heap[b]?) (hv : ∀ u ∈ vs, ∀ b, u.ownBlock = some b → w'.heap[b]? = w.heap[b]?) : Ls w' base av l vs :=
  ⟨h.len, row_blocks h.row hb, fun i t v h1 h2 => row_blocks (h.args i t v h1 h2) (hv v (List.mem_of_getElem? h2))⟩
theorem Ls.mem {w : World} {base : Nat} {av : Value} {l : List Tm} {vs : List Value} (h : Ls w base av l vs) {u : Value} (hu : u ∈ vs) : ∃ xs, ArgsAt1 w base xs u := by
  obtain ⟨i, hi, rfl⟩ := List.getElem_of_mem hu
  have hl : i < l.length := by rw [← h.len]; exact hi
  exact ⟨_, h.args i l[i] vs[i] (List.getElem?_eq_getElem hl) (List.getElem?_eq_getElem hi)⟩

/-- From (w, av) to (w', av'): what was there and is not the reader's or the list's row has stayed. -/
structure GR (r : Nat) (w : World) (av : Value) (w' : World) (av' : Value) : Prop where
  kept : Kept (fun k => k = r ∨ av.ownBlock = some k ∨ w.heap.size ≤ k) w w'
  row : av'.ownBlock = av.ownBlock ∨ ∀ k, av'.ownBlock = some k → w.heap.size ≤ k
theorem GR.refl (r : Nat) (w : World) (av : Value) : GR r w av w av := ⟨Kept.refl _ w, Or.inl rfl⟩
theorem GR.step {r : Nat} {w W W' : World} {av av1 : Value} {T : Nat → Prop} (h : GR r w av W av1) (K : Kept T W W') (hT : ∀ k, k < W.heap.size → T k → k = r ∨ av1.ownBlock = some k ∨ w.heap.size ≤ k) : GR r w av W' av1 := by
  refine ⟨Kept.trans h.kept (Kept.mono K fun k hk e => ?_), h.row⟩
  rcases hT k hk e with e | e | e
  · exact Or.inl e
  · rcases h.row with e2 | e2
    · exact Or.inr (Or.inl (e2 ▸ e))
    · exact Or.inr (Or.inr (e2 k e))
  · exact Or.inr (Or.inr e)
theorem GR.trans {r : Nat} {a b c : World} {ea eb ec : Value} (h : GR r a ea b eb) (k : GR r b eb c ec) : GR r a ea c ec := by
  have hs := h.kept.size
  refine ⟨(h.step k.kept (fun i _ e => ?_)).kept, ?_⟩
  · rcases e with e | e | e
    · exact Or.inl e
    · exact Or.inr (Or.inl e)
    · exact Or.inr (Or.inr (Nat.le_trans hs e))
  · rcases k.row with e | e
    · rcases h.row with e2 | e2
      · exact Or.inl (e.trans e2)
      · exact Or.inr fun x hx => e2 x (e ▸ hx)
    · exact Or.inr fun x hx => Nat.le_trans hs (e x hx)
theorem GR.kept0 {r : Nat} {w W W' : World} {av av1 : Value} (h : GR r w av W av1) (K : Kept0 W W') : GR r w av W' av1 := h.step K (fun _ _ e => e.elim)
theorem GR.kept1 {r : Nat} {w W W' : World} {av av1 : Value} (h : GR r w av W av1) (K : Kept1 r W W') : GR r w av W' av1 := h.step K (fun _ _ e => Or.inl e)

/-- Values that were there or are new. -/
def NewV (w : World) (vs vs' : List Value) : Prop := ∀ u ∈ vs', u ∈ vs ∨ ∀ k, u.ownBlock = some k → w.heap.size ≤ k
theorem NewV.refl (w : World) (vs : List Value) : NewV w vs vs := fun _ h => Or.inl h
theorem NewV.trans {a b : World} {x y z : List Value} (h : NewV a x y) (k : NewV b y z) (hs : a.heap.size ≤ b.heap.size) : NewV a x z := fun u hu => by
  rcases k u hu with e | e
  · exact h u e
  · exact Or.inr fun i hi => Nat.le_trans hs (e i hi)

/-- The document's reader and its list. -/
structure S1 (w : World) (base r : Nat) (av : Value) (s : ByteArray) (i e a : Nat) (l : List Tm) (vs : List Value) : Prop where
  rd : Rr w r s i av e a
  ls : Ls w base av l vs
  bs : base ≤ w.heap.size
  lo : l.length ≤ 1000
  four : ∀ u ∈ l, u.args.length ≤ 4

theorem S1.read {w w' : World} {base r : Nat} {av : Value} {s : ByteArray} {i e a j e' a' : Nat} {l : List Tm} {vs : List Value} (h : S1 w base r av s i e a l vs) (K : Kept1 r w w') (R : Rr w' r s j av e' a') : S1 w' base r av s j e' a' l vs := by
  refine ⟨R, h.ls.blocks (fun b hb => K.block b (row_lt h.ls.row hb) (fun x => row_ne h.ls.row h.rd.row (by decide) (x ▸ hb))) (fun u hu b hb => ?_), Nat.le_trans h.bs K.size, h.lo, h.four⟩
  obtain ⟨xs, hx⟩ := h.ls.mem hu
  exact K.block b (row_lt hx hb) (fun x => row_ne hx h.rd.row (by decide) (x ▸ hb))
theorem S1.kept0 {w w' : World} {base r : Nat} {av : Value} {s : ByteArray} {i e a : Nat} {l : List Tm} {vs : List Value} (h : S1 w base r av s i e a l vs) (K : Kept0 w w') : S1 w' base r av s i e a l vs :=
  ⟨h.rd.of_block (K.block r h.rd.row.lt (fun x => x)), h.ls.kept0 K, Nat.le_trans h.bs K.size, h.lo, h.four⟩
theorem S1.drewN {w : World} {base r : Nat} {av : Value} {s : ByteArray} {i e a : Nat} {l : List Tm} {vs : List Value} (h : S1 w base r av s i e a l vs) (m : Nat) : S1 (w.drewN m) base r av s i e a l vs := ⟨h.rd.drewN m, h.ls.drewN m, h.bs, h.lo, h.four⟩

def tbox (nm : ByteArray) (v : Value) (j : Nat) : Value := if j = 0 then .string nm else v

/-- And a term that is being read, its box at x. -/
structure S2 (w : World) (base r : Nat) (av : Value) (s : ByteArray) (i e a : Nat) (l : List Tm) (vs : List Value) (x : Nat) (nm : ByteArray) (xs : List Nat) (v : Value) : Prop where
  st : S1 w base r av s i e a l vs
  box : w.rowIs x 114 2 (tbox nm v)
  arg : ArgsAt1 w base xs v
  ax : av.ownBlock ≠ some x
  nv : ∀ u ∈ vs, ∀ k, u.ownBlock = some k → v.ownBlock ≠ some k

theorem S2.xr {w : World} {base r : Nat} {av : Value} {s : ByteArray} {i e a : Nat} {l : List Tm} {vs : List Value} {x : Nat} {nm : ByteArray} {xs : List Nat} {v : Value} (h : S2 w base r av s i e a l vs x nm xs v) : x ≠ r := by
  rintro rfl
  obtain ⟨c1, h1, _⟩ := h.box
  obtain ⟨c2, h2, _⟩ := h.st.rd.row
  rw [h1] at h2
  injection h2 with e1
  injection e1 with _ e2
  exact absurd e2 (by decide)
theorem S2.c0 {w : World} {base r : Nat} {av : Value} {s : ByteArray} {i e a : Nat} {l : List Tm} {vs : List Value} {x : Nat} {nm : ByteArray} {xs : List Nat} {v : Value} (h : S2 w base r av s i e a l vs x nm xs v) : w.cell? ⟨x, 0, none⟩ = some (.string nm) := h.box.cell (i := 0) (by omega)
theorem S2.c1 {w : World} {base r : Nat} {av : Value} {s : ByteArray} {i e a : Nat} {l : List Tm} {vs : List Value} {x : Nat} {nm : ByteArray} {xs : List Nat} {v : Value} (h : S2 w base r av s i e a l vs x nm xs v) : w.cell? ⟨x, 1, none⟩ = some v := h.box.cell (i := 1) (by omega)
theorem S2.read {w w' : World} {base r : Nat} {av : Value} {s : ByteArray} {i e a j e' a' : Nat} {l : List Tm} {vs : List Value} {x : Nat} {nm : ByteArray} {xs : List Nat} {v : Value} (h : S2 w base r av s i e a l vs x nm xs v) (K : Kept1 r w w') (R : Rr w' r s j av e' a') : S2 w' base r av s j e' a' l vs x nm xs v :=
  ⟨h.st.read K R, h.box.of_block (K.block x h.box.lt h.xr), row_blocks h.arg (fun b hb => K.block b (row_lt h.arg hb) (fun y => row_ne h.arg h.st.rd.row (by decide) (y ▸ hb))), h.ax, h.nv⟩
theorem S2.kept0 {w w' : World} {base r : Nat} {av : Value} {s : ByteArray} {i e a : Nat} {l : List Tm} {vs : List Value} {x : Nat} {nm : ByteArray} {xs : List Nat} {v : Value} (h : S2 w base r av s i e a l vs x nm xs v) (K : Kept0 w w') : S2 w' base r av s i e a l vs x nm xs v :=
  ⟨h.st.kept0 K, h.box.of_block (K.block x h.box.lt (fun y => y)), h.arg.kept K.grownBy (Decidable.em _), h.ax, h.nv⟩
theorem S2.drewN {w : World} {base r : Nat} {av : Value} {s : ByteArray} {i e a : Nat} {l : List Tm} {vs : List Value} {x : Nat} {nm : ByteArray} {xs : List Nat} {v : Value} (h : S2 w base r av s i e a l vs x nm xs v) (m : Nat) : S2 (w.drewN m) base r av s i e a l vs x nm xs v :=
  ⟨h.st.drewN m, h.box, h.arg, h.ax, h.nv⟩
/-- Behind a term within. -/
theorem S2.inner {w w' : World} {base r : Nat} {av av' : Value} {s : ByteArray} {i e a i' e' a' : Nat} {l l' : List Tm} {vs vs' : List Value} {x : Nat} {nm : ByteArray} {xs : List Nat} {v : Value} (h : S2 w base r av s i e a l vs x nm xs v) (G : GR r w av w' av') (N : NewV w vs vs') (S : S1 w' base r av' s i' e' a' l' vs') : S2 w' base r av' s i' e' a' l' vs' x nm xs v := by
  have hx := h.box.lt
  refine ⟨S, h.box.of_block (G.kept.block x hx ?_), row_blocks h.arg (fun b hb => G.kept.block b (row_lt h.arg hb) ?_), ?_, ?_⟩
  · rintro (y | y | y)
    · exact h.xr y
    · exact h.ax y
    · omega
  · have hlt := row_lt h.arg hb
    rintro (y | y | y)
    · exact row_ne h.arg h.st.rd.row (by decide) (y ▸ hb)
    · rcases rows_apart (by decide) h.arg h.st.ls.row with z | z
      · rw [hb] at z; cases z
      · exact z (hb.trans y.symm)
    · omega
  · rcases G.row with y | y
    · rw [y]; exact h.ax
    · intro z
      have := y x z
      omega
  · intro u hu k hk
    rcases N u hu with y | y
    · exact h.nv u y k hk
    · intro z
      have h1 := y k hk
      have h2 := row_lt h.arg z
      omega

end Go.Proofs.Ytinphcnknionmaa
