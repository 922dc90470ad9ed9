/- The document's lists of terms: put. The document's reader against the parser: what is wanted, plainly. Package sat: try. Package close: firstUses. Package close: newClasses. Package close: unite. Package sat: run, length, solve. Package close: newClasses' walk. Package close: a Closure; New, has, Same, Mark, Classes. -/
import Derived.Test.YtlehlgipbhfioaaGreatP17
import Derived.Test.YtlehlgipbhfioaaGreatRefB
import Derived.Test.YtlehlgipbhfioaaGreatSaP
import Derived.Test.YtlehlgipbhfioaaGreatP04
import Derived.Test.YtlehlgipbhfioaaGreatCloG
import Derived.WalkSmall
import Derived.Deep.RegionHeld3
namespace Go.Proofs.YtlehlgipbhfioaaGreat
open Go.RowKit

theorem wpList_append_here {P : Program} {ops : Array Oper} {rest : List Oper} {o : Oper} {a : Act} {w : World} {Q : Exit → Act → World → Prop} (hgd : o.guard = none) (sl x : Operand) (t : TypeId)
    (ho : o.op = .call { callee := .builtin .append, args := #[sl, x], argTypes := #[t, t] })
    (base : Nat) (e : TypeId) (i : TypeInfo) (z : Value) (size bytes : Nat) (h1 : P.underlying t = some (.slice e)) (h2 : P.info? e = some i) (h3 : i.zero = some z) (h4 : i.size = size) (h5 : i.bytes = bytes) (h6 : z.cells.size = size) (h7 : 0 < size)
    (v : Value) (n : Nat) (xs : List Value) (hs : a.eval sl = v) (hown : w.ownsRow base e size v n xs)
    (ad : Addr) (m c : Nat) (news : List Value) (hx : a.eval x = .slice (some ad) m c) (hn : news.length = m * size) (hc : ∀ j u, news[j]? = some u → w.cell? (ad.add j) = some u) (h1c : ∀ u ∈ news, u.oneCell' = true)
    (b1 : n + m ≤ maxLen) (b2 : (n + m) * bytes ≤ 140737488355328) (hbase : base ≤ w.heap.size)
    (h : ∀ v' w', w'.ownsRow base e size v' (n + m) (xs ++ news) → w.grownBy w' v.ownBlock → (v'.ownBlock = v.ownBlock ∨ ∀ k, v'.ownBlock = some k → w.heap.size ≤ k) → wpList P ops Q rest (a.put o.dst v') w') : wpList P ops Q (o :: rest) a w := by
  refine wpList_plain hgd fun K hK => ?_
  obtain ⟨v', w', hr, r1, r2, r3⟩ := run_append_here (P := P) w base t o.type e i z size bytes h1 h2 h3 h4 h5 h6 h7 v n xs hown ad m c news hn hc h1c b1 b2 hbase
  unfold Oper.wp execOp
  simp only [ho, resolve, invoke, builtin, Sem.run_bind, Sem.run_pure, Result.andThen_ok, List.map_toArray, List.map_cons, List.map_nil, hs, hx, hr]
  exact hK _ _ (h v' w' r1 r2 r3)

/-- Rows of ints and rows of terms lie apart. -/
theorem rows_apart {w : World} {base base' : Nat} {e e' : TypeId} {k k' n n' : Nat} {v v' : Value} {xs xs' : List Value} (he : e ≠ e') (h : w.ownsRow base e k v n xs) (h' : w.ownsRow base' e' k' v' n' xs') : v.ownBlock = none ∨ v.ownBlock ≠ v'.ownBlock := by
  rcases h.2 with ⟨rfl, _⟩ | ⟨b, cap, cur, rfl, _, hb, _⟩
  · exact Or.inl rfl
  · rcases h'.2 with ⟨rfl, _⟩ | ⟨b', cap', cur', rfl, _, hb', _⟩
    · exact Or.inr (by simp [Value.ownBlock])
    · refine Or.inr fun x => ?_
      simp [Value.ownBlock] at x
      subst x
      rw [hb] at hb'
      injection hb' with e1
      injection e1 with _ e2
      exact he e2

theorem lsC_snoc {l : List Tm} {vs : List Value} (h : vs.length = l.length) (t : Tm) (v : Value) : lsC (l ++ [t]) (vs ++ [v]) = lsC l vs ++ [.string t.name, v] := by
  unfold lsC
  rw [List.zip_append h.symm]
  simp

theorem Ls.snoc {w w' : World} {base : Nat} {av v' : Value} {l : List Tm} {vs : List Value} (h : Ls w base av l vs) {t : Tm} {v : Value} (hv : ArgsAt1 w base t.args v) (hr : w'.ownsRow base 140 2 v' (l.length + 1) (lsC l vs ++ [.string t.name, v])) (hg : w.grownBy w' av.ownBlock) : Ls w' base v' (l ++ [t]) (vs ++ [v]) := by
  have keep : ∀ xs u, ArgsAt1 w base xs u → ArgsAt1 w' base xs u := fun xs u hu => hu.kept hg (rows_apart (by decide) hu h.row)
  refine ⟨by simp [h.len], by rw [lsC_snoc h.len]; simpa using hr, ?_⟩
  intro i t' u h1 h2
  by_cases hi : i < l.length
  · rw [List.getElem?_append_left hi] at h1
    rw [List.getElem?_append_left (by rw [h.len]; exact hi)] at h2
    exact keep _ _ (h.args i t' u h1 h2)
  · have hi2 := (List.getElem?_eq_some_iff.1 h1).1
    have e : i = l.length := by simp at hi2; omega
    subst e
    simp at h1
    rw [← h.len] at h2
    simp at h2
    subst h1 h2
    exact keep _ _ hv

theorem infoRT : (Tryz.prog.info? 140).map (fun i => (i.zero, i.size, i.bytes)) = some (some (.agg #[.string ⟨#[]⟩, .slice none 0 0]), 2, 40) := by kernel_rfl

def putV (l : List Tm) (t : Tm) (vs : List Value) (v : Value) : List Value := match nix l t with
  | some _ => vs
  | none => vs ++ [v]

/-- What put leaves. -/
def PutPost (w : World) (base : Nat) (av : Value) (l : List Tm) (vs : List Value) (t : Tm) (v : Value) (e : Ending) (w' : World) : Prop :=
  ∃ av', e = .returned (.tuple #[av', .int .i64 (addN l t : Int)]) ∧ Ls w' base av' (addL l t) (putV l t vs v) ∧ Kept (fun k => av.ownBlock = some k) w w' ∧ (av'.ownBlock = av.ownBlock ∨ ∀ k, av'.ownBlock = some k → w.heap.size ≤ k)

theorem nix_first {l : List Tm} {t : Tm} {k : Nat} (hk : l[k]? = some t) (h : ∀ j, j < k → l[j]? ≠ some t) : nix l t = some k := by
  unfold nix
  rw [List.findIdx?_eq_some_iff_getElem]
  obtain ⟨h1, h2⟩ := List.getElem?_eq_some_iff.1 hk
  refine ⟨h1, decide_eq_true h2, fun j hj => ?_⟩
  have := h j hj
  rw [List.getElem?_eq_getElem (by omega)] at this
  simpa using this
theorem nix_nowhere {l : List Tm} {t : Tm} (h : ∀ j, j < l.length → l[j]? ≠ some t) : nix l t = none := by
  unfold nix
  rw [List.findIdx?_eq_none_iff]
  intro x hx
  obtain ⟨j, hj, rfl⟩ := List.getElem_of_mem hx
  have := h j hj
  rw [List.getElem?_eq_getElem hj] at this
  simpa using this

theorem two_new (w : World) (a b : Value) : ∀ j u, ([a, b] : List Value)[j]? = some u → (w.alloc (.cells #[a, b] 140)).cell? ((⟨w.heap.size, 0, none⟩ : Addr).add j) = some u := by
  intro j u hj
  match j, hj with
  | 0, hj => simp at hj; subst hj; simp [Addr.add]
  | 1, hj => simp at hj; subst hj; simp [Addr.add]

set_option maxHeartbeats 2000000 in
set_option maxRecDepth 100000 in
theorem put_in (w : World) (base : Nat) (av : Value) (l : List Tm) (vs : List Value) (h : Ls w base av l vs) (hl : l.length ≤ 1000) (t : Tm) (v : Value) (hv : ArgsAt1 w base t.args v) (hu4 : ∀ u ∈ l, u.args.length ≤ 4) (hbase : base ≤ w.heap.size) :
    Calls Tryz.prog 64 #[av, .agg #[.string t.name, v]] w (PutPost w base av l vs t v) := by
  obtain ⟨ta, tc, rfl⟩ := row_form hv
  obtain ⟨aa, ac, rfl⟩ := h.form
  have K1 : Kept0 w (w.alloc (.cells #[.string t.name, .slice ta t.args.length tc] 140)) := Kept.alloc (Kept.refl _ w) _
  have R1 := made_row w #[.string t.name, .slice ta t.args.length tc] 140
  generalize hw1 : w.alloc (.cells #[.string t.name, .slice ta t.args.length tc] 140) = w1 at *
  have L1 := h.kept0 K1
  have V1 := hv.kept K1.grownBy (Decidable.em _)
  go_enter Tryz.func64, Tryz.ntmps64
  go_wp2_with fail
  clear hw1
  generalize w.heap.size = x at R1 ⊢
  go_loopw [6] (fun t6 W => ∃ k : Nat, k ≤ l.length ∧ t6 = .int .i64 (k : Int) ∧ Hid (∀ j, j < k → l[j]? ≠ some t) ∧ Hid (Kept0 w1 W)) (fun t6 _ => l.length - (intOf t6).toNat)
  case atStart => exact ⟨0, by omega, rfl, fun j hj => absurd hj (by omega), Kept.refl _ w1⟩
  case round =>
    obtain ⟨k, hk, rfl, hne, KK⟩ := hrel
    have LW := L1.kept0 KK.out
    have VW := V1.kept KK.out.grownBy (Decidable.em _)
    have RW := World.rowIs.of_block R1 (KK.out.block x (World.rowIs.lt R1) (fun e => e))
    have a0 : wr.cell? ⟨x, 0, none⟩ = some (.string t.name) := World.rowIs.cell RW (i := 0) (by simp)
    have a1 : wr.cell? ⟨x, 1, none⟩ = some (.slice ta t.args.length tc) := World.rowIs.cell RW (i := 1) (by simp)
    by_cases hk2 : k < l.length
    · have dk : decide ((k : Int) < (l.length : Int)) = true := decide_eq_true (by omega)
      have hu : l[k]? = some l[k] := List.getElem?_eq_getElem hk2
      have hu4' := hu4 _ (List.getElem_mem hk2)
      generalize hgu : l[k] = u at hu hu4'
      obtain ⟨g, cap, vu, hg, _, g0, g1, hvu⟩ := LW.at hu
      injection hg with e1 _ e3
      subst e1 e3
      obtain ⟨ua, uc, rfl⟩ := row_form hvu
      have SAME := fun m => same1_in (wr.drewN m) base u t (.slice ua u.args.length uc) (.slice ta t.args.length tc) hvu VW hu4'
      by_cases he : u = t
      · rw [decide_eq_true he] at SAME
        have hN : nix l t = some k := nix_first (he ▸ hu) hne.out
        clear he hgu
        go_wp2_with fail
        go_region_with (go_at_call 109; refine (SAME _).mono ?_; rintro e w3 ⟨rfl, K3⟩)
        all_goals
          go_wp2_with fail
          go_ret2
          have K4 : Kept0 w1 w3 := Kept.trans (Kept.drewN KK.out _) K3
          have K5 : Kept0 w w3 := Kept.trans K1 K4
          exact ⟨_, by simp [addN, hN], by simpa [addL, putV, hN] using h.kept0 K5, Kept.mono K5 (fun _ _ e => e.elim), Or.inl rfl⟩
      · rw [decide_eq_false he] at SAME
        have hne2 : Hid (∀ j, j < k + 1 → l[j]? ≠ some t) := fun j hj => by
          by_cases e : j = k
          · subst e
            rw [hu]
            simpa using he
          · exact hne.out j (by omega)
        clear he hgu
        go_wp2_with fail
        go_region_with (go_at_call 109; refine (SAME _).mono ?_; rintro e w3 ⟨rfl, K3⟩)
        all_goals
          go_wp2_with fail
          go_roundw
          case rel => exact ⟨k + 1, by omega, by go_num, hne2, Kept.trans (Kept.drewN KK.out _) K3⟩
          case measure => simp [intOf]; omega
    · have dk : decide ((k : Int) < (l.length : Int)) = false := decide_eq_false (by omega)
      have hN : nix l t = none := nix_nowhere fun j hj => hne.out j (by omega)
      obtain ⟨i0, hi0, hz0, hz1, hz2⟩ := info_parts infoRT
      have hsz := KK.out.size
      have hsz1 := K1.size
      have NEWS := two_new wr (.string t.name) (.slice ta t.args.length tc)
      clear dk hne
      have dk : decide ((k : Int) < (l.length : Int)) = false := decide_eq_false (by omega)
      have hlenb : Hid (l.length ≤ 1000) := hl
      go_wp2_with (at_builtin; refine wpList_append_here rfl _ _ 25 rfl base 140 i0 _ 2 40 Tryz.underlying25 hi0 hz0 hz1 hz2 rfl (by decide) _ l.length (lsC l vs) rfl (LW.row.alloc _) ⟨wr.heap.size, 0, none⟩ 1 1 [.string t.name, .slice ta t.args.length tc] rfl rfl NEWS (by simp [Value.oneCell']) (by unfold maxLen; omega) (by omega) (by simp; omega) ?_; intro v' w5 hown5 hgrow hloc)
      go_ret2
      have K4 : Kept0 w (wr.alloc (.cells #[.string t.name, .slice ta t.args.length tc] 140)) := (Kept.trans K1 KK.out).alloc _
      have LA : Ls (wr.alloc (.cells #[.string t.name, .slice ta t.args.length tc] 140)) base (.slice aa l.length ac) l vs := h.kept0 K4
      refine ⟨v', by simp [addN, hN], ?_, Kept.grown (Kept.mono K4 (fun _ _ e => e.elim)) hgrow (fun k e => e), ?_⟩
      · have := LA.snoc (hv.kept K4.grownBy (Decidable.em _)) hown5 hgrow
        simpa [addL, putV, hN] using this
      · rcases hloc with e | e
        · exact Or.inl e
        · refine Or.inr fun k hk => ?_
          have h1 := e k hk
          have h2 := K4.size
          omega

end Go.Proofs.YtlehlgipbhfioaaGreat

namespace Go.Proofs.YtlehlgipbhfioaaGreat
open Go.RowKit

/-- Names have one number of args each, at most 4. -/
structure Good (l : List Tm) : Prop where
  one : ∀ t ∈ l, ∀ u ∈ l, t.name = u.name → t.args.length = u.args.length
  four : ∀ t ∈ l, t.args.length ≤ 4

theorem fst_none' {l : List Tm} {n : ByteArray} (h : fst l n = none) : ∀ u ∈ l, u.name ≠ n := by
  intro u hu
  have := List.findIdx?_eq_none_iff.1 h u hu
  simpa using this

theorem clash_fits {l : List Tm} (h : Good l) (t : Tm) : clashB l t = !fitsB l t := by
  unfold fitsB
  cases hf : fst l t.name with
  | none =>
    have h1 := fst_none' hf
    have : clashB l t = false := List.any_eq_false.2 fun u hu => by simp [clashP, h1 u hu]
    simp [this]
  | some i =>
    obtain ⟨u, hu, hun⟩ := fst_some hf
    have hum := List.mem_of_getElem? hu
    simp only [hu]
    by_cases hq : u.args.length = t.args.length
    · have : clashB l t = false := List.any_eq_false.2 fun u' hu' => by
        simp only [clashP, Bool.and_eq_true, decide_eq_true_eq, not_and, ne_eq, Decidable.not_not]
        intro e
        rw [h.one u' hu' u hum (e.trans hun.symm), hq]
      simp [this, hq]
    · have : clashB l t = true := List.any_eq_true.2 ⟨u, hum, by simp [clashP, hun, hq]⟩
      simp [this, hq]

theorem Good.add {l : List Tm} (h : Good l) {t : Tm} (hf : fitsB l t = true) (h4 : t.args.length ≤ 4) : Good (addL l t) := by
  have hc : clashB l t = false := by rw [clash_fits h, hf]; rfl
  have key : ∀ u ∈ l, u.name = t.name → u.args.length = t.args.length := by
    intro u hu e
    have := List.any_eq_false.1 hc u hu
    simp only [clashP, Bool.and_eq_true, decide_eq_true_eq, not_and, ne_eq, Decidable.not_not] at this
    exact this e
  unfold addL
  cases nix l t with
  | some i => exact h
  | none =>
    refine ⟨?_, ?_⟩
    · intro a ha b hb e
      simp only [List.mem_append, List.mem_singleton] at ha hb
      rcases ha with ha | rfl <;> rcases hb with hb | rfl
      · exact h.one a ha b hb e
      · exact key a ha e
      · exact (key b hb e.symm).symm
      · rfl
    · intro a ha
      simp only [List.mem_append, List.mem_singleton] at ha
      rcases ha with ha | rfl
      · exact h.four a ha
      · exact h4

theorem p_good (s : ByteArray) : ∀ f : Nat,
    (∀ above i l n k l', i ≤ s.size → Good l → pTerm s f above i l = .ok n k l' → Good l') ∧
    (∀ above i l xs x k l', i ≤ s.size → xs.length ≤ 4 → Good l → pArgs s f above i l xs = .ok x k l' → Good l' ∧ x.length ≤ 4)
  | 0 => ⟨fun _ _ _ _ _ _ _ _ e => (by rw [pTerm] at e; cases e), fun _ _ _ _ _ _ _ _ _ _ e => (by rw [pArgs] at e; cases e)⟩
  | f + 1 => by
    obtain ⟨IT, IA⟩ := p_good s f
    obtain ⟨GT, GA⟩ := p_grows s f
    constructor
    · intro above i l n k l' hi hg e
      rw [pTerm] at e
      split at e
      · cases e
      · have h4 := bl_le (nmE_le hi)
        split at e
        · cases e
        · split at e
          · have h6 := behind_le (c := 40) h4
            split at e
            · cases e
            · next xs k2 l2 hx =>
              obtain ⟨A1, A2⟩ := IA _ _ _ _ _ _ _ h6 (by simp) hg hx
              unfold pEnd at e
              split at e
              · next hf =>
                injection e with e1 e2 e3
                subst e3
                exact A1.add hf A2
              · cases e
          · unfold pEnd at e
            split at e
            · next hf =>
              injection e with e1 e2 e3
              subst e3
              exact hg.add hf (by simp)
            · cases e
    · intro above i l xs x k l' hi hx4 hg e
      rw [pArgs] at e
      split at e
      · cases e
      · split at e
        · cases e
        · split at e
          · cases e
          · next n k2 l2 hx =>
            have A1 := IT _ _ _ _ _ _ hi hg hx
            obtain ⟨B2, B3⟩ := (GT above i l hi).2 n k2 l2 hx
            have hl4 : (xs ++ [n]).length ≤ 4 := by simp; omega
            split at e
            · injection e with e1 e2 e3
              subst e1 e3
              exact ⟨A1, hl4⟩
            · split at e
              · exact IA _ _ _ _ _ _ _ (behind_le B3) hl4 A1 e
              · cases e

theorem bl_bl (s : ByteArray) (i : Nat) : bl s (bl s i) = bl s i := by
  induction i using bl.induct s with
  | case1 i h ih => rw [bl_at h.1 h.2]; exact ih
  | case2 i h => rw [bl_end h, bl_end h]

theorem pTerm_end (s : ByteArray) (f above : Nat) (l : List Tm) : pTerm s (f + 1) above s.size l = .bad 2 s.size l := by
  have h : badNm s s.size = true := by
    have : nmE s s.size = s.size := nmE_end (fun x => by omega)
    simp [badNm, this]
  rw [pTerm, h]
  rfl

/-- The args as the document reads them. -/
theorem pArgs_ref (s : ByteArray) (g above k : Nat) (l : List Tm) (xs : List Nat) (hk : k ≤ s.size) : pArgs s (g + 2) above k l xs =
    if xs.length = 4 ∧ k < s.size then .bad 3 k l else match pTerm s (g + 1) above k l with
      | .bad e p l' => .bad e p l'
      | .ok n k l' => if stands s k 44 then pArgs s (g + 1) above (behind s k 44) l' (xs ++ [n]) else if stands s k 41 then .ok (xs ++ [n]) (behind s k 41) l' else .bad 2 k l' := by
  rw [pArgs]
  by_cases h1 : k = s.size
  · subst h1
    rw [if_pos rfl, if_neg (by omega), pTerm_end]
  · rw [if_neg h1]
    by_cases h2 : xs.length = 4
    · rw [if_pos h2, if_pos ⟨h2, by omega⟩]
    · rw [if_neg h2, if_neg (by omega)]
      cases pTerm s (g + 1) above k l with
      | bad e p l' => rfl
      | ok n k' l' =>
        simp only
        by_cases h41 : stands s k' 41 = true
        · have h44 : stands s k' 44 = false := by
            have := of_decide_eq_true h41
            exact decide_eq_false fun x => by omega
          simp [h41, h44]
        · simp [h41]

theorem p_bad (s : ByteArray) : ∀ f : Nat,
    (∀ above i l c q l', i ≤ s.size → 2 * (s.size - i) + 1 ≤ f → pTerm s f above i l = .bad c q l' → 1 ≤ c ∧ c ≤ 5) ∧
    (∀ above i l xs c q l', i ≤ s.size → 2 * (s.size - i) + 2 ≤ f → pArgs s f above i l xs = .bad c q l' → 1 ≤ c ∧ c ≤ 5)
  | 0 => ⟨fun _ _ _ _ _ _ _ h => absurd h (by omega), fun _ _ _ _ _ _ _ _ h => absurd h (by omega)⟩
  | f + 1 => by
    obtain ⟨IT, IA⟩ := p_bad s f
    obtain ⟨GT, GA⟩ := p_grows s f
    constructor
    · intro above i l c q l' hi hf e
      rw [pTerm] at e
      split at e
      · injection e with e1; omega
      · next hb =>
        have hb' : badNm s i = false := by simpa using hb
        have h1 := nm_lt hb'
        have h2 := nmE_le hi
        have h3 := bl_ge s (nmE s i)
        have h4 := bl_le h2
        split at e
        · injection e with e1; omega
        · split at e
          · next hs =>
            have h5 := behind_lt hs
            have h6 := behind_le (c := 40) h4
            split at e
            · next hx => injection e with e1 e2 e3; subst e1; exact IA _ _ _ _ _ _ _ h6 (by omega) hx
            · unfold pEnd at e
              split at e
              · cases e
              · injection e with e1; omega
          · unfold pEnd at e
            split at e
            · cases e
            · injection e with e1; omega
    · intro above i l xs c q l' hi hf e
      rw [pArgs] at e
      split at e
      · injection e with e1; omega
      · split at e
        · injection e with e1; omega
        · split at e
          · next hx => injection e with e1 e2 e3; subst e1; exact IT _ _ _ _ _ _ hi (by omega) hx
          · next n k2 l2 hx =>
            obtain ⟨B2, B3⟩ := (GT above i l hi).2 n k2 l2 hx
            split at e
            · cases e
            · split at e
              · next hs =>
                have h5 := behind_lt hs
                exact IA _ _ _ _ _ _ _ (behind_le B3) (by omega) e
              · injection e with e1; omega

/-- A row of one type is not the block of another. -/
theorem row_ne {w : World} {base : Nat} {e ty : TypeId} {k n m r : Nat} {v : Value} {xs : List Value} {g : Nat → Value} (h : w.ownsRow base e k v n xs) (R : w.rowIs r ty m g) (he : e ≠ ty) : v.ownBlock ≠ some r := by
  rcases h.2 with ⟨rfl, _⟩ | ⟨b, cap, cur, rfl, _, hb, _⟩
  · simp [Value.ownBlock]
  · intro x
    simp [Value.ownBlock] at x
    subst x
    obtain ⟨cur', h1, _⟩ := R
    rw [hb] at h1
    injection h1 with e1
    injection e1 with _ e2
    exact he e2
theorem row_lt {w : World} {base : Nat} {e : TypeId} {k n : Nat} {v : Value} {xs : List Value} (h : w.ownsRow base e k v n xs) {b : Nat} (hb : v.ownBlock = some b) : b < w.heap.size := by
  rcases h.2 with ⟨rfl, _⟩ | ⟨b', cap, cur, rfl, _, hb', _⟩
  · simp [Value.ownBlock] at hb
  · simp [Value.ownBlock] at hb
    subst hb
    exact right_lt hb'
theorem row_blocks {w w' : World} {base : Nat} {e : TypeId} {k n : Nat} {v : Value} {xs : List Value} (h : w.ownsRow base e k v n xs) (hb : ∀ b, v.ownBlock = some b → w'.heap[b]? = w.heap[b]?) : w'.ownsRow base e k v n xs := by
  refine ⟨h.1, ?_⟩
  rcases h.2 with x | ⟨b, cap, cur, e1, e2, e3, e4⟩
  · exact Or.inl x
  · exact Or.inr ⟨b, cap, cur, e1, e2, (hb b (by rw [e1]; rfl)).trans e3, e4⟩

theorem Ls.blocks {w w' : World} {base : Nat} {av : Value} {l : List Tm} {vs : List Value} (h : Ls w base av l vs) (hb : ∀ b, av.ownBlock = some b → w'.heap[b]? = w.heap[b]?) (hv : ∀ u ∈ vs, ∀ b, u.ownBlock = some b → w'.heap[b]? = w.heap[b]?) : Ls w' base av l vs :=
  ⟨h.len, row_blocks h.row hb, fun i t v h1 h2 => row_blocks (h.args i t v h1 h2) (hv v (List.mem_of_getElem? h2))⟩
theorem Ls.mem {w : World} {base : Nat} {av : Value} {l : List Tm} {vs : List Value} (h : Ls w base av l vs) {u : Value} (hu : u ∈ vs) : ∃ xs, ArgsAt1 w base xs u := by
  obtain ⟨i, hi, rfl⟩ := List.getElem_of_mem hu
  have hl : i < l.length := by rw [← h.len]; exact hi
  exact ⟨_, h.args i l[i] vs[i] (List.getElem?_eq_getElem hl) (List.getElem?_eq_getElem hi)⟩

/-- From (w, av) to (w', av'): what was there and is not the reader's or the list's row has stayed. -/
structure GR (r : Nat) (w : World) (av : Value) (w' : World) (av' : Value) : Prop where
  kept : Kept (fun k => k = r ∨ av.ownBlock = some k ∨ w.heap.size ≤ k) w w'
  row : av'.ownBlock = av.ownBlock ∨ ∀ k, av'.ownBlock = some k → w.heap.size ≤ k
theorem GR.refl (r : Nat) (w : World) (av : Value) : GR r w av w av := ⟨Kept.refl _ w, Or.inl rfl⟩
theorem GR.step {r : Nat} {w W W' : World} {av av1 : Value} {T : Nat → Prop} (h : GR r w av W av1) (K : Kept T W W') (hT : ∀ k, k < W.heap.size → T k → k = r ∨ av1.ownBlock = some k ∨ w.heap.size ≤ k) : GR r w av W' av1 := by
  refine ⟨Kept.trans h.kept (Kept.mono K fun k hk e => ?_), h.row⟩
  rcases hT k hk e with e | e | e
  · exact Or.inl e
  · rcases h.row with e2 | e2
    · exact Or.inr (Or.inl (e2 ▸ e))
    · exact Or.inr (Or.inr (e2 k e))
  · exact Or.inr (Or.inr e)
theorem GR.trans {r : Nat} {a b c : World} {ea eb ec : Value} (h : GR r a ea b eb) (k : GR r b eb c ec) : GR r a ea c ec := by
  have hs := h.kept.size
  refine ⟨(h.step k.kept (fun i _ e => ?_)).kept, ?_⟩
  · rcases e with e | e | e
    · exact Or.inl e
    · exact Or.inr (Or.inl e)
    · exact Or.inr (Or.inr (Nat.le_trans hs e))
  · rcases k.row with e | e
    · rcases h.row with e2 | e2
      · exact Or.inl (e.trans e2)
      · exact Or.inr fun x hx => e2 x (e ▸ hx)
    · exact Or.inr fun x hx => Nat.le_trans hs (e x hx)
theorem GR.kept0 {r : Nat} {w W W' : World} {av av1 : Value} (h : GR r w av W av1) (K : Kept0 W W') : GR r w av W' av1 := h.step K (fun _ _ e => e.elim)
theorem GR.kept1 {r : Nat} {w W W' : World} {av av1 : Value} (h : GR r w av W av1) (K : Kept1 r W W') : GR r w av W' av1 := h.step K (fun _ _ e => Or.inl e)

/-- Values that were there or are new. -/
def NewV (w : World) (vs vs' : List Value) : Prop := ∀ u ∈ vs', u ∈ vs ∨ ∀ k, u.ownBlock = some k → w.heap.size ≤ k
theorem NewV.refl (w : World) (vs : List Value) : NewV w vs vs := fun _ h => Or.inl h
theorem NewV.trans {a b : World} {x y z : List Value} (h : NewV a x y) (k : NewV b y z) (hs : a.heap.size ≤ b.heap.size) : NewV a x z := fun u hu => by
  rcases k u hu with e | e
  · exact h u e
  · exact Or.inr fun i hi => Nat.le_trans hs (e i hi)

/-- The document's reader and its list. -/
structure S1 (w : World) (base r : Nat) (av : Value) (s : ByteArray) (i e a : Nat) (l : List Tm) (vs : List Value) : Prop where
  rd : Rr w r s i av e a
  ls : Ls w base av l vs
  bs : base ≤ w.heap.size
  lo : l.length ≤ 1000
  four : ∀ u ∈ l, u.args.length ≤ 4

theorem S1.read {w w' : World} {base r : Nat} {av : Value} {s : ByteArray} {i e a j e' a' : Nat} {l : List Tm} {vs : List Value} (h : S1 w base r av s i e a l vs) (K : Kept1 r w w') (R : Rr w' r s j av e' a') : S1 w' base r av s j e' a' l vs := by
  refine ⟨R, h.ls.blocks (fun b hb => K.block b (row_lt h.ls.row hb) (fun x => row_ne h.ls.row h.rd.row (by decide) (x ▸ hb))) (fun u hu b hb => ?_), Nat.le_trans h.bs K.size, h.lo, h.four⟩
  obtain ⟨xs, hx⟩ := h.ls.mem hu
  exact K.block b (row_lt hx hb) (fun x => row_ne hx h.rd.row (by decide) (x ▸ hb))
theorem S1.kept0 {w w' : World} {base r : Nat} {av : Value} {s : ByteArray} {i e a : Nat} {l : List Tm} {vs : List Value} (h : S1 w base r av s i e a l vs) (K : Kept0 w w') : S1 w' base r av s i e a l vs :=
  ⟨h.rd.of_block (K.block r h.rd.row.lt (fun x => x)), h.ls.kept0 K, Nat.le_trans h.bs K.size, h.lo, h.four⟩
theorem S1.drewN {w : World} {base r : Nat} {av : Value} {s : ByteArray} {i e a : Nat} {l : List Tm} {vs : List Value} (h : S1 w base r av s i e a l vs) (m : Nat) : S1 (w.drewN m) base r av s i e a l vs := ⟨h.rd.drewN m, h.ls.drewN m, h.bs, h.lo, h.four⟩

def tbox (nm : ByteArray) (v : Value) (j : Nat) : Value := if j = 0 then .string nm else v

/-- And a term that is being read, its box at x. -/
structure S2 (w : World) (base r : Nat) (av : Value) (s : ByteArray) (i e a : Nat) (l : List Tm) (vs : List Value) (x : Nat) (nm : ByteArray) (xs : List Nat) (v : Value) : Prop where
  st : S1 w base r av s i e a l vs
  box : w.rowIs x 140 2 (tbox nm v)
  arg : ArgsAt1 w base xs v
  ax : av.ownBlock ≠ some x
  nv : ∀ u ∈ vs, ∀ k, u.ownBlock = some k → v.ownBlock ≠ some k

theorem S2.xr {w : World} {base r : Nat} {av : Value} {s : ByteArray} {i e a : Nat} {l : List Tm} {vs : List Value} {x : Nat} {nm : ByteArray} {xs : List Nat} {v : Value} (h : S2 w base r av s i e a l vs x nm xs v) : x ≠ r := by
  rintro rfl
  obtain ⟨c1, h1, _⟩ := h.box
  obtain ⟨c2, h2, _⟩ := h.st.rd.row
  rw [h1] at h2
  injection h2 with e1
  injection e1 with _ e2
  exact absurd e2 (by decide)
theorem S2.c0 {w : World} {base r : Nat} {av : Value} {s : ByteArray} {i e a : Nat} {l : List Tm} {vs : List Value} {x : Nat} {nm : ByteArray} {xs : List Nat} {v : Value} (h : S2 w base r av s i e a l vs x nm xs v) : w.cell? ⟨x, 0, none⟩ = some (.string nm) := h.box.cell (i := 0) (by omega)
theorem S2.c1 {w : World} {base r : Nat} {av : Value} {s : ByteArray} {i e a : Nat} {l : List Tm} {vs : List Value} {x : Nat} {nm : ByteArray} {xs : List Nat} {v : Value} (h : S2 w base r av s i e a l vs x nm xs v) : w.cell? ⟨x, 1, none⟩ = some v := h.box.cell (i := 1) (by omega)
theorem S2.read {w w' : World} {base r : Nat} {av : Value} {s : ByteArray} {i e a j e' a' : Nat} {l : List Tm} {vs : List Value} {x : Nat} {nm : ByteArray} {xs : List Nat} {v : Value} (h : S2 w base r av s i e a l vs x nm xs v) (K : Kept1 r w w') (R : Rr w' r s j av e' a') : S2 w' base r av s j e' a' l vs x nm xs v :=
  ⟨h.st.read K R, h.box.of_block (K.block x h.box.lt h.xr), row_blocks h.arg (fun b hb => K.block b (row_lt h.arg hb) (fun y => row_ne h.arg h.st.rd.row (by decide) (y ▸ hb))), h.ax, h.nv⟩
theorem S2.kept0 {w w' : World} {base r : Nat} {av : Value} {s : ByteArray} {i e a : Nat} {l : List Tm} {vs : List Value} {x : Nat} {nm : ByteArray} {xs : List Nat} {v : Value} (h : S2 w base r av s i e a l vs x nm xs v) (K : Kept0 w w') : S2 w' base r av s i e a l vs x nm xs v :=
  ⟨h.st.kept0 K, h.box.of_block (K.block x h.box.lt (fun y => y)), h.arg.kept K.grownBy (Decidable.em _), h.ax, h.nv⟩
theorem S2.drewN {w : World} {base r : Nat} {av : Value} {s : ByteArray} {i e a : Nat} {l : List Tm} {vs : List Value} {x : Nat} {nm : ByteArray} {xs : List Nat} {v : Value} (h : S2 w base r av s i e a l vs x nm xs v) (m : Nat) : S2 (w.drewN m) base r av s i e a l vs x nm xs v :=
  ⟨h.st.drewN m, h.box, h.arg, h.ax, h.nv⟩
/-- Behind a term within. -/
theorem S2.inner {w w' : World} {base r : Nat} {av av' : Value} {s : ByteArray} {i e a i' e' a' : Nat} {l l' : List Tm} {vs vs' : List Value} {x : Nat} {nm : ByteArray} {xs : List Nat} {v : Value} (h : S2 w base r av s i e a l vs x nm xs v) (G : GR r w av w' av') (N : NewV w vs vs') (S : S1 w' base r av' s i' e' a' l' vs') : S2 w' base r av' s i' e' a' l' vs' x nm xs v := by
  have hx := h.box.lt
  refine ⟨S, h.box.of_block (G.kept.block x hx ?_), row_blocks h.arg (fun b hb => G.kept.block b (row_lt h.arg hb) ?_), ?_, ?_⟩
  · rintro (y | y | y)
    · exact h.xr y
    · exact h.ax y
    · omega
  · have hlt := row_lt h.arg hb
    rintro (y | y | y)
    · exact row_ne h.arg h.st.rd.row (by decide) (y ▸ hb)
    · rcases rows_apart (by decide) h.arg h.st.ls.row with z | z
      · rw [hb] at z; cases z
      · exact z (hb.trans y.symm)
    · omega
  · rcases G.row with y | y
    · rw [y]; exact h.ax
    · intro z
      have := y x z
      omega
  · intro u hu k hk
    rcases N u hu with y | y
    · exact h.nv u y k hk
    · intro z
      have h1 := y k hk
      have h2 := row_lt h.arg z
      omega

end Go.Proofs.YtlehlgipbhfioaaGreat

namespace Go.Proofs.YtlehlgipbhfioaaGreat
open Go.RowKit Go.Maps

/-- A level more. -/
theorem Mem.pushStarts {W w8 : World} {A : Ad} {s : Sv} (h : Mem W A s) {sb : Nat} (hsb : A.blk .search = some sb) (l : Nat) {b : Nat} {sp : List Value} {v8 : Value} (hv : v8 = .slice (some ⟨b, 0, none⟩) (s.starts.length + 1) (s.starts.length + 1 + sp.length / 1)) (hcap : s.starts.length + 1 + sp.length / 1 ≤ maxLen)
    (hb : w8.heap[b]? = some (Obj.cells (s.starts.map i64 ++ [i64 l] ++ sp).toArray 3 (0, 0))) (ho : ∀ r' b', r' ≠ .starts → A.blk r' = some b' → w8.heap[b']? = W.heap[b']? ∧ b' ≠ b) :
    Mem (w8.setCell ⟨sb, 4, none⟩ v8) (A.up .starts b sp) { s with starts := s.starts ++ [l] } := by
  have hbs : sb ≠ b := (ho .search sb (by decide) hsb).2
  have hup : ∀ r, r ≠ .starts → (A.up .starts b sp).blk r = A.blk r := fun r hr => if_neg hr
  have hus : ∀ r, r ≠ .starts → (A.up .starts b sp).sp r = A.sp r := fun r hr => if_neg hr
  have hslv : ∀ r k z, r ≠ .starts → (A.up .starts b sp).slv r k z = A.slv r k z := fun r k z hr => by unfold Ad.slv; rw [hup r hr, hus r hr]
  have hptr : ∀ r, r ≠ .starts → (A.up .starts b sp).ptr r = A.ptr r := fun r hr => by unfold Ad.ptr; rw [hup r hr]
  have hslt : (A.up .starts b sp).slv .starts (s.starts.length + 1) 1 = v8 := by rw [hv]; simp [Ad.slv, Ad.up]
  have hcell : ∀ r, r ≠ .starts → r ≠ .search → cellsR (A.up .starts b sp) { s with starts := s.starts ++ [l] } r = cellsR A s r := by
    intro r h1 h2
    cases r <;> first | exact absurd rfl h1 | exact absurd rfl h2 | skip
    all_goals simp only [cellsR]
    all_goals first | rfl | skip
    all_goals simp [hslv, hus, watC, hptr]
    all_goals rfl
  have hsea : cellsR (A.up .starts b sp) { s with starts := s.starts ++ [l] } .search = (cellsR A s .search).set 4 v8 := by
    simp only [cellsR, searchC, List.length_append, List.length_singleton, hslt]
    simp [hslv, hptr]
    exact ⟨rfl, rfl⟩
  refine ⟨?_, ?_, fun r hr => ?_, fun c => ?_, fun c => ?_, fun l => ?_, fun e => ?_, fun e => ?_, fun r hg => ?_, fun r hg => ?_, ?_, h.lv, h.lw, h.ls, h.lp, h.small, h.endk⟩
  · intro r r' b1 h1 h2
    by_cases e1 : r = .starts
    · by_cases e2 : r' = .starts
      · rw [e1, e2]
      · rw [hup r' e2] at h2
        subst e1
        have : b1 = b := by simpa [Ad.up] using h1.symm
        exact absurd this (ho r' b1 e2 h2).2
    · rw [hup r e1] at h1
      by_cases e2 : r' = .starts
      · subst e2
        have : b1 = b := by simpa [Ad.up] using h2.symm
        exact absurd this (ho r b1 e1 h1).2
      · rw [hup r' e2] at h2
        exact h.inj _ _ _ h1 h2
  · intro r b1 h1
    by_cases e1 : r = .starts
    · subst e1
      have e2 : b1 = b := by simpa [Ad.up] using h1.symm
      subst e2
      rw [Below.heap_setCell _ _ _ _ hbs.symm, hb]
      simp [cellsR, Ad.up, tyR]
    · rw [hup r e1] at h1
      by_cases e2 : r = .search
      · subst e2
        rw [hsb] at h1
        cases h1
        have h3 := (ho .search sb (by decide) hsb).1.trans (h.has _ _ hsb)
        rw [hsea]
        unfold World.setCell
        simp [Array.getElem?_modify, h3]
      · rw [hcell r e1 e2, Below.heap_setCell _ _ _ _ (fun e3 => e2 (h.inj _ _ _ h1 (by rw [hsb]; exact congrArg some e3.symm)))]
        exact (ho r b1 e1 h1).1.trans (h.has r b1 h1)
  · rw [hup r (by rintro rfl; cases hr)]
    exact h.fix r hr
  · rw [hup _ (by intro e; cases e)]
    exact h.cls c
  · rw [hup _ (by intro e; cases e)]
    exact h.rows c
  · rw [hup _ (by intro e; cases e)]
    exact h.win l
  · rw [hup _ (by intro e; cases e)] at e
    exact h.nil1 e
  · simp [Ad.up] at e
  · by_cases e1 : r = .starts
    · subst e1
      exact ⟨sp.length, by simp [Ad.up, sizR]⟩
    · rw [hus r e1]
      exact h.even r hg
  · by_cases e1 : r = .starts
    · subst e1
      simpa [Ad.up, sizR, lenR] using hcap
    · rw [hus r e1]
      have : lenR { s with starts := s.starts ++ [l] } r = lenR s r := by
        cases r <;> first | exact absurd rfl e1 | rfl
      rw [this]
      exact h.caps r hg
  · have hf := h.flat
    refine ⟨?_, ?_, ?_, ?_, ?_, ?_, ?_, ?_, ?_⟩
    all_goals rw [hus _ (by intro e; cases e)]
    · exact hf.1
    · exact hf.2.1
    · exact hf.2.2.1
    · exact hf.2.2.2.1
    · exact hf.2.2.2.2.1
    · exact hf.2.2.2.2.2.1
    · exact hf.2.2.2.2.2.2.1
    · exact hf.2.2.2.2.2.2.2.1
    · exact hf.2.2.2.2.2.2.2.2

/-- What append leaves of the levels. -/
theorem startGrow {W : World} {A : Ad} {s : Sv} (h : Mem W A s) {sb : Nat} (hsb : A.blk .search = some sb) (l : Nat) :
    ∃ ta tc, W.cell? ⟨sb, 4, none⟩ = some (.slice ta s.starts.length tc) ∧ W.frozen? ⟨sb, 4, none⟩ = false ∧ W.ownsRow 0 3 1 (.slice ta s.starts.length tc) s.starts.length (s.starts.map i64) ∧
      ∀ (w8 : World) (O : Obj) (v8 : Value), w8.ownsRow 0 3 1 v8 (s.starts.length + 1) (s.starts.map i64 ++ [i64 l]) → (W.alloc O).grownBy w8 (Value.slice ta s.starts.length tc).ownBlock → (v8.ownBlock = (Value.slice ta s.starts.length tc).ownBlock ∨ ∀ k, v8.ownBlock = some k → (W.alloc O).heap.size ≤ k) →
        w8.cell? ⟨sb, 4, none⟩ = some (.slice ta s.starts.length tc) ∧ w8.frozen? ⟨sb, 4, none⟩ = false ∧ (∃ b k, v8 = .slice (some ⟨b, 0, none⟩) (s.starts.length + 1) k) ∧ (∀ r b', r ≠ .starts → A.blk r = some b' → w8.heap[b']? = W.heap[b']?) ∧ ∃ A', Step W (w8.setCell ⟨sb, 4, none⟩ v8) A A' { s with starts := s.starts ++ [l] } ∧ ∀ r, r ≠ .starts → A'.blk r = A.blk r ∧ A'.sp r = A.sp r := by
  obtain ⟨ta, tc, hts⟩ := slv_form h (r := .starts) rfl
  have c1 := h.cell hsb (i := 4) rfl
  rw [show A.slv .starts s.starts.length 1 = .slice ta s.starts.length tc from hts] at c1
  have f1 := h.frozen hsb 4
  have ow := h.owns (r := .starts) rfl
  refine ⟨ta, tc, c1, f1, hts ▸ ow, fun w8 O v8 h1 h2 h3 => ?_⟩
  rw [← show A.slv .starts (lenR s .starts) (sizR .starts) = .slice ta s.starts.length tc from hts] at h2 h3
  obtain ⟨b, sp, e1, e2, e3, e4, e5, e6⟩ := h.grown (r := .starts) rfl (news := [i64 l]) h1 h2 h3
  have hs := (e6 .search sb (by intro e; cases e) hsb)
  have P := h.pushStarts hsb l e1 e3 e4 e6
  refine ⟨(World.cell?_of_block (a := ⟨sb, 4, none⟩) hs.1).trans c1, (World.frozen?_of_block (a := ⟨sb, 4, none⟩) hs.1).trans f1, ⟨b, _, e1⟩, fun r b' hr hb' => (e6 r b' hr hb').1, A.up .starts b sp, ⟨P, ?_, fun k hk => ?_⟩, fun r hr => ⟨if_neg hr, if_neg hr⟩⟩
  · have K : Kept A.Foot W w8 := Kept.grown ((Kept.refl _ W).alloc O) h2 (fun k hk => ⟨.starts, by
      have : (A.slv .starts (lenR s .starts) (sizR .starts)).ownBlock = A.blk .starts := by unfold Ad.slv; cases A.blk .starts <;> rfl
      rw [← this]; exact hk⟩)
    exact K.setCell (p := ⟨sb, 4, none⟩) ⟨_, hsb⟩ _
  · obtain ⟨r, hr⟩ := hk
    by_cases er : r = .starts
    · subst er
      have : k = b := by simpa [Ad.up] using hr.symm
      subst this
      rcases e5 with e5 | e5
      · exact Or.inl ⟨_, e5⟩
      · exact Or.inr e5
    · exact Or.inl ⟨r, by simpa [Ad.up, er] using hr⟩

theorem infoIntS : (Tryz.prog.info? 3).map (fun i => (i.zero, i.size, i.bytes)) = some (some (.int .i64 0), 1, 8) := by kernel_rfl

def boV : Value → Nat
  | .bool true => 1
  | _ => 0
def slLen : Value → Nat
  | .slice _ n _ => n
  | _ => 0
/-- What is left of try when a variable was taken out. -/
def tryR (f : Nat) (o : Option Nat) (s : Sv) : Option (Bool × Sv) := match o with
  | none => some (false, s)
  | some v => if s.val (2 * v + 1) = 0 then some (true, Sv.assign { s with starts := s.starts ++ [s.trail.length] } (2 * v + 1)) else Sv.tryN f s
theorem tryN_R (f : Nat) (s : Sv) : Sv.tryN (f + 1) s = tryR f s.pop.1 s.pop.2 := by
  rw [Sv.tryN]
  unfold tryR
  cases s.pop with
  | mk o s' => cases o <;> rfl

/-- Between two rounds of try. -/
def Tri (w W : World) (A : Ad) (s : Sv) (b : Bool) (s' : Sv) (o : Option Nat) (ln : Nat) : Prop :=
  ∃ (A1 : Ad) (s1 : Sv) (f : Nat), Step w W A A1 s1 ∧ Fit s1 ∧ tryR f o s1 = some (b, s') ∧ s1.n = s.n ∧ s1.starts.length = s.starts.length ∧ s1.hp.length = ln ∧ 1 ≤ ln ∧ ln ≤ 4000 ∧ (∀ v ∈ s1.hp, v ≤ s.n) ∧ (∀ v, o = some v → v ≤ s.n) ∧ ∀ r, A1.blk r = A.blk r ∧ (r ≠ .heap → A1.sp r = A.sp r)

theorem pop_facts {s : Sv} (hF : Fit s) (hhp : ∀ v ∈ s.hp, v ≤ s.n) (h1 : 1 ≤ s.hp.length) : Fit s.pop.2 ∧ s.pop.2.n = s.n ∧ s.pop.2.starts = s.starts ∧ (∀ v ∈ s.pop.2.hp, v ≤ s.n) ∧ (∀ v, s.pop.1 = some v → v ≤ s.n ∧ s.pop.2.hp.length + 1 = s.hp.length) ∧ (s.pop.1 = none → s.pop.2.hp.length = s.hp.length) ∧ 1 ≤ s.pop.2.hp.length := by
  obtain ⟨e1, e2, e3⟩ := pop_mem (s := s) (o := s.pop.1) (s' := s.pop.2) rfl hhp
  have hk : s.pop.1 = none → s.pop.2.hp.length = s.hp.length := fun e => by
    unfold Sv.pop at e ⊢
    split at e
    · next hl => rw [if_pos hl]
    · cases e
  refine ⟨?_, by rw [e1], by rw [e1], e2, e3, hk, ?_⟩
  · rw [e1]; exact ⟨hF.lv, hF.lw, hF.sgn, hF.tri, hF.on, hF.nd, hF.cls, hF.wnd, hF.wat⟩
  · unfold Sv.pop
    split
    · exact h1
    · simp; omega

set_option maxRecDepth 100000 in
set_option maxHeartbeats 1000000 in
theorem try_in (w : World) (A : Ad) (s : Sv) (h : Mem w A s) (hF : Fit s) (sb : Nat) (hsb : A.blk .search = some sb) (hhp : ∀ v ∈ s.hp, v ≤ s.n) (h1 : 1 ≤ s.hp.length) (hl4 : s.hp.length ≤ 4000) (hst : s.starts.length ≤ 1073741824) (f : Nat) (b : Bool) (s' : Sv) (hf : Sv.tryN f s = some (b, s')) :
    Calls Tryz.prog 168 #[.pointer (some ⟨sb, 0, none⟩)] w fun e w' => e = .returned (.bool b) ∧ ∃ A', Step w w' A A' s' ∧ ∀ r, r ≠ .trail → r ≠ .starts → A'.blk r = A.blk r ∧ (r ≠ .heap → A'.sp r = A.sp r) := by
  obtain ⟨ob, hb, pb, cb, hob, hhb, hpb, hcb, e0, e1, e2⟩ := h.ord
  have c6 := h.cell hsb (i := 6) rfl
  simp only [Ad.ptr, hob, Option.map_some] at c6
  cases f with
  | zero => cases hf
  | succ f =>
  rw [tryN_R] at hf
  obtain ⟨p1, p2, p3, p4, p5, p6, p7⟩ := pop_facts hF hhp h1
  have PO := pop_in w A s h ob hob hhp h1 hl4
  have hsm := h.small
  have hV : Hid (∀ (W : World) (A1 : Ad), Step w W A A1 s.pop.2 → (∀ r, A1.blk r = A.blk r ∧ (r ≠ .heap → A1.sp r = A.sp r)) → Tri w W A s b s' s.pop.1 s.pop.2.hp.length) := fun W A1 S hA => ⟨A1, _, f, S, p1, hf, p2, by rw [p3], rfl, p7, by
    cases e : s.pop.1 with
    | none => rw [p6 e]; exact hl4
    | some v => have := (p5 v e).2; omega, p4, fun v e => (p5 v e).1, hA⟩
  clear h hF hf p1 p2 p3 p4 p5 p6 p7 hhp e0 e1 e2
  generalize s.pop.2 = sp0 at *
  generalize s.pop.1 = o0 at *
  go_enter Tryz.func168, Tryz.ntmps168
  go_wp2_with (first | (go_at_call 219; refine PO.mono ?_; rintro e w3 ⟨rfl, A3, S3, hA3⟩))
  have V0 := hV.out w3 A3 S3 hA3
  clear hV S3 hA3 PO
  go_loopw [3, 4] (fun t3 t4 W => ∃ (o : Option Nat) (ln : Nat), t3 = .int .i32 ((o.getD 0 : Nat) : Int) ∧ t4 = .bool o.isSome ∧ Tri w W A s b s' o ln) (fun _ t4 W => 2 * slLen ((W.cell? ⟨ob, 1, none⟩).getD undef) + boV t4)
  case atStart => exact ⟨_, _, rfl, rfl, V0⟩
  case round =>
    obtain ⟨o, ln, rfl, rfl, A1, s1, f1, S1, F1, hR, hn1, hst1, hln, hl1, hl4', hhp1, hov, hA1⟩ := hrel
    have hsb1 : A1.blk .search = some sb := (hA1 .search).1.trans hsb
    have hob1 : A1.blk .order = some ob := (hA1 .order).1.trans hob
    cases o with
    | none =>
      simp only [tryR, Option.some.injEq, Prod.mk.injEq] at hR
      obtain ⟨rfl, rfl⟩ := hR
      have HS1 : Hid _ := S1
      have HA1 : Hid _ := hA1
      clear S1 F1 hA1 hhp1 V0
      go_wp2_with fail
      go_ret
      exact ⟨rfl, A1, HS1.out, fun r _ _ => HA1.out r⟩
    | some v =>
      have hvn : v ≤ s.n := hov v rfl
      have M1 := S1.mem
      obtain ⟨wi, hwi⟩ := M1.fix .wishes rfl
      obtain ⟨vb, hvb⟩ := M1.fix .vals rfl
      have c7 := M1.cell hsb1 (i := 7) rfl
      simp only [Ad.slv, hwi, M1.flat.2.2.2.2.2.1, List.length_nil, Nat.zero_div, Nat.add_zero, hn1] at c7
      have c0 := M1.cell hsb1 (i := 0) rfl
      simp only [Ad.slv, hvb, M1.flat.1, List.length_nil, Nat.zero_div, Nat.add_zero, hn1] at c0
      have wv := M1.cell hwi (i := v) (v := .int .i8 (-1)) (by
        show (List.replicate (s1.n + 1) _)[v]? = _
        rw [List.getElem?_replicate, if_pos (by omega)])
      have vv := M1.vcell hvb (l := 2 * v + 1) (by omega)
      have c6' := M1.cell hsb1 (i := 6) rfl
      simp only [Ad.ptr, hob1, Option.map_some] at c6'
      have IS := is_in wr v (-1) (by omega)
      have hlv : litV v (-1) = 2 * v + 1 := by unfold litV; simp
      rw [hlv] at IS
      have dv : (v : Int) < (s.n : Int) + 1 := by omega
      have dv2 : ((2 * v + 1 : Nat) : Int) < 2 * (s.n : Int) + 2 := by omega
      have htl := F1.trail_le
      rw [hn1] at htl
      generalize hlw : 2 * v + 1 = lv at *
      have HS1 : Hid _ := S1
      have HF1 : Hid _ := F1
      have HA1 : Hid _ := hA1
      have HHP : Hid _ := hhp1
      have HR : Hid _ := hR
      have HL : Hid _ := hlw
      have hgd : (((some v).getD 0 : Nat) : Int) = (v : Int) := rfl
      by_cases hv0 : s1.val lv = 0
      · have hR2 := HR.out
        simp only [tryR, HL.out, if_pos hv0, Option.some.injEq, Prod.mk.injEq] at hR2
        obtain ⟨rfl, rfl⟩ := hR2
        rw [hv0] at vv
        have M2 : Mem (wr.drewN 1) A1 s1 := M1.keep (fun _ _ => rfl)
        obtain ⟨ta, tc, t1', t2', t3, t4⟩ := startGrow M2 hsb1 s1.trail.length
        have zs : sb < wr.heap.size := M1.lt hsb1
        have t1 : wr.cell? ⟨sb, 4, none⟩ = some (.slice ta s1.starts.length tc) := t1'
        have t1a : ∀ O, ((wr.drewN 1).alloc O).cell? ⟨sb, 4, none⟩ = some (.slice ta s1.starts.length tc) := fun O => (World.cell?_of_block (a := ⟨sb, 4, none⟩) (Below.heap_alloc _ O sb zs)).trans t1'
        obtain ⟨la, lc, hts⟩ := slv_form M1 (r := .trail) rfl
        have c3 := M1.cell hsb1 (i := 3) rfl
        rw [show A1.slv .trail s1.trail.length 1 = .slice la s1.trail.length lc from hts] at c3
        have HT : Hid _ := t4
        have OW : Hid _ := t3
        have hM1 : Hid _ := M1
        obtain ⟨i0, hi0, hz0, hz1, hz2⟩ := info_parts infoIntS
        have hsl : s1.starts.length ≤ 1073741824 := by rw [hst1]; exact hst
        have HV0 : Hid _ := hv0
        have HST1 : Hid _ := hst1
        clear hst1
        clear M1 M2 S1 F1 hA1 hhp1 hR V0 hlw t1' t2' t3 t4 hts HR hv0
        generalize hsw : s1.starts.length = sl at *
        have HSW : Hid _ := hsw
        clear hsw
        go_wp2_with (first | (go_at_call 131; refine IS.mono ?_; rintro e w4 ⟨rfl, rfl⟩))
        refine wp_region_noPanic ?_
        go_region_law (first | (refine step_append_here rfl (.tmp 44) (.tmp 50) 39 rfl 0 3 i0 _ 1 8 Tryz.underlying39 hi0 hz0 hz1 hz2 rfl (by decide) (.slice ta sl tc) sl (s1.starts.map i64) (by (try simp only [Act.put, List.getElem_toArray, List.getElem_cons_succ, List.getElem_cons_zero, List.setIfInBounds_toArray, List.set_cons_succ, List.set_cons_zero]); first | rfl | (simp [Act.eval]; done)) (by exact World.ownsRow.alloc OW.out _) ⟨wr.heap.size, 0, none⟩ 1 1 [.int .i64 (s1.trail.length : Int)] (by (try simp only [Act.put, List.getElem_toArray, List.getElem_cons_succ, List.getElem_cons_zero, List.setIfInBounds_toArray, List.set_cons_succ, List.set_cons_zero]); first | rfl | (simp [Act.eval]; done)) rfl (cell_one1 _ _ _) (by simp [Value.oneCell']) (by unfold maxLen; omega) (by omega) (by simp) ?_; intro v8 w8 hown8 hgrow8 hloc8; obtain ⟨d1, g1, ⟨b8, k8, hv8⟩, hoth, A', ST, hsame⟩ := HT.out w8 _ v8 hown8 hgrow8 hloc8; subst hv8; have HF : Hid (_ ∧ _) := And.intro ST hsame; clear ST hsame hoth hown8 hgrow8 hloc8))
        all_goals
          try simp only [Act.put, List.getElem_toArray, List.getElem_cons_succ, List.getElem_cons_zero, List.setIfInBounds_toArray, List.set_cons_succ, List.set_cons_zero]
          refine NoPanic.normal ?_
          dsimp only [Exit.then]
          apply_assumption
          have S5 := (HS1.out.trans (Step.drew hM1.out 1)).trans HF.out.1
          have hsb5 : A'.blk .search = some sb := (HF.out.2 .search (by intro e; cases e)).1.trans hsb1
          have AS := assign_in _ A' _ HF.out.1.mem sb hsb5 lv (by show lv < 2 * s1.n + 2; rw [hn1]; omega) (by show s1.trail.length ≤ _; omega) none
          unfold i32 at AS
          have HS5 : Hid _ := S5
          clear S5 d1 g1
          go_wp2_with (first | (go_at_call 161; refine AS.mono ?_; rintro e w9 ⟨rfl, A9, S9, hA9⟩))
          go_ret
          refine ⟨rfl, A9, ?_, fun r h1 h2 => ?_⟩
          · exact HS5.out.trans S9
          · have q1 := hA9 r h1
            have q2 := HF.out.2 r h2
            have q3 := HA1.out r
            exact ⟨q1.1.trans (q2.1.trans q3.1), fun hr => q1.2.trans (q2.2.trans (q3.2 hr))⟩
      · have dv0 : (s1.val lv == 0) = false := by simpa using hv0
        have hR2 := HR.out
        simp only [tryR, HL.out, if_neg hv0] at hR2
        cases f1 with
        | zero => cases hR2
        | succ f2 =>
        rw [tryN_R] at hR2
        have hhp2 : ∀ v ∈ s1.hp, v ≤ s1.n := by rw [hn1]; exact hhp1
        obtain ⟨p1, p2, p3, p4, p5, p6, p7⟩ := pop_facts F1 hhp2 (by omega)
        have PO := pop_in wr A1 s1 M1 ob hob1 hhp2 (by omega) (by omega)
        have hcell1 : slLen ((wr.cell? ⟨ob, 1, none⟩).getD undef) = ln := by
          rw [M1.cell hob1 (i := 1) rfl]
          simp only [Option.getD_some, Ad.slv]
          obtain ⟨hb', hhb'⟩ := M1.fix .heap rfl
          rw [hhb']
          simp only [slLen]
          exact hln
        have HC1 : Hid _ := hcell1
        have HP : Hid (_ ∧ _ ∧ _ ∧ _ ∧ _ ∧ _ ∧ _) := ⟨p1, p2, p3, p4, p5, p6, p7⟩
        have HR2 : Hid _ := hR2
        have hM1 : Hid _ := M1
        clear M1 S1 F1 hA1 hhp1 hR hR2 p1 p2 p3 p4 p5 p6 p7 hhp2 hcell1 V0 hlw
        generalize s1.val lv = vl at *
        generalize s1.pop.1 = o1 at *
        generalize s1.pop.2 = s2 at *
        go_wp2_with (first | (go_at_call 219; refine PO.mono ?_; rintro e w4 ⟨rfl, A4, S4, hA4⟩) | (go_at_call 131; refine IS.mono ?_; rintro e w4 ⟨rfl, rfl⟩))
        obtain ⟨p1, p2, p3, p4, p5, p6, p7⟩ := HP.out
        have hob4 : A4.blk .order = some ob := (hA4 .order).1.trans hob1
        have hlen4 : slLen ((w4.cell? ⟨ob, 1, none⟩).getD undef) = s2.hp.length := by
          rw [S4.mem.cell hob4 (i := 1) rfl]
          simp only [Option.getD_some, Ad.slv]
          obtain ⟨hb', hhb'⟩ := S4.mem.fix .heap rfl
          rw [hhb']
          rfl
        have hle : s2.hp.length ≤ 4000 := by
          cases o1 with
          | none => have := p6 rfl; omega
          | some v => have := (p5 v rfl).2; omega
        refine ⟨⟨o1, s2.hp.length, rfl, rfl, A4, s2, f2, HS1.out.trans S4, p1, HR2.out, p2.trans hn1, by rw [p3]; exact hst1, rfl, p7, hle, by rw [← hn1]; exact p4, fun v e => by rw [← hn1]; exact (p5 v e).1, fun r => ⟨(hA4 r).1.trans (HA1.out r).1, fun hr => ((hA4 r).2 hr).trans ((HA1.out r).2 hr)⟩⟩, ?_⟩
        rw [hlen4, HC1.out]
        cases o1 with
        | none => have := p6 rfl; simp only [Option.isSome_none, Option.isSome_some, boV]; omega
        | some v => have := (p5 v rfl).2; simp only [Option.isSome_some, boV]; omega

end Go.Proofs.YtlehlgipbhfioaaGreat

namespace Go.Proofs.YtlehlgipbhfioaaGreat
open Go.RowKit Go.Maps

/-- append where there is room, in the walk. -/
theorem wpList_append_spare {P : Program} {ops : Array Oper} {rest : List Oper} {o : Oper} {a : Act} {w : World} {Q : Exit → Act → World → Prop} (hgd : o.guard = none) (sl x : Operand) (t : TypeId)
    (ho : o.op = .call { callee := .builtin .append, args := #[sl, x], argTypes := #[t, t] })
    (e : TypeId) (i : TypeInfo) (size : Nat) (h1 : P.underlying t = some (.slice e)) (h2 : P.info? e = some i) (h4 : i.size = size)
    (b off n cap : Nat) (hs : a.eval sl = .slice (some ⟨b, off, none⟩) n cap)
    (ad : Addr) (m c : Nat) (news : List Value) (hx : a.eval x = .slice (some ad) m c) (hn : news.length = m * size) (hc : ∀ j u, news[j]? = some u → w.cell? (ad.add j) = some u) (h1c : ∀ u ∈ news, u.oneCell' = true)
    (hroom : n + m ≤ cap) (hspare : ∀ j, j < news.length → (w.cell? ⟨b, off + n * size + j, none⟩).isSome = true ∧ w.frozen? ⟨b, off + n * size + j, none⟩ = false)
    (h : wpList P ops Q rest (a.put o.dst (.slice (some ⟨b, off, none⟩) (n + m) cap)) (w.setCells b (off + n * size) news)) : wpList P ops Q (o :: rest) a w := by
  refine wpList_plain hgd fun K hK => ?_
  subst h4
  have hr := run_append_room_cells (P := P) w t o.type e i h1 h2 b off n cap ad m c news hn hc h1c hroom (fun j hj => (hspare j hj).1) (fun j hj => (hspare j hj).2)
  unfold Oper.wp execOp
  simp only [ho, resolve, invoke, builtin, Sem.run_bind, Sem.run_pure, Result.andThen_ok, List.map_toArray, List.map_cons, List.map_nil, hs, hx, hr]
  exact hK _ _ h

/-- A row of numbers, one for each term. -/
theorem make_ints (w : World) (ty : TypeId) (hty : Tryz.prog.underlying ty = some (.slice 3)) (n : Nat) (hn : n ≤ 1000000) : (Instr.makeSlice ty (.int .i64 (n : Int)) (.int .i64 (n : Int))).run Tryz.prog w = .ok (.slice (some ⟨w.heap.size, 0, none⟩) n n) (w.alloc (.cells (madeCells #[.int .i64 0] n) 3)) := by
  obtain ⟨i0, hi0, hz0, hz1, hz2⟩ := info_parts infoIntK
  have hmk := run_make (P := Tryz.prog) w ty 3 i0 _ hty hi0 hz0 .i64 .i64 (n : Int) (n : Int) (by omega) (Int.le_refl _) (by rw [hz2]; omega) (by omega)
  rw [hz1] at hmk
  simp only [Int.toNat_natCast, Nat.mul_one] at hmk
  exact hmk

theorem infoUses : (Tryz.prog.info? 110).map (fun i => (i.zero, i.size, i.bytes)) = some (some (.slice none 0 0), 1, 24) := by kernel_rfl
theorem make_uses (w : World) (n : Nat) (hn : n ≤ 1000000) : (Instr.makeSlice 67 (.int .i64 (n : Int)) (.int .i64 (n : Int))).run Tryz.prog w = .ok (.slice (some ⟨w.heap.size, 0, none⟩) n n) (w.alloc (.cells (madeCells #[.slice none 0 0] n) 110)) := by
  obtain ⟨i0, hi0, hz0, hz1, hz2⟩ := info_parts infoUses
  have hmk := run_make (P := Tryz.prog) w 67 110 i0 _ Tryz.underlying67 hi0 hz0 .i64 .i64 (n : Int) (n : Int) (by omega) (Int.le_refl _) (by rw [hz2]; omega) (by omega)
  rw [hz1] at hmk
  simp only [Int.toNat_natCast, Nat.mul_one] at hmk
  exact hmk

/-- The room as far as it is filled. -/
def Rm (W : World) (rb total N : Nat) (c : Nat → Nat) (d : List (Nat × Nat)) : Prop := ∃ g, W.rowIs rb 3 total g ∧ ∀ i, i < N → ∀ j x : Nat, (Cc.usf d i)[j]? = some x → g (Cc.offs c i + j) = .int .i64 (x : Int)
theorem Rm.step {W : World} {rb total N : Nat} {c : Nat → Nat} {d : List (Nat × Nat)} (h : Rm W rb total N c d) {a n : Nat} (hd : Cc.cna d a < c a) (hle : ∀ i, Cc.cna d i ≤ c i) :
    Rm (W.setCell ⟨rb, Cc.offs c a + Cc.cna d a, none⟩ (.int .i64 (n : Int))) rb total N c (d ++ [(a, n)]) := by
  obtain ⟨g, R, hg⟩ := h
  refine ⟨_, R.set (Cc.offs c a + Cc.cna d a) (.int .i64 (n : Int)), fun i hi j x hj => ?_⟩
  rw [Cc.usf_snoc] at hj
  show (if Cc.offs c i + j = Cc.offs c a + Cc.cna d a then Value.int .i64 (n : Int) else g (Cc.offs c i + j)) = _
  by_cases e : i = a
  · subst e
    rw [if_pos rfl] at hj
    by_cases ej : j < Cc.cna d i
    · rw [List.getElem?_append_left ej] at hj
      rw [if_neg (by omega)]
      exact hg i hi j x hj
    · have hjl := (List.getElem?_eq_some_iff.1 hj).1
      rw [List.length_append, List.length_singleton] at hjl
      have ej2 : j = Cc.cna d i := by unfold Cc.cna at ej ⊢; omega
      subst ej2
      rw [if_pos rfl]
      unfold Cc.cna at hj
      rw [List.getElem?_append_right (Nat.le_refl _), Nat.sub_self] at hj
      simp at hj
      rw [hj]
  · rw [if_neg e] at hj
    have hjl : j < Cc.cna d i := (List.getElem?_eq_some_iff.1 hj).1
    have h1 := hle i
    have : ¬ Cc.offs c i + j = Cc.offs c a + Cc.cna d a := by
      rcases Nat.lt_or_gt_of_ne e with e | e
      · have := Cc.offs_mono c e; omega
      · have := Cc.offs_mono c e; omega
    rw [if_neg this]
    exact hg i hi j x hj

/-- The slice of term i, behind d. -/
def slD (rb : Nat) (c : Nat → Nat) (d : List (Nat × Nat)) (i : Nat) : Value := .slice (some ⟨rb, if c i = 0 then 0 else Cc.offs c i, none⟩) (Cc.cna d i) (c i)

/-- What firstUses leaves. -/
structure Fu (w w' : World) (ub : Nat) (l : List Tm) (uv : Nat → Value) (st : List (Nat × Obj)) : Prop where
  row : w'.rowIs ub 110 l.length uv
  sat : Sat st w'
  far : ∀ x ∈ st, w.heap.size ≤ x.1 ∧ x.1 ≠ ub
  uses : ∀ i, i < l.length → UseIs st (uv i) (Cc.usf (Cc.evs l 0) i)
  kept : Kept0 w w'
  ub : w.heap.size ≤ ub

theorem Fu.made {w w' : World} {rb : Nat} {l : List Tm} (h1 : w'.rowIs (rb + 1) 110 l.length (slD rb (Cc.cna (Cc.evs l 0)) (Cc.evs l 0))) (h2 : Rm w' rb (Cc.evs l 0).length l.length (Cc.cna (Cc.evs l 0)) (Cc.evs l 0)) (hall : Cc.offs (Cc.cna (Cc.evs l 0)) l.length = (Cc.evs l 0).length) (K : Kept0 w w') (hb : w.heap.size ≤ rb) :
    ∃ uv st2, Fu w w' (rb + 1) l uv st2 := by
  obtain ⟨g, ⟨C, q1, q2, q3⟩, hg⟩ := h2
  refine ⟨_, [(rb, .cells C 3 (0, 0))], ⟨h1, fun x hx => by simp at hx; subst hx; exact q1, fun x hx => by simp at hx; subst hx; exact ⟨hb, by show rb ≠ rb + 1; omega⟩, fun i hi => ?_, K, by omega⟩⟩
  refine ⟨_, Cc.cna (Cc.evs l 0) i, rfl, Nat.le_refl _, ?_⟩
  by_cases e : Cc.usf (Cc.evs l 0) i = []
  · exact .inl e
  · have hc : Cc.cna (Cc.evs l 0) i ≠ 0 := fun x => e (List.eq_nil_of_length_eq_zero x)
    refine .inr ⟨rb, Cc.offs (Cc.cna (Cc.evs l 0)) i, C, (0, 0), by rw [if_neg hc], by simp, fun j x hj => ?_⟩
    have hjl : j < Cc.cna (Cc.evs l 0) i := (List.getElem?_eq_some_iff.1 hj).1
    have := Cc.offs_mono (Cc.cna (Cc.evs l 0)) hi
    rw [q3 _ (by omega), hg i hi j x hj]

set_option maxHeartbeats 2000000 in
set_option maxRecDepth 100000 in
theorem first_in (w : World) (l : List Tm) (tb : Nat) (av : Nat → Value) (st : List (Nat × Obj)) (hR : w.rowIs tb 102 (l.length * 2) (termC l av)) (hS : Sat st w) (hA : ∀ (i : Nat) (t : Tm), l[i]? = some t → UseIs st (av i) t.args) (hb : Cc.Bd l) (hl : l.length ≤ 150) :
    Calls Tryz.prog 33 #[.slice (some ⟨tb, 0, none⟩) l.length l.length] w fun e w' => ∃ ub uv st2, e = .returned (.slice (some ⟨ub, 0, none⟩) l.length l.length) ∧ Fu w w' ub l uv st2 := by
  have M1 := make_ints w 39 Tryz.underlying39 l.length (by omega)
  have R1 := World.rowIs_made w (.int .i64 0) l.length 3
  have K1 : Kept0 w (w.alloc (.cells (madeCells #[.int .i64 0] l.length) 3)) := Kept.alloc (Kept.refl _ w) _
  go_enter Tryz.func33, Tryz.ntmps33
  go_wp2_with fail
  clear M1
  generalize w.alloc (.cells (madeCells #[.int .i64 0] l.length) 3) = w1 at *
  have h4 := hb.four
  have hcb : w.heap.size < w1.heap.size := R1.lt
  have htl := hR.lt
  generalize hcbe : w.heap.size = cb at *
  have T0 : ∀ W, Kept0 w W → ∀ (n : Nat) (t : Tm), l[n]? = some t → W.cell? ⟨tb, n * 2, none⟩ = some (.string t.name) ∧ W.cell? ⟨tb, n * 2 + 1, none⟩ = some (av n) := fun W K n t ht => by
    have hn := (List.getElem?_eq_some_iff.1 ht).1
    have R := World.rowIs.of_block hR (K.block tb (by omega) (fun e => e))
    refine ⟨?_, ?_⟩
    · rw [R.cell (i := n * 2) (by omega)]; simp [termC, ht]
    · rw [R.cell (i := n * 2 + 1) (by omega)]
      have h1 : (n * 2 + 1) % 2 = 1 := by omega
      have h2 : (n * 2 + 1) / 2 = n := by omega
      simp [termC, h1, h2]
  have T0h : Hid _ := T0
  clear T0
  have SS : ∀ W, Kept0 w W → Sat st W := fun W K x hx => (K.block x.1 (Array.getElem?_eq_some_iff.1 (hS x hx)).1 (fun e => e)).trans (hS x hx)
  go_loopw [4, 23] (fun t4 t23 W => ∃ n : Nat, n ≤ l.length ∧ t23 = .int .i64 (n : Int) ∧ t4 = .int .i64 ((Cc.evs (l.take n) 0).length : Int) ∧ W.rowIs cb 3 l.length (fun i => .int .i64 (Cc.cna (Cc.evs (l.take n) 0) i : Int)) ∧ Kept0 w W) (fun _ t23 _ => l.length - (intOf t23).toNat)
  case atStart => exact ⟨0, by omega, rfl, rfl, R1, K1⟩
  case round =>
    clear R1 K1
    obtain ⟨n, hn, rfl, rfl, R, K⟩ := hrel
    by_cases hn2 : n < l.length
    · have dn : decide ((n : Int) < (l.length : Int)) = true := decide_eq_true (by omega)
      have ht : l[n]? = some l[n] := List.getElem?_eq_getElem hn2
      generalize hln : l[n] = t at ht
      obtain ⟨t0, t1⟩ := T0h.out wr K n t ht
      obtain ⟨aa, ac, hav⟩ := (hA n t ht).form
      rw [hav] at t1
      have hU := hA n t ht
      rw [hav] at hU
      have K2 : Kept0 w (wr.alloc (.cells #[.string t.name, .slice aa t.args.length ac] 102)) := K.alloc _
      have R2 := R.alloc (.cells #[.string t.name, .slice aa t.args.length ac] 102)
      rw [← Cc.pre_zero l n t] at R2
      have e0 : (Cc.evs (l.take n) 0).length = (Cc.pre l n t 0).length := by rw [Cc.pre_zero]
      go_wp2_with fail
      rw [e0]
      generalize wr.alloc (.cells #[.string t.name, .slice aa t.args.length ac] 102) = w2 at *
      clear t0 t1 R K
      go_loopw [4, 30] (fun t4 t30 W => ∃ k : Nat, k ≤ t.args.length ∧ t30 = .int .i64 (k : Int) ∧ t4 = .int .i64 ((Cc.pre l n t k).length : Int) ∧ W.rowIs cb 3 l.length (fun i => .int .i64 (Cc.cna (Cc.pre l n t k) i : Int)) ∧ Kept0 w W) (fun _ t30 _ => t.args.length - (intOf t30).toNat)
      case atStart => exact ⟨0, by omega, rfl, rfl, R2, K2⟩
      case round =>
        clear R2 K2
        obtain ⟨k, hk, rfl, rfl, R, K⟩ := hrel
        by_cases hk2 : k < t.args.length
        · have dk : decide ((k : Int) < (t.args.length : Int)) = true := decide_eq_true (by omega)
          have hka : t.args[k]? = some t.args[k] := List.getElem?_eq_getElem hk2
          obtain ⟨b, off, cap, hv, _, hc⟩ := hU.cell (SS wr K) hka
          injection hv with e1 e2 e3
          clear e2
          subst e1 e3
          have ck := hc k _ hka
          clear hc
          have hlt := hb.args n t ht _ (List.getElem_mem hk2)
          have hpl := Cc.pre_len h4 ht k
          have hcl := Cc.cna_le (Cc.pre l n t k) t.args[k]
          have R' := World.rowIs.congr (R.set t.args[k] (.int .i64 ((Cc.cna (Cc.pre l n t k) t.args[k] : Int) + 1))) (g := fun i => .int .i64 (Cc.cna (Cc.pre l n t (k + 1)) i : Int)) (fun i hi => by
            rw [Cc.pre_step hka, Cc.cna_snoc]
            by_cases e : i = t.args[k]
            · rw [if_pos e, if_pos e, e]; simp
            · rw [if_neg e, if_neg e])
          have cc := R.cell (i := t.args[k]) hlt
          have fc := R.frozen t.args[k]
          have hpl' : (Cc.pre l n t (k + 1)).length = (Cc.pre l n t k).length + 1 := by rw [Cc.pre_step hka]; simp
          generalize t.args[k] = xa at *
          generalize Cc.cna (Cc.pre l n t k) xa = cn at *
          generalize (Cc.pre l n t k).length = pn at *
          have hk4 : t.args.length ≤ 4 := h4 t (List.mem_of_getElem? ht)
          have HF : Hid (_ ∧ _ ∧ _) := ⟨R', hpl', Kept.setNew (off := xa) K (Nat.le_of_eq hcbe) (.int .i64 ((cn : Int) + 1))⟩
          clear R R' hpl' K hU hka hav hA hR hS T0h SS hb h4 hln ht e0 hcb htl hcbe
          go_wp2_with fail
          obtain ⟨R', hpl', K'⟩ := HF.out
          refine ⟨⟨k + 1, hk2, ?_, ?_, R', K'⟩, ?_⟩
          · simp
          · rw [hpl']; simp
          · simp [intOf]; omega
        · have dk : decide ((k : Int) < (t.args.length : Int)) = false := decide_eq_false (by omega)
          obtain rfl : k = t.args.length := by omega
          rw [Cc.pre_all ht] at R ⊢
          go_wp2_with fail
          exact ⟨⟨n + 1, by omega, by simp, rfl, R, K⟩, by simp [intOf]; omega⟩
    · have dn : decide ((n : Int) < (l.length : Int)) = false := decide_eq_false (by omega)
      obtain rfl : n = l.length := by omega
      rw [Cc.evs_all] at R ⊢
      have htot : (Cc.evs l 0).length ≤ 4 * l.length := Cc.evs_len h4 0
      have hall : Cc.offs (Cc.cna (Cc.evs l 0)) l.length = (Cc.evs l 0).length := Cc.offs_all _ _ (Cc.evs_lt (fun t ht a ha => by
        obtain ⟨n, hn, rfl⟩ := List.mem_iff_getElem.1 ht
        exact hb.args n _ (List.getElem?_eq_getElem hn) a ha) 0)
      have M2 := make_ints wr 110 Tryz.underlying110 (Cc.evs l 0).length (by omega)
      have M3 := make_uses (wr.alloc (.cells (madeCells #[.int .i64 0] (Cc.evs l 0).length) 3)) l.length (by omega)
      have Rr := World.rowIs.alloc (World.rowIs_made wr (.int .i64 0) (Cc.evs l 0).length 3) (.cells (madeCells #[.slice none 0 0] l.length) 110)
      have Ra := World.rowIs_made (wr.alloc (.cells (madeCells #[.int .i64 0] (Cc.evs l 0).length) 3)) (.slice none 0 0) l.length 110
      have hs1 : (wr.alloc (.cells (madeCells #[.int .i64 0] (Cc.evs l 0).length) 3)).heap.size = wr.heap.size + 1 := by simp
      rw [hs1] at M3 Ra
      have Rc := (R.alloc (.cells (madeCells #[.int .i64 0] (Cc.evs l 0).length) 3)).alloc (.cells (madeCells #[.slice none 0 0] l.length) 110)
      have K5 := (K.alloc (.cells (madeCells #[.int .i64 0] (Cc.evs l 0).length) 3)).alloc (.cells (madeCells #[.slice none 0 0] l.length) 110)
      have hrb : cb < wr.heap.size := R.lt
      go_wp2_with fail
      clear M2 M3 R K hs1
      generalize (wr.alloc (.cells (madeCells #[.int .i64 0] (Cc.evs l 0).length) 3)).alloc (.cells (madeCells #[.slice none 0 0] l.length) 110) = w5 at *
      generalize wr.heap.size = rb at *
      generalize hE : Cc.evs l 0 = E at *
      have hEh : Hid (Cc.evs l 0 = E) := hE
      clear hE
      go_loopw [11, 51] (fun t11 t51 W => ∃ n : Nat, n ≤ l.length ∧ t51 = .int .i64 (n : Int) ∧ t11 = .int .i64 (Cc.offs (Cc.cna E) n : Int) ∧ W.rowIs (rb + 1) 110 l.length (fun i => if i < n then slD rb (Cc.cna E) [] i else .slice none 0 0) ∧ W.rowIs cb 3 l.length (fun i => .int .i64 (Cc.cna E i : Int)) ∧ W.rowIs rb 3 E.length (fun _ => .int .i64 0) ∧ Kept0 w W) (fun _ t51 _ => l.length - (intOf t51).toNat)
      case atStart => exact ⟨0, by omega, rfl, rfl, Ra.congr (fun i _ => by simp), Rc, Rr, K5⟩
      case round =>
        clear Ra Rc Rr K5
        obtain ⟨n, hn, rfl, rfl, Ra, Rc, Rr, K⟩ := hrel
        by_cases hn2 : n < l.length
        · have dn : decide ((n : Int) < (l.length : Int)) = true := decide_eq_true (by omega)
          have cc := Rc.cell (i := n) hn2
          have ca := Ra.cell (i := n) hn2
          rw [if_neg (Nat.lt_irrefl n)] at ca
          have fa := Ra.frozen n
          have hom := Cc.offs_mono (Cc.cna E) hn2
          rw [hall] at hom
          have hoff : Cc.offs (Cc.cna E) (n + 1) = Cc.offs (Cc.cna E) n + Cc.cna E n := rfl
          have SLD : Hid (slD rb (Cc.cna E) [] n = .slice (some ⟨rb, if Cc.cna E n = 0 then 0 else Cc.offs (Cc.cna E) n, none⟩) 0 (Cc.cna E n)) := rfl
          generalize hcn : Cc.cna E n = cn at *
          generalize hon : Cc.offs (Cc.cna E) n = on at *
          clear hA hR hS T0h SS hb h4 hall hcb htl
          have HH : Hid (_ ∧ _ ∧ _ ∧ _ ∧ _ ∧ _) := ⟨hcn, hon, Ra, Rc, Rr, K⟩
          clear hcn hon Ra Rc Rr K
          by_cases hc0 : cn = 0
          · subst hc0
            go_wp2_with fail
            obtain ⟨hcn, hon, Ra, Rc, Rr, K⟩ := HH.out
            have hv := SLD.out
            rw [if_pos rfl] at hv
            refine ⟨⟨n + 1, hn2, by simp, by rw [hoff]; rfl, (Ra.set n _).congr (fun i hi => ?_), Rc.setOther (show cb ≠ rb + 1 by omega) _, Rr.setOther (show rb ≠ rb + 1 by omega) _, Kept.setNew K (by omega) _⟩, by simp [intOf]; omega⟩
            by_cases e : i = n
            · rw [if_pos e, e, if_pos (Nat.lt_succ_self n), hv]
            · rw [if_neg e]
              by_cases e2 : i < n
              · rw [if_pos e2, if_pos (by omega)]
              · rw [if_neg e2, if_neg (by omega)]
          · go_wp2_with fail
            obtain ⟨hcn, hon, Ra, Rc, Rr, K⟩ := HH.out
            have hv := SLD.out
            rw [if_neg hc0] at hv
            refine ⟨⟨n + 1, hn2, by simp, by rw [hoff]; simp, (Ra.set n _).congr (fun i hi => ?_), Rc.setOther (show cb ≠ rb + 1 by omega) _, Rr.setOther (show rb ≠ rb + 1 by omega) _, Kept.setNew K (by omega) _⟩, by simp [intOf]; omega⟩
            by_cases e : i = n
            · rw [if_pos e, e, if_pos (Nat.lt_succ_self n), hv]
            · rw [if_neg e]
              by_cases e2 : i < n
              · rw [if_pos e2, if_pos (by omega)]
              · rw [if_neg e2, if_neg (by omega)]
        · have dn : decide ((n : Int) < (l.length : Int)) = false := decide_eq_false (by omega)
          obtain rfl : n = l.length := by omega
          have Ra0 : wr.rowIs (rb + 1) 110 l.length (slD rb (Cc.cna E) (Cc.evs (l.take 0) 0)) := Ra.congr (fun i hi => by rw [if_pos hi]; rfl)
          have Rm0 : Rm wr rb E.length l.length (Cc.cna E) (Cc.evs (l.take 0) 0) := ⟨_, Rr, fun i _ j x hj => by simp [Cc.evs, Cc.usf] at hj⟩
          have HC : Hid (cb < rb ∧ w.heap.size = cb) := ⟨hrb, hcbe⟩
          clear hrb hcbe hcb htl
          go_wp2_with fail
          clear Ra Rc Rr
          go_loopw [72] (fun t72 W => ∃ n : Nat, n ≤ l.length ∧ t72 = .int .i64 (n : Int) ∧ W.rowIs (rb + 1) 110 l.length (slD rb (Cc.cna E) (Cc.evs (l.take n) 0)) ∧ Rm W rb E.length l.length (Cc.cna E) (Cc.evs (l.take n) 0) ∧ Kept0 w W) (fun t72 _ => l.length - (intOf t72).toNat)
          case atStart => exact ⟨0, by omega, rfl, Ra0, Rm0, K⟩
          case round =>
            clear Ra0 Rm0 K
            obtain ⟨n, hn, rfl, Ra, Rm1, K⟩ := hrel
            by_cases hn2 : n < l.length
            · have dn : decide ((n : Int) < (l.length : Int)) = true := decide_eq_true (by omega)
              have ht : l[n]? = some l[n] := List.getElem?_eq_getElem hn2
              generalize hln : l[n] = t at ht
              clear hln
              obtain ⟨t0, t1⟩ := T0h.out wr K n t ht
              have hU := hA n t ht
              obtain ⟨aa, ac, hav⟩ := hU.form
              rw [hav] at t1 hU
              have K2 : Kept0 w (wr.alloc (.cells #[.string t.name, .slice aa t.args.length ac] 102)) := K.alloc _
              have R2 := Ra.alloc (.cells #[.string t.name, .slice aa t.args.length ac] 102)
              have Rm2 : Rm (wr.alloc (.cells #[.string t.name, .slice aa t.args.length ac] 102)) rb E.length l.length (Cc.cna E) (Cc.evs (l.take n) 0) := by
                obtain ⟨g, q1, q2⟩ := Rm1
                exact ⟨g, q1.alloc _, q2⟩
              rw [← Cc.pre_zero l n t] at R2 Rm2
              have HT : Hid (l[n]? = some t) := ht
              clear ht
              go_wp2_with fail
              have ht := HT.out
              clear HT
              generalize wr.alloc (.cells #[.string t.name, .slice aa t.args.length ac] 102) = w6 at *
              clear t0 t1 Ra Rm1 K hav
              go_loopw [80] (fun t80 W => ∃ k : Nat, k ≤ t.args.length ∧ t80 = .int .i64 (k : Int) ∧ W.rowIs (rb + 1) 110 l.length (slD rb (Cc.cna E) (Cc.pre l n t k)) ∧ Rm W rb E.length l.length (Cc.cna E) (Cc.pre l n t k) ∧ Kept0 w W) (fun t80 _ => t.args.length - (intOf t80).toNat)
              case atStart => exact ⟨0, by omega, rfl, R2, Rm2, K2⟩
              case round =>
                clear R2 Rm2 K2
                obtain ⟨k, hk, rfl, Ra, Rm1, K⟩ := hrel
                by_cases hk2 : k < t.args.length
                · have dk : decide ((k : Int) < (t.args.length : Int)) = true := decide_eq_true (by omega)
                  have hka : t.args[k]? = some t.args[k] := List.getElem?_eq_getElem hk2
                  obtain ⟨b, off, cap, hv, _, hc⟩ := hU.cell (SS wr K) hka
                  injection hv with e1 e2 e3
                  clear e2
                  subst e1 e3
                  have ck := hc k _ hka
                  clear hc
                  have hlt := hb.args n t ht _ (List.getElem_mem hk2)
                  have hk4 : t.args.length ≤ 4 := h4 t (List.mem_of_getElem? ht)
                  generalize t.args[k] = xa at *
                  have hle : ∀ i, Cc.cna (Cc.pre l n t k) i ≤ Cc.cna E i := fun i => by rw [← hEh.out]; exact Cc.pre_cna ht k i
                  have hlt2 : Cc.cna (Cc.pre l n t k) xa < Cc.cna E xa := by
                    have := Cc.pre_cna ht (k + 1) xa
                    rw [Cc.pre_step hka, Cc.cna_snoc, if_pos rfl, hEh.out] at this
                    omega
                  have hom := Cc.offs_mono (Cc.cna E) hlt
                  rw [hall] at hom
                  have Rm3 := Rm1.step (n := n) hlt2 hle
                  rw [← Cc.pre_step hka] at Rm3
                  have ca := Ra.cell (i := xa) hlt
                  have fa := Ra.frozen xa
                  have hsl : slD rb (Cc.cna E) (Cc.pre l n t k) xa = .slice (some ⟨rb, Cc.offs (Cc.cna E) xa, none⟩) (Cc.cna (Cc.pre l n t k) xa) (Cc.cna E xa) := by unfold slD; rw [if_neg (by omega)]
                  have hsl2 : slD rb (Cc.cna E) (Cc.pre l n t (k + 1)) xa = .slice (some ⟨rb, Cc.offs (Cc.cna E) xa, none⟩) (Cc.cna (Cc.pre l n t k) xa + 1) (Cc.cna E xa) := by unfold slD; rw [if_neg (by omega), Cc.pre_step hka, Cc.cna_snoc, if_pos rfl]
                  have hso : ∀ i, i ≠ xa → slD rb (Cc.cna E) (Cc.pre l n t (k + 1)) i = slD rb (Cc.cna E) (Cc.pre l n t k) i := fun i hi => by unfold slD; rw [Cc.pre_step hka, Cc.cna_snoc, if_neg hi]
                  rw [hsl] at ca
                  obtain ⟨g, Rg, hg⟩ := Rm1
                  have hxl : Cc.offs (Cc.cna E) xa + Cc.cna (Cc.pre l n t k) xa < E.length := by omega
                  have cr : ∀ O, (wr.alloc O).cell? ⟨rb, Cc.offs (Cc.cna E) xa + Cc.cna (Cc.pre l n t k) xa, none⟩ = some (g (Cc.offs (Cc.cna E) xa + Cc.cna (Cc.pre l n t k) xa)) ∧ (wr.alloc O).frozen? ⟨rb, Cc.offs (Cc.cna E) xa + Cc.cna (Cc.pre l n t k) xa, none⟩ = false := fun O => by
                    have := Rg.alloc O
                    exact ⟨this.cell hxl, this.frozen _⟩
                  have FIN : Hid (∀ O, ((((wr.alloc O).setCell ⟨rb, Cc.offs (Cc.cna E) xa + Cc.cna (Cc.pre l n t k) xa, none⟩ (.int .i64 (n : Int))).setCell ⟨rb + 1, xa, none⟩ (.slice (some ⟨rb, Cc.offs (Cc.cna E) xa, none⟩) (Cc.cna (Cc.pre l n t k) xa + 1) (Cc.cna E xa))).rowIs (rb + 1) 110 l.length (slD rb (Cc.cna E) (Cc.pre l n t (k + 1)))) ∧ Rm (((wr.alloc O).setCell ⟨rb, Cc.offs (Cc.cna E) xa + Cc.cna (Cc.pre l n t k) xa, none⟩ (.int .i64 (n : Int))).setCell ⟨rb + 1, xa, none⟩ (.slice (some ⟨rb, Cc.offs (Cc.cna E) xa, none⟩) (Cc.cna (Cc.pre l n t k) xa + 1) (Cc.cna E xa))) rb E.length l.length (Cc.cna E) (Cc.pre l n t (k + 1)) ∧ Kept0 w (((wr.alloc O).setCell ⟨rb, Cc.offs (Cc.cna E) xa + Cc.cna (Cc.pre l n t k) xa, none⟩ (.int .i64 (n : Int))).setCell ⟨rb + 1, xa, none⟩ (.slice (some ⟨rb, Cc.offs (Cc.cna E) xa, none⟩) (Cc.cna (Cc.pre l n t k) xa + 1) (Cc.cna E xa)))) := fun O => by
                    obtain ⟨h1, h2⟩ := HC.out
                    refine ⟨?_, ?_, ?_⟩
                    · refine (((Ra.alloc O).setOther (a := ⟨rb, Cc.offs (Cc.cna E) xa + Cc.cna (Cc.pre l n t k) xa, none⟩) (show rb + 1 ≠ rb by omega) (.int .i64 (n : Int))).set xa _).congr (fun i hi => ?_)
                      by_cases e : i = xa
                      · rw [if_pos e, e, hsl2]
                      · rw [if_neg e, hso i e]
                    · have := Rm.step (W := wr.alloc O) (n := n) (⟨g, Rg.alloc O, hg⟩ : Rm (wr.alloc O) rb E.length l.length (Cc.cna E) (Cc.pre l n t k)) hlt2 hle
                      rw [← Cc.pre_step hka] at this
                      obtain ⟨g', q1, q2⟩ := this
                      exact ⟨g', q1.setOther (a := ⟨rb + 1, xa, none⟩) (show rb ≠ rb + 1 by omega) _, q2⟩
                    · exact Kept.setNew (Kept.setNew (K.alloc O) (by omega) _) (by omega) _
                  have ca' : ∀ O, ((wr.alloc O).setCell ⟨rb, Cc.offs (Cc.cna E) xa + Cc.cna (Cc.pre l n t k) xa, none⟩ (.int .i64 (n : Int))).cell? ⟨rb + 1, xa, none⟩ = some (.slice (some ⟨rb, Cc.offs (Cc.cna E) xa, none⟩) (Cc.cna (Cc.pre l n t k) xa) (Cc.cna E xa)) ∧ ((wr.alloc O).setCell ⟨rb, Cc.offs (Cc.cna E) xa + Cc.cna (Cc.pre l n t k) xa, none⟩ (.int .i64 (n : Int))).frozen? ⟨rb + 1, xa, none⟩ = false := fun O => by
                    have q := (Ra.alloc O).setOther (a := ⟨rb, Cc.offs (Cc.cna E) xa + Cc.cna (Cc.pre l n t k) xa, none⟩) (show rb + 1 ≠ rb by omega) (.int .i64 (n : Int))
                    exact ⟨by rw [q.cell hlt, hsl], q.frozen _⟩
                  have HT : Hid (l[n]? = some t ∧ t.args[k]? = some xa) := ⟨ht, hka⟩
                  obtain ⟨i0, hi0, hz0, hz1, hz2⟩ := info_parts infoIntK
                  clear ht hka Ra Rg hg hsl hsl2 hso K Rm3 hle hU hA hS SS hR T0h hb hall h4
                  generalize Cc.cna E xa = cE at *
                  generalize Cc.offs (Cc.cna E) xa = oE at *
                  generalize Cc.cna (Cc.pre l n t k) xa = cd at *
                  obtain ⟨q1, q2⟩ := ca' (.cells #[.int .i64 (n : Int)] 3)
                  obtain ⟨q3, q4⟩ := cr (.cells #[.int .i64 (n : Int)] 3)
                  have hroom : cd + 1 ≤ cE := by omega
                  clear cr ca' hi0 hz0 hz1 hz2
                  go_wp2_with fail
                  obtain ⟨f1, f2, f3⟩ := FIN.out (.cells #[.int .i64 (n : Int)] 3)
                  exact ⟨⟨k + 1, hk2, by simp, f1, f2, f3⟩, by simp [intOf]; omega⟩
                · have dk : decide ((k : Int) < (t.args.length : Int)) = false := decide_eq_false (by omega)
                  obtain rfl : k = t.args.length := by omega
                  rw [Cc.pre_all ht] at Ra Rm1
                  have HT : Hid (l[n]? = some t) := ht
                  clear ht
                  go_wp2_with fail
                  exact ⟨⟨n + 1, by omega, by simp, Ra, Rm1, K⟩, by simp [intOf]; omega⟩
            · have dn : decide ((n : Int) < (l.length : Int)) = false := decide_eq_false (by omega)
              obtain rfl : n = l.length := by omega
              rw [Cc.evs_all] at Ra Rm1
              go_wp2_with fail
              go_ret
              obtain ⟨h1, h2⟩ := HC.out
              have hE := hEh.out
              rw [hE] at Ra Rm1
              rw [← hE] at Ra Rm1 hall
              obtain ⟨uv, st2, F⟩ := Fu.made Ra Rm1 hall K (by omega)
              exact ⟨_, uv, st2, rfl, F⟩

end Go.Proofs.YtlehlgipbhfioaaGreat

namespace Go.Proofs.YtlehlgipbhfioaaGreat
open Go.RowKit Go.Maps

theorem g0_lo : Uf.g0.lo = id := rfl

/-- What is known of the first k terms. -/
def Kn (l : List Tm) (k : Nat) (kn : Tm → Option Nat) : Prop := ∀ (s : Tm) (m : Nat), kn s = some m ↔ m < k ∧ ∃ t, l[m]? = some t ∧ Cc.sg id t = s
theorem Kn.step {l : List Tm} {k : Nat} {kn : Tm → Option Nat} (h : Kn l k kn) (hb : Cc.Bd l) {t : Tm} (ht : l[k]? = some t) : Kn l (k + 1) (fun u => if u = Cc.sg id t then some k else kn u) := by
  intro s m
  by_cases e : s = Cc.sg id t
  · subst e
    simp only [if_true]
    constructor
    · intro x
      cases x
      exact ⟨by omega, t, ht, rfl⟩
    · rintro ⟨_, u, hu, he⟩
      rw [Cc.sg_inj hb hu ht he]
  · simp only [e, if_false]
    rw [h s m]
    constructor
    · rintro ⟨h1, h2⟩
      exact ⟨by omega, h2⟩
    · rintro ⟨h1, u, hu, he⟩
      refine ⟨?_, u, hu, he⟩
      by_cases em : m = k
      · subst em
        rw [ht] at hu
        cases hu
        exact absurd he.symm e
      · omega

/-- The classes as they are made. -/
def z0 (l : List Tm) (pk ps nb tb ub mb : Nat) (av uv : Nat → Value) (st : List (Nat × Obj)) (kn : Tm → Option Nat) (ms : Nat) : Zs :=
  { pk := pk, ps := ps, nb := nb, tb := tb, ub := ub, mb := mb, jv := .slice none 0 0, bv := .slice none 0 0, av := av, uv := uv, g := Uf.g0, t := [], bs := [], st := st, us := fun i => Cc.usf (Cc.evs l 0) i, kn := kn, ms := ms }

theorem Cz.made {w w1 w2 : World} {base : Nat} {l : List Tm} {tb : Nat} {av : Nat → Value} {st : List (Nat × Obj)} (hR : w.rowIs tb 102 (l.length * 2) (termC l av)) (hS : Sat st w) (hA : ∀ (i : Nat) (t : Tm), l[i]? = some t → UseIs st (av i) t.args) (hb : Cc.Bd l) (hok : ∀ t ∈ l, t.ok) (hl : l.length ≤ 150)
    (hbase : base ≤ w.heap.size) (htb : base ≤ tb) (hst : ∀ x ∈ st, base ≤ x.1) (hsl : ∀ x ∈ st, x.1 < w.heap.size)
    (S1 : St w1 w.heap.size (w.heap.size + 1) w.heap.size (.slice none 0 0) l.length Uf.g0 []) (B1 : Below w.heap.size w w1) {ub : Nat} {uv : Nat → Value} {st2 : List (Nat × Obj)} (F : Fu w1 w2 ub l uv st2) :
    Cz ((w2.alloc (.map #[] 0)).alloc (.cells #[.pointer (some ⟨w.heap.size + 1, 0, none⟩), .slice (some ⟨tb, 0, none⟩) l.length l.length, .slice (some ⟨ub, 0, none⟩) l.length l.length, .map (some w2.heap.size), .slice none 0 0] 71)) base l
      (z0 l (w2.heap.size + 1) (w.heap.size + 1) w.heap.size tb ub w2.heap.size av uv (st ++ st2) (fun _ => none) 0) := by
  have k2 := F.kept
  have s1 := B1.size
  have s2 := k2.size
  have hlt1 : w.heap.size + 1 < w1.heap.size := S1.lies.sets.lt
  have hs : (w2.alloc (.map #[] 0)).heap.size = w2.heap.size + 1 := by simp
  have K4 : Kept0 w2 ((w2.alloc (.map #[] 0)).alloc (.cells #[.pointer (some ⟨w.heap.size + 1, 0, none⟩), .slice (some ⟨tb, 0, none⟩) l.length l.length, .slice (some ⟨ub, 0, none⟩) l.length l.length, .map (some w2.heap.size), .slice none 0 0] 71)) := Kept.alloc (Kept.alloc (Kept.refl _ w2) _) _
  have hlw : tb < w.heap.size := hR.lt
  have lub := F.ub
  have rub := F.row.lt
  refine ⟨?_, ?_, ?_, F.row.of_block (K4.block _ rub (fun e => e)), ?_, World.ownsRow_nil _ _ _ _, ?_, ?_, fun i t ht => (hA i t ht).mono (fun x hx => List.mem_append_left _ hx), fun i hi => (F.uses i hi).mono (fun x hx => List.mem_append_right _ hx), hb, hok, hl, ?_, htb, ?_, ?_⟩
  · have r := made_row (w2.alloc (.map #[] 0)) #[.pointer (some ⟨w.heap.size + 1, 0, none⟩), .slice (some ⟨tb, 0, none⟩) l.length l.length, .slice (some ⟨ub, 0, none⟩) l.length l.length, .map (some w2.heap.size), .slice none 0 0] 71
    rw [hs] at r
    refine r.congr (fun j hj => ?_)
    have hj' : j < 5 := hj
    rcases (by omega : j = 0 ∨ j = 1 ∨ j = 2 ∨ j = 3 ∨ j = 4) with rfl | rfl | rfl | rfl | rfl <;> rfl
  · have S2 := (S1.other F.kept (fun e => e) (fun e => e) (fun _ _ e => e)).other K4 (fun e => e) (fun e => e) (fun _ _ e => e)
    have L := S2.lies
    exact ⟨⟨L.sets, L.nodes, World.ownsRow_nil _ _ _ _, L.ne, L.jp, L.jn, by show base ≤ w.heap.size + 1; omega, hbase, L.small⟩, S2.hist, by have := K4.size; omega⟩
  · exact ((hR.of_block (B1.block _ hlw)).of_block (k2.block _ (by omega) (fun e => e))).of_block (K4.block _ (by omega) (fun e => e))
  · have m1 := World.ownsMap_made (H := Unit) w2 Tryz.prog 98 (plainElem Tryz.prog 3)
    exact ⟨.map [], mapIs_of (m1.alloc _), Nat.zero_le _, fun s _ => ⟨rfl, rfl⟩⟩
  · intro x hx
    rcases List.mem_append.1 hx with hx | hx
    · have := hsl x hx
      exact (K4.block _ (by omega) (fun e => e)).trans ((k2.block _ (by omega) (fun e => e)).trans ((B1.block _ this).trans (hS x hx)))
    · have := (Array.getElem?_eq_some_iff.1 (F.sat x hx)).1
      exact (K4.block _ this (fun e => e)).trans (F.sat x hx)
  · intro x hx
    rcases List.mem_append.1 hx with hx | hx
    · have := hsl x hx
      refine ⟨hst x hx, ?_⟩
      rintro (e | (e | e | e) | e | e | e)
      · have e' : x.1 = w2.heap.size + 1 := e; omega
      · have e' : x.1 = w.heap.size + 1 := e; omega
      · have e' : x.1 = w.heap.size := e; omega
      · simp [z0, Value.ownBlock] at e
      · have e' : x.1 = ub := e; omega
      · have e' : x.1 = w2.heap.size := e; omega
      · simp [z0, Value.ownBlock] at e
    · have h1 := F.far x hx
      have h2 := (Array.getElem?_eq_some_iff.1 (F.sat x hx)).1
      refine ⟨by omega, ?_⟩
      rintro (e | (e | e | e) | e | e | e)
      · have e' : x.1 = w2.heap.size + 1 := e; omega
      · have e' : x.1 = w.heap.size + 1 := e; omega
      · have e' : x.1 = w.heap.size := e; omega
      · simp [z0, Value.ownBlock] at e
      · exact h1.2 e
      · have e' : x.1 = w2.heap.size := e; omega
      · simp [z0, Value.ownBlock] at e
  · show base ≤ w2.heap.size + 1; omega
  · show base ≤ ub; omega
  · show base ≤ w2.heap.size; omega

end Go.Proofs.YtlehlgipbhfioaaGreat

namespace Go.Proofs.YtlehlgipbhfioaaGreat
open Go.RowKit Go.Maps

theorem infoPair : (Tryz.prog.info? 34).map (fun i => (i.zero, i.size, i.bytes)) = some (some (.agg #[.int .i64 0, .int .i64 0]), 2, 16) := by kernel_rfl
theorem joinC_len (js : List (Nat × Nat)) : (joinC js).length = js.length * 2 := by
  induction js with
  | nil => rfl
  | cons x js ih => simp [joinC] at ih ⊢; omega
theorem joinC_app (a b : List (Nat × Nat)) : joinC (a ++ b) = joinC a ++ joinC b := by simp [joinC]

/-- What is to do, in memory. -/
structure Td (W : World) (B : Nat) (z : Zs) (v : Value) (todo : List (Nat × Nat)) : Prop where
  row : W.ownsRow B 34 2 v todo.length (joinC todo)
  far : ∀ k, v.ownBlock = some k → ¬ z.All k

theorem Td.went {l : List Tm} {W W' : World} {B : Nat} {z z' : Zs} {v : Value} {todo : List (Nat × Nat)} (h : Td W B z v todo) (g : Went l W W' z z') : Td W' B z' v todo := by
  refine ⟨ownsRow_blockC h.row (fun k hk => g.kept.block k (h.row.lt k hk).2 (fun e => h.far k hk (.inl e))), fun k hk hA => ?_⟩
  rcases g.grows.all hA with e | e
  · exact h.far k hk e
  · have := (h.row.lt k hk).2; omega
theorem Td.kept0 {W W' : World} {B : Nat} {z : Zs} {v : Value} {todo : List (Nat × Nat)} (h : Td W B z v todo) (K : Kept0 W W') : Td W' B z v todo :=
  ⟨h.row.kept K.grownBy (Decidable.em _), h.far⟩

/-- The last one of what is to do. -/
theorem Td.last {W : World} {B : Nat} {z : Zs} {v : Value} {rest : List (Nat × Nat)} {p : Nat × Nat} (h : Td W B z v (rest ++ [p])) :
    ∃ g cap, v = .slice (some ⟨g, 0, none⟩) (rest.length + 1) cap ∧ rest.length + 1 ≤ cap ∧ W.cell? ⟨g, rest.length * 2, none⟩ = some (.int .i64 (p.1 : Int)) ∧ W.cell? ⟨g, rest.length * 2 + 1, none⟩ = some (.int .i64 (p.2 : Int)) ∧ Td W B z (.slice (some ⟨g, 0, none⟩) rest.length cap) rest := by
  have hr := h.row
  rw [List.length_append, List.length_singleton, joinC_app] at hr
  obtain ⟨g, cap, hv⟩ := ownsRow_succ hr
  subst hv
  have hcap : rest.length + 1 ≤ cap := by
    rcases hr.2 with ⟨e, _⟩ | ⟨g', cap', cur, e, _, _, hnc, _⟩
    · cases e
    · cases e; exact hnc
  have c0 := hr.cellAt (rest.length * 2) (by omega)
  have c1 := hr.cellAt (rest.length * 2 + 1) (by omega)
  rw [List.getElem?_append_right (by rw [joinC_len]; omega), joinC_len] at c0 c1
  refine ⟨g, cap, rfl, hcap, by simpa [joinC] using c0, by simpa [joinC] using c1, ⟨ownsRow_pop (joinC_len rest) hr, fun k hk => h.far k (by simpa [Value.ownBlock] using hk)⟩⟩

theorem Chain.st {l : List Tm} {a b : Zs} (h : Chain l a b) : ∀ x ∈ a.st, x ∈ b.st := by
  induction h with
  | refl => exact fun x hx => hx
  | like n s bc bx v _ _ _ ih => exact fun x hx => List.mem_append_left _ (ih x hx)
  | join low high bc bm bo bl jv st2 v bv _ _ _ _ ih => exact fun x hx => List.mem_append_left _ (List.mem_append_left _ (ih x hx))
theorem Went.keep {l : List Tm} {w W W' : World} {z z' : Zs} (h : Went l w W z z') {S : Nat → Prop} (K : Kept S W W') (hS : ∀ k, S k → w.heap.size ≤ k) : Went l w W' z z' :=
  ⟨h.kept.into K (fun k hk => .inr (hS k hk)), h.grows, h.chain⟩

/-- One more is to do. -/
theorem Td.push {w W W' : World} {base : Nat} {l : List Tm} {z z' : Zs} {P td : List (Nat × Nat)} {pend : List Nat} {v v' : Value} {n m : Nat} (h : Td W w.heap.size z' v td) (U : Un W base l z' P (td ++ [(n, m)]) pend) (G : Went l w W z z') (O : Obj)
    (hown : W'.ownsRow w.heap.size 34 2 v' (td.length + 1) (joinC td ++ [.int .i64 (n : Int), .int .i64 (m : Int)])) (hgrow : (W.alloc O).grownBy W' v.ownBlock) (hloc : v'.ownBlock = v.ownBlock ∨ ∀ k, v'.ownBlock = some k → (W.alloc O).heap.size ≤ k) :
    Td W' w.heap.size z' v' (td ++ [(n, m)]) ∧ Un W' base l z' P (td ++ [(n, m)]) pend ∧ Went l w W' z z' := by
  have K : Kept (fun k => v.ownBlock = some k) W W' := Kept.grown ((Kept.refl _ W).alloc O) hgrow (fun _ e => e)
  refine ⟨⟨?_, fun k hk hA => ?_⟩, U.keep K (fun k hA e => h.far k e hA), G.keep K (fun k hk => (h.row.lt k hk).1)⟩
  · rw [joinC_snoc, List.length_append]
    exact hown
  · rcases hloc with e | e
    · exact h.far k (e ▸ hk) hA
    · have h1 := e k hk
      have h2 := U.cz.all_lt hA
      simp at h1
      omega

set_option maxHeartbeats 4000000 in
set_option maxRecDepth 100000 in
theorem unite_in (w : World) (base : Nat) (l : List Tm) (z : Zs) (P : List (Nat × Nat)) (a b : Nat) (h : Un w base l z P [(a, b)] []) :
    Calls Tryz.prog 19 #[.pointer (some ⟨z.pk, 0, none⟩), .agg #[.int .i64 (a : Int), .int .i64 (b : Int)]] w fun e w' => e = .returned (.tuple #[]) ∧ ∃ z' : Zs, Un w' base l z' P [] [] ∧ Went l w w' z z' := by
  have K1 : Kept0 w ((w.alloc (.cells #[.int .i64 (a : Int), .int .i64 (b : Int)] 34)).alloc (.cells #[.int .i64 (a : Int), .int .i64 (b : Int)] 34)) := Kept.alloc (Kept.alloc (Kept.refl _ w) _) _
  have hs1 : (w.alloc (.cells #[.int .i64 (a : Int), .int .i64 (b : Int)] 34)).heap.size = w.heap.size + 1 := by simp
  have T1 : Td ((w.alloc (.cells #[.int .i64 (a : Int), .int .i64 (b : Int)] 34)).alloc (.cells #[.int .i64 (a : Int), .int .i64 (b : Int)] 34)) w.heap.size z (.slice (some ⟨w.heap.size + 1, 0, none⟩) 1 1) [(a, b)] := by
    refine ⟨?_, fun k hk hA => ?_⟩
    · rw [← hs1]
      exact World.ownsRow_lit _ #[.int .i64 (a : Int), .int .i64 (b : Int)] 1 (by rw [hs1]; omega) (by decide) rfl
    · simp [Value.ownBlock] at hk
      have := h.cz.all_lt hA
      omega
  have hlen := h.cz.len
  go_enter Tryz.func19, Tryz.ntmps19
  go_wp2_with fail
  generalize (w.alloc (.cells #[.int .i64 (a : Int), .int .i64 (b : Int)] 34)).alloc (.cells #[.int .i64 (a : Int), .int .i64 (b : Int)] 34) = w1 at *
  have U1 := h.kept0 K1
  have W1 : Went l w w1 z z := Went.refl l z K1
  go_loopg [4] ((l.length - z.t.length) * (4 * l.length + 1) + 1) (fun k v W => ∃ (z' : Zs) (todo : List (Nat × Nat)), Hid (k = (l.length - z'.t.length) * (4 * l.length + 1) + todo.length) ∧ Td W w.heap.size z' v todo ∧ Un W base l z' P todo [] ∧ Went l w W z z')
  case atStart => exact ⟨z, [(a, b)], rfl, T1, U1, W1⟩
  case round =>
    clear T1 U1 W1 K1
    obtain ⟨z', todo, hk, T, U, G⟩ := hrel
    rcases List.eq_nil_or_concat todo with rfl | ⟨rest, p, rfl⟩
    · obtain ⟨va, vc, hv⟩ := row_form' T.row
      subst hv
      go_wp2_with fail
      go_end0
      exact ⟨rfl, z', U, G⟩
    · rw [List.concat_eq_append] at hk T U
      obtain ⟨g, cap, hv, hcap, c0, c1, T2⟩ := T.last
      subst hv
      have hpk : z'.pk = z.pk := G.grows.pk
      have hin := U.inv.inr p (by simp)
      have htd := U.td
      obtain ⟨b1, b2⟩ := U.bound
      simp only [List.length_append, List.length_cons, List.length_nil] at htd
      have dk : decide ((0 : Int) < (rest.length : Int) + 1) = true := decide_eq_true (by omega)
      have K2 : Kept0 wr (wr.alloc (.cells #[.int .i64 (p.1 : Int), .int .i64 (p.2 : Int)] 34)) := Kept.alloc (Kept.refl _ wr) _
      have R2 := made_row wr #[.int .i64 (p.1 : Int), .int .i64 (p.2 : Int)] 34
      go_wp2_with fail
      clear c0 c1 T
      have T3 := T2.kept0 K2
      have U3 := U.kept0 K2
      have G3 := G.trans (Went.refl l z' K2)
      clear T2 U G
      generalize wr.alloc (.cells #[.int .i64 (p.1 : Int), .int .i64 (p.2 : Int)] 34) = w3 at *
      generalize wr.heap.size = b6 at *
      have x0 : w3.cell? ⟨b6, 0, none⟩ = some (.int .i64 (p.1 : Int)) := R2.cell (i := 0) (by simp)
      have x1 : w3.cell? ⟨b6, 1, none⟩ = some (.int .i64 (p.2 : Int)) := R2.cell (i := 1) (by simp)
      have k0 := U3.cz.k0
      rw [hpk] at k0
      have LX := fun (m : Nat) (x : Nat) (hx : x < l.length) => (U3.cz.drewN m).least hx
      go_quiet ((go_at_call 38; exact Calls.quiet_of (LX _ _ (by first | exact hin.1 | exact hin.2))))
      have K4 : Kept0 w3 (w3.drewN nq) := (Kept.refl _ w3).drewN nq
      have T4 := T3.kept0 K4
      have U4 := U3.kept0 K4
      have G4 := G3.trans (Went.refl l z' K4)
      clear T3 U3 G3 LX x0 x1 k0 R2 K2 K4
      generalize w3.drewN nq = w4 at *
      by_cases hs : z'.g.lo p.1 = z'.g.lo p.2
      · have ds : ((z'.g.lo p.1 : Int) == (z'.g.lo p.2 : Int)) = true := by rw [hs]; simp
        have U5 : Un w4 base l z' P rest [] := by
          have hI : Cc.Inv l P z'.g.lo z'.us z'.kn (rest ++ [(p.1, p.2)]) [] := U4.inv
          exact ⟨U4.cz, hI.drop hs, U4.ms, U4.bs, by simp only [List.length_nil]; omega, U4.low⟩
        clear U4 hs
        go_wp2_with fail
        go_roundg ((l.length - z'.t.length) * (4 * l.length + 1) + rest.length)
        case measure => rw [hk.out]; simp
        case rel => exact ⟨z', rest, rfl, T4, U5, G4⟩
      · have ds : ((z'.g.lo p.1 : Int) == (z'.g.lo p.2 : Int)) = false := beq_eq_false_iff_ne.2 (by omega)
        by_cases hgt : z'.g.lo p.2 < z'.g.lo p.1
        · have dg : decide ((z'.g.lo p.2 : Int) < (z'.g.lo p.1 : Int)) = true := decide_eq_true (by omega)
          have JN := join_un w4 base l z' P rest p U4 p.2 p.1 _ _ (.inr rfl) rfl rfl hgt
          have hlh : z'.g.lo p.1 < l.length := by have := U4.inv.le p.1 hin.1; omega
          rw [hpk] at JN
          go_wp2_with (go_at_call 39; refine JN.mono ?_; rintro e w5 ⟨rfl, z5, U5, G5, ht5, huv5, hus5⟩; have k25 := U5.cz.k2; rw [G5.grows.pk, hpk] at k25; have uh5 := U5.cz.u hlh; obtain ⟨ua, uc, hua⟩ := UseIs.form (U5.cz.usesAt _ hlh); rw [hua] at uh5)
          have X5 : UseIs z5.st (.slice ua (z'.us (z'.g.lo p.1)).length uc) (z'.us (z'.g.lo p.1)) := by
            have := U5.cz.usesAt _ hlh
            rw [hua, hus5] at this
            exact this
          have T5 := T4.went G5
          have G6 := G4.trans G5
          have hmeas : Hid ((l.length - z5.t.length) * (4 * l.length + 1) + (4 * l.length + 1) = (l.length - z'.t.length) * (4 * l.length + 1)) := by
            have h1 := U5.tle
            have h2 : l.length - z'.t.length = (l.length - z5.t.length) + 1 := by omega
            show _ = _
            rw [h2, Nat.add_mul, Nat.one_mul]
          have hxl : (z'.us (z'.g.lo p.1)).length ≤ 4 * l.length := by
            have := U4.inv.ulen U4.cz.bd hlh (U4.inv.idem _ hin.1)
            exact this
          have hpk5 : z5.pk = z.pk := G5.grows.pk.trans hpk
          have htd5 := U5.td
          have hHk : Hid (_ = _) := hk.out
          clear JN k25 uh5 U4 T4 G4 G5 ds dg hs hgt hk hua huv5 hus5 htd dk hin hcap
          generalize z'.us (z'.g.lo p.1) = xs at *
          go_loopw [4, 60] (fun v t60 W => ∃ (j : Nat) (z6 : Zs) (td : List (Nat × Nat)), j ≤ xs.length ∧ t60 = .int .i64 (j : Int) ∧ Td W w.heap.size z6 v td ∧ Un W base l z6 P td (xs.drop j) ∧ Went l w W z z6 ∧ Hid (z6.t.length = z5.t.length) ∧ Hid (td.length = rest.length + j) ∧ UseIs z6.st (.slice ua xs.length uc) xs) (fun _ t60 _ => xs.length - (intOf t60).toNat)
          case atStart => exact ⟨0, z5, rest, by omega, rfl, T5, by simpa using U5, G6, rfl, rfl, X5⟩
          case round =>
            clear T5 U5 G6 X5
            obtain ⟨j, z6, td, hj, rfl, T6, U6, G6, ht6, hl6, X6⟩ := hrel
            obtain ⟨va, vc, hv⟩ := row_form' T6.row
            subst hv
            by_cases hj2 : j < xs.length
            · have dj : decide ((j : Int) < (xs.length : Int)) = true := decide_eq_true (by omega)
              have hxj : xs[j]? = some xs[j] := List.getElem?_eq_getElem hj2
              obtain ⟨bb, off, cap6, hv6, _, hc6⟩ := X6.cell U6.cz.sat hxj
              injection hv6 with e1 _ e3
              subst e1 e3
              have cj := hc6 j _ hxj
              clear hc6
              have hpk6 : z6.pk = z.pk := G6.grows.pk
              rw [List.drop_eq_getElem_cons hj2] at U6
              have LK := like_un wr base l z6 P td xs[j] (xs.drop (j + 1)) U6
              rw [hpk6] at LK
              have b6' := U6.bound
              have htd6 := U6.td
              obtain ⟨i0, hi0, hz0, hz1, hz2⟩ := info_parts infoPair
              generalize hxn : xs[j] = xn at *
              go_wp2_with (first | (go_at_call 40; refine LK.mono ?_; rintro e w7 ⟨m7, z7, rfl, U7, G7, ht7, huv7, hus7⟩; have T7 := T6.went G7; have hB7 : w.heap.size ≤ w7.heap.size := Nat.le_trans G6.kept.size G7.kept.size) | (at_builtin; refine wpList_append_here rfl _ _ 109 rfl w.heap.size 34 i0 _ 2 16 Tryz.underlying109 hi0 hz0 hz1 hz2 rfl (by decide) _ td.length (joinC td) rfl (T7.row.alloc _) ⟨w7.heap.size, 0, none⟩ 1 1 [.int .i64 (xn : Int), .int .i64 (m7 : Int)] rfl rfl (cell_two_news w7 0 _ _ _) (by simp [Value.oneCell']) (by unfold maxLen; omega) (by omega) (by simp; omega) ?_; intro v8 w8 hown8 hgrow8 hloc8; obtain ⟨ga, gc, hg8⟩ := row_form' hown8; subst hg8))
              obtain ⟨T8, U8, G8⟩ := T7.push U7 (G6.trans G7) _ hown8 hgrow8 hloc8
              refine ⟨⟨j + 1, z7, td ++ [(xn, m7)], by omega, by simp, T8, U8, G8, ?_, ?_, X6.mono G7.chain.st⟩, by simp [intOf]; omega⟩
              · show z7.t.length = z5.t.length
                rw [ht7]; exact ht6.out
              · show (td ++ [(xn, m7)]).length = rest.length + (j + 1)
                have := hl6.out
                simp; omega
            · have dj : decide ((j : Int) < (xs.length : Int)) = false := decide_eq_false (by omega)
              obtain rfl : j = xs.length := by omega
              rw [List.drop_length] at U6
              go_wp2_with fail
              go_roundg ((l.length - z6.t.length) * (4 * l.length + 1) + td.length)
              case measure =>
                have h1 := hHk.out
                have h2 := hmeas.out
                have h3 := hl6.out
                have h4 := ht6.out
                rw [h1, h4, h3, ← h2]
                simp
                omega
              case rel => exact ⟨z6, td, rfl, T6, U6, G6⟩
        · have dg : decide ((z'.g.lo p.2 : Int) < (z'.g.lo p.1 : Int)) = false := decide_eq_false (by omega)
          have JN := join_un w4 base l z' P rest p U4 p.1 p.2 _ _ (.inl rfl) rfl rfl (by omega)
          have hlh : z'.g.lo p.2 < l.length := by have := U4.inv.le p.2 hin.2; omega
          rw [hpk] at JN
          go_wp2_with (go_at_call 39; refine JN.mono ?_; rintro e w5 ⟨rfl, z5, U5, G5, ht5, huv5, hus5⟩; have k25 := U5.cz.k2; rw [G5.grows.pk, hpk] at k25; have uh5 := U5.cz.u hlh; obtain ⟨ua, uc, hua⟩ := UseIs.form (U5.cz.usesAt _ hlh); rw [hua] at uh5)
          have X5 : UseIs z5.st (.slice ua (z'.us (z'.g.lo p.2)).length uc) (z'.us (z'.g.lo p.2)) := by
            have := U5.cz.usesAt _ hlh
            rw [hua, hus5] at this
            exact this
          have T5 := T4.went G5
          have G6 := G4.trans G5
          have hmeas : Hid ((l.length - z5.t.length) * (4 * l.length + 1) + (4 * l.length + 1) = (l.length - z'.t.length) * (4 * l.length + 1)) := by
            have h1 := U5.tle
            have h2 : l.length - z'.t.length = (l.length - z5.t.length) + 1 := by omega
            show _ = _
            rw [h2, Nat.add_mul, Nat.one_mul]
          have hxl : (z'.us (z'.g.lo p.2)).length ≤ 4 * l.length := by
            have := U4.inv.ulen U4.cz.bd hlh (U4.inv.idem _ hin.2)
            exact this
          have hpk5 : z5.pk = z.pk := G5.grows.pk.trans hpk
          have htd5 := U5.td
          have hHk : Hid (_ = _) := hk.out
          clear JN k25 uh5 U4 T4 G4 G5 ds dg hs hgt hk hua huv5 hus5 htd dk hin hcap
          generalize z'.us (z'.g.lo p.2) = xs at *
          go_loopw [4, 60] (fun v t60 W => ∃ (j : Nat) (z6 : Zs) (td : List (Nat × Nat)), j ≤ xs.length ∧ t60 = .int .i64 (j : Int) ∧ Td W w.heap.size z6 v td ∧ Un W base l z6 P td (xs.drop j) ∧ Went l w W z z6 ∧ Hid (z6.t.length = z5.t.length) ∧ Hid (td.length = rest.length + j) ∧ UseIs z6.st (.slice ua xs.length uc) xs) (fun _ t60 _ => xs.length - (intOf t60).toNat)
          case atStart => exact ⟨0, z5, rest, by omega, rfl, T5, by simpa using U5, G6, rfl, rfl, X5⟩
          case round =>
            clear T5 U5 G6 X5
            obtain ⟨j, z6, td, hj, rfl, T6, U6, G6, ht6, hl6, X6⟩ := hrel
            obtain ⟨va, vc, hv⟩ := row_form' T6.row
            subst hv
            by_cases hj2 : j < xs.length
            · have dj : decide ((j : Int) < (xs.length : Int)) = true := decide_eq_true (by omega)
              have hxj : xs[j]? = some xs[j] := List.getElem?_eq_getElem hj2
              obtain ⟨bb, off, cap6, hv6, _, hc6⟩ := X6.cell U6.cz.sat hxj
              injection hv6 with e1 _ e3
              subst e1 e3
              have cj := hc6 j _ hxj
              clear hc6
              have hpk6 : z6.pk = z.pk := G6.grows.pk
              rw [List.drop_eq_getElem_cons hj2] at U6
              have LK := like_un wr base l z6 P td xs[j] (xs.drop (j + 1)) U6
              rw [hpk6] at LK
              have b6' := U6.bound
              have htd6 := U6.td
              obtain ⟨i0, hi0, hz0, hz1, hz2⟩ := info_parts infoPair
              generalize hxn : xs[j] = xn at *
              go_wp2_with (first | (go_at_call 40; refine LK.mono ?_; rintro e w7 ⟨m7, z7, rfl, U7, G7, ht7, huv7, hus7⟩; have T7 := T6.went G7; have hB7 : w.heap.size ≤ w7.heap.size := Nat.le_trans G6.kept.size G7.kept.size) | (at_builtin; refine wpList_append_here rfl _ _ 109 rfl w.heap.size 34 i0 _ 2 16 Tryz.underlying109 hi0 hz0 hz1 hz2 rfl (by decide) _ td.length (joinC td) rfl (T7.row.alloc _) ⟨w7.heap.size, 0, none⟩ 1 1 [.int .i64 (xn : Int), .int .i64 (m7 : Int)] rfl rfl (cell_two_news w7 0 _ _ _) (by simp [Value.oneCell']) (by unfold maxLen; omega) (by omega) (by simp; omega) ?_; intro v8 w8 hown8 hgrow8 hloc8; obtain ⟨ga, gc, hg8⟩ := row_form' hown8; subst hg8))
              obtain ⟨T8, U8, G8⟩ := T7.push U7 (G6.trans G7) _ hown8 hgrow8 hloc8
              refine ⟨⟨j + 1, z7, td ++ [(xn, m7)], by omega, by simp, T8, U8, G8, ?_, ?_, X6.mono G7.chain.st⟩, by simp [intOf]; omega⟩
              · show z7.t.length = z5.t.length
                rw [ht7]; exact ht6.out
              · show (td ++ [(xn, m7)]).length = rest.length + (j + 1)
                have := hl6.out
                simp; omega
            · have dj : decide ((j : Int) < (xs.length : Int)) = false := decide_eq_false (by omega)
              obtain rfl : j = xs.length := by omega
              rw [List.drop_length] at U6
              go_wp2_with fail
              go_roundg ((l.length - z6.t.length) * (4 * l.length + 1) + td.length)
              case measure =>
                have h1 := hHk.out
                have h2 := hmeas.out
                have h3 := hl6.out
                have h4 := ht6.out
                rw [h1, h4, h3, ← h2]
                simp
                omega
              case rel => exact ⟨z6, td, rfl, T6, U6, G6⟩

end Go.Proofs.YtlehlgipbhfioaaGreat

namespace Go.Proofs.YtlehlgipbhfioaaGreat
open Go.RowKit Go.Maps

/-- What a run keeps. -/
structure Rn (s : Sv) : Prop where
  fit : Fit s
  hp : ∀ v ∈ s.hp, v ≤ s.n
  one : 1 ≤ s.hp.length
  all : s.starts.length + s.hp.length ≤ 4000

theorem tryN_keeps : ∀ (f : Nat) (s : Sv) (b : Bool) (s' : Sv), Rn s → Sv.tryN f s = some (b, s') → Rn s' ∧ s'.n = s.n ∧ s'.cl.length = s.cl.length ∧ s'.fin = s.fin ∧ (b = true → s'.hp.length < s.hp.length) ∧ s'.hp.length ≤ s.hp.length
  | 0, _, _, _, _, h => by cases h
  | f + 1, s, b, s', hR, h => by
    obtain ⟨p1, p2, p3, p4, p5, p6, p7⟩ := pop_facts hR.fit hR.hp hR.one
    have hcl : s.pop.2.cl.length = s.cl.length := by unfold Sv.pop; split <;> rfl
    have hfi : s.pop.2.fin = s.fin := by unfold Sv.pop; split <;> rfl
    have hall := hR.all
    rw [tryN_R] at h
    generalize s.pop.1 = o at *
    generalize s.pop.2 = s1 at *
    cases o with
    | none =>
      simp only [tryR, Option.some.injEq, Prod.mk.injEq] at h
      obtain ⟨rfl, rfl⟩ := h
      have := p6 rfl
      exact ⟨⟨p1, by rw [p2]; exact p4, p7, by rw [p3]; omega⟩, p2, hcl, hfi, fun e => (by cases e), by omega⟩
    | some v =>
      obtain ⟨hv, hl⟩ := p5 v rfl
      simp only [tryR] at h
      split at h
      · next h0 =>
        simp only [Option.some.injEq, Prod.mk.injEq] at h
        obtain ⟨rfl, rfl⟩ := h
        have hF2 : Fit { s1 with starts := s1.starts ++ [s1.trail.length] } := ⟨p1.lv, p1.lw, p1.sgn, p1.tri, p1.on, p1.nd, p1.cls, p1.wnd, p1.wat⟩
        refine ⟨⟨hF2.assign (by show 2 * v + 1 < 2 * s1.n + 2; omega) h0, by show ∀ v ∈ s1.hp, v ≤ s1.n; rw [p2]; exact p4, p7, ?_⟩, p2, hcl, hfi, fun _ => by show s1.hp.length < _; omega, by show s1.hp.length ≤ _; omega⟩
        show (s1.starts ++ [s1.trail.length]).length + s1.hp.length ≤ 4000
        rw [p3]
        simp; omega
      · have hR1 : Rn s1 := ⟨p1, by rw [p2]; exact p4, p7, by rw [p3]; omega⟩
        obtain ⟨q1, q2, q3, q4, q5, q6⟩ := tryN_keeps f s1 b s' hR1 h
        exact ⟨q1, q2.trans p2, q3.trans hcl, q4.trans hfi, fun e => by have := q5 e; omega, by omega⟩

theorem follow_sim : ∀ (f : Nat) (s : Sv) (o : Option Nat) (s' : Sv), Sv.follow f s = some (o, s') → s'.n = s.n ∧ s'.starts = s.starts ∧ s'.hp = s.hp ∧ s'.fin = s.fin ∧ s'.cl.length = s.cl.length
  | 0, _, _, _, h => by cases h
  | f + 1, s, o, s', h => by
    rw [Sv.follow] at h
    cases hl : s.trail[s.seen]? with
    | none => rw [hl] at h; cases h; exact ⟨rfl, rfl, rfl, rfl, rfl⟩
    | some l =>
      rw [hl] at h
      obtain ⟨h1, _, h3, h4, h5, h6⟩ := Sim.visit { s with seen := s.seen + 1 } (opp l)
      cases hv : Sv.visit { s with seen := s.seen + 1 } (opp l) with
      | mk vo s2 =>
        rw [hv] at h1 h3 h4 h5 h6
        simp only [hv] at h
        cases vo with
        | some c => cases h; exact ⟨h1, h3, h4, h5, h6⟩
        | none =>
          obtain ⟨q1, q2, q3, q4, q5⟩ := follow_sim f s2 o s' h
          exact ⟨q1.trans h1, q2.trans h3, q3.trans h4, q4.trans h5, q5.trans h6⟩

def nilV : Value → Nat
  | .pointer none => 1
  | _ => 0

/-- Between two rounds of run. -/
def Run1 (w W : World) (A : Ad) (s : Sv) (b : Bool) (s' : Sv) : Prop :=
  ∃ (A1 : Ad) (s1 : Sv) (f : Nat), Step w W A A1 s1 ∧ Rn s1 ∧ Sv.run f s1 = some (b, s') ∧ s1.n = s.n ∧ s1.cl.length = s.cl.length ∧ ∀ r, r ≠ .trail → r ≠ .starts → (∀ l, r ≠ .win l) → A1.blk r = A.blk r

theorem ocell {W : World} {A : Ad} {s : Sv} (h : Mem W A s) {ob : Nat} (hob : A.blk .order = some ob) : slLen ((W.cell? ⟨ob, 1, none⟩).getD undef) = s.hp.length := by
  rw [h.cell hob (i := 1) rfl]
  simp only [Option.getD_some, Ad.slv]
  obtain ⟨hb', hhb'⟩ := h.fix .heap rfl
  rw [hhb']
  rfl

set_option maxRecDepth 100000 in
set_option maxHeartbeats 1000000 in
theorem run_in (w : World) (A : Ad) (s : Sv) (h : Mem w A s) (hR : Rn s) (sb : Nat) (hsb : A.blk .search = some sb) (hcl : s.cl.length ≤ 4398046511100) (f : Nat) (b : Bool) (s' : Sv) (hf : Sv.run f s = some (b, s')) :
    Calls Tryz.prog 128 #[.pointer (some ⟨sb, 0, none⟩), .int .i64 64] w fun e w' => e = .returned (.int .i8 (if b then 1 else -1)) ∧ ∃ A', Step w w' A A' s' ∧ ∀ r, r ≠ .trail → r ≠ .starts → (∀ l, r ≠ .win l) → A'.blk r = A.blk r := by
  have V0 : Run1 w w A s b s' := ⟨A, s, f, ⟨h, Kept.refl _ _, fun _ hk => Or.inl hk⟩, hR, hf, rfl, rfl, fun _ _ _ _ => rfl⟩
  obtain ⟨ob, hob⟩ := h.fix .order rfl
  have hsm := h.small
  clear h hR hf
  go_enter Tryz.func128, Tryz.ntmps128
  go_wp2_with fail
  go_loopw [1] (fun t1 W => t1 = .int .i64 64 ∧ Run1 w W A s b s') (fun _ W => 2 * slLen ((W.cell? ⟨ob, 1, none⟩).getD undef) + nilV ((W.cell? ⟨sb, 13, none⟩).getD undef))
  case atStart => exact ⟨rfl, V0⟩
  case round =>
    obtain ⟨rfl, A1, s1, f1, S1, R1, hf1, hn1, hcl1, hA1⟩ := hrel
    have hsb1 : A1.blk .search = some sb := (hA1 .search (by decide) (by decide) (by intro l e; cases e)).trans hsb
    have hob1 : A1.blk .order = some ob := (hA1 .order (by decide) (by decide) (by intro l e; cases e)).trans hob
    have c13 := S1.mem.cell hsb1 (i := 13) rfl
    cases f1 with
    | zero => cases hf1
    | succ f1 =>
    rw [Sv.run] at hf1
    cases hfin : s1.fin with
    | true =>
      obtain ⟨p, hp⟩ := S1.mem.endk
      simp only [hfin, if_true, hp] at c13
      simp only [hfin, if_true, Option.some.injEq, Prod.mk.injEq] at hf1
      obtain ⟨rfl, rfl⟩ := hf1
      have HS1 : Hid _ := S1
      have HA1 : Hid _ := hA1
      clear S1 R1 hA1 V0
      go_wp2_with fail
      go_ret
      exact ⟨rfl, A1, HS1.out, HA1.out⟩
    | false =>
      simp only [hfin, Bool.false_eq_true, if_false] at c13 hf1
      cases hfo : Sv.follow (2 * s1.n + 3) s1 with
      | none => rw [hfo] at hf1; cases hf1
      | some os =>
      obtain ⟨o, s2⟩ := os
      rw [hfo] at hf1
      have FO := follow_in wr A1 s1 S1.mem R1.fit sb hsb1 (by rw [hcl1]; exact hcl) _ o s2 hfo
      obtain ⟨g1, g2, g3, g4, g5⟩ := follow_sim _ _ _ _ hfo
      have hms : 2 * slLen ((wr.cell? ⟨ob, 1, none⟩).getD undef) + nilV ((wr.cell? ⟨sb, 13, none⟩).getD undef) = 2 * s1.hp.length + 1 := by
        rw [ocell S1.mem hob1, c13]; rfl
      have HMS : Hid _ := hms
      have HS1 : Hid _ := S1
      have HA1 : Hid _ := hA1
      have HR1 : Hid _ := R1
      have hcls := S1.mem.cls
      have HCL : Hid _ := hcls
      clear S1 hA1 V0 hfo R1 hms hcls
      cases o with
      | some c =>
        simp only at hf1
        by_cases hst : s2.starts.length = 0
        · rw [if_pos hst] at hf1
          have HF1 : Hid _ := hf1
          have hrn2 : Hid (∀ F : Fit s2, Rn { s2 with fin := true }) := fun F => ⟨⟨F.lv, F.lw, F.sgn, F.tri, F.on, F.nd, F.cls, F.wnd, F.wat⟩, by show ∀ v ∈ s2.hp, v ≤ s2.n; rw [g3, g1]; exact HR1.out.hp, by show 1 ≤ s2.hp.length; rw [g3]; exact HR1.out.one, by show s2.starts.length + s2.hp.length ≤ 4000; rw [g2, g3]; exact HR1.out.all⟩
          clear hf1
          go_wp2_with (first | (go_at_call 163; refine FO.mono ?_; rintro e w3 ⟨rfl, hcc, A3, S3, F3, hA3⟩; refine Aside.out ?_))
          delta Aside
          obtain ⟨cb, hcb⟩ := (HCL.out c).2 (hcc c rfl)
          have hopt : A1.opt (some c) = .pointer (some ⟨cb, 0, none⟩) := by simp [Ad.opt, Ad.ptr, hcb]
          rw [hopt]
          have hsb3 : A3.blk .search = some sb := (hA3 .search (by decide) (by intro l e; cases e)).1.trans hsb1
          have LE := level_in w3 A3 s2 S3.mem sb hsb3
          have FI := finish_in w3 A3 s2 S3.mem sb hsb3 (.pointer (some ⟨cb, 0, none⟩))
          rw [hst] at LE
          have LE : Calls Tryz.prog 164 #[.pointer (some ⟨sb, 0, none⟩)] w3 fun e w' => e = .returned (.int .i64 0) ∧ w3 = w' := LE
          have HS3 : Hid _ := S3
          have HF3 : Hid _ := F3
          have HA3 : Hid _ := hA3
          clear S3 F3 hA3 hcc FO
          apply_assumption
          go_wp2_with (first | (go_at_call 164; refine LE.mono ?_; rintro e w4 ⟨rfl, rfl⟩) | (go_at_call 160; refine FI.mono ?_; rintro e w4 ⟨rfl, A4, S4, hA4⟩))
          have hob4 : A4.blk .order = some ob := (hA4 .order).1.trans ((HA3.out .order (by decide) (by intro l e; cases e)).1.trans hob1)
          have hsb4 : A4.blk .search = some sb := (hA4 .search).1.trans hsb3
          refine ⟨⟨rfl, A4, _, f1, (HS1.out.trans HS3.out).trans S4, hrn2.out HF3.out, HF1.out, g1.trans hn1, g5.trans hcl1, fun r h1 h2 h3 => (hA4 r).1.trans ((HA3.out r h1 h3).1.trans (HA1.out r h1 h2 h3))⟩, ?_⟩
          obtain ⟨p, hp⟩ := S4.mem.endk
          rw [HMS.out, ocell S4.mem hob4, S4.mem.cell hsb4 (i := 13) rfl]
          simp only [if_true, hp, Option.getD_some, nilV, g3]
          omega
        · rw [if_neg hst] at hf1
          cases hf1
      | none =>
        simp only at hf1
        have hR2 : Hid (∀ F : Fit s2, Rn s2) := fun F => ⟨F, by rw [g3, g1]; exact HR1.out.hp, by rw [g3]; exact HR1.out.one, by rw [g2, g3]; exact HR1.out.all⟩
        cases htr : Sv.tryN (s2.hp.length + 1) s2 with
        | none => rw [htr] at hf1; cases hf1
        | some bs =>
        obtain ⟨tb, s3⟩ := bs
        rw [htr] at hf1
        have HTR : Hid _ := htr
        have HF1 : Hid _ := hf1
        clear hf1 htr
        go_wp2_with (first | (go_at_call 163; refine FO.mono ?_; rintro e w3 ⟨rfl, hcc, A3, S3, F3, hA3⟩; refine Aside.out ?_))
        delta Aside
        have hsb3 : A3.blk .search = some sb := (hA3 .search (by decide) (by intro l e; cases e)).1.trans hsb1
        have R2 := hR2.out F3
        have TR := try_in w3 A3 s2 S3.mem F3 sb hsb3 R2.hp R2.one (by have := R2.all; omega) (by have := R2.all; omega) _ tb s3 HTR.out
        obtain ⟨k1, k2, k3, k4, k5, k6⟩ := tryN_keeps _ _ _ _ R2 HTR.out
        have HS3 : Hid _ := S3
        have HA3 : Hid _ := hA3
        have HK1 : Hid _ := k1
        clear S3 F3 hA3 hcc FO R2 k1
        have hopt : A1.opt none = .pointer none := rfl
        rw [hopt]
        clear hopt
        cases tb with
        | false =>
          have hf2 := HF1.out
          simp only [Option.some.injEq, Prod.mk.injEq] at hf2
          obtain ⟨rfl, rfl⟩ := hf2
          apply_assumption
          go_wp2_with (first | (go_at_call 168; refine TR.mono ?_; rintro e w4 ⟨rfl, A4, S4, hA4⟩))
          go_ret
          exact ⟨rfl, A4, (HS1.out.trans HS3.out).trans S4, fun r h1 h2 h3 => (hA4 r h1 h2).1.trans ((HA3.out r h1 h3).1.trans (HA1.out r h1 h2 h3))⟩
        | true =>
          apply_assumption
          go_wp2_with (first | (go_at_call 168; refine TR.mono ?_; rintro e w4 ⟨rfl, A4, S4, hA4⟩))
          have hob4 : A4.blk .order = some ob := (hA4 .order (by decide) (by decide)).1.trans ((HA3.out .order (by decide) (by intro l e; cases e)).1.trans hob1)
          have hsb4 : A4.blk .search = some sb := (hA4 .search (by decide) (by decide)).1.trans hsb3
          refine ⟨⟨rfl, A4, s3, f1, (HS1.out.trans HS3.out).trans S4, HK1.out, HF1.out, k2.trans (g1.trans hn1), k3.trans (g5.trans hcl1), fun r h1 h2 h3 => (hA4 r h1 h2).1.trans ((HA3.out r h1 h3).1.trans (HA1.out r h1 h2 h3))⟩, ?_⟩
          have hlt := k5 (by trivial)
          rw [HMS.out, ocell S4.mem hob4, S4.mem.cell hsb4 (i := 13) rfl]
          simp only [k4, g4, hfin, Bool.false_eq_true, if_false, Option.getD_some, nilV]
          rw [g3] at hlt
          omega


set_option maxRecDepth 100000 in
set_option maxHeartbeats 400000 in
theorem length_in (w : World) : Calls Tryz.prog 129 #[.int .i64 1] w fun e w' => e = .returned (.int .i64 1) ∧ w = w' := by
  go_enter Tryz.func129, Tryz.ntmps129
  go_wp2_with fail
  go_loopw [3] (fun t3 W => ∃ k : Int, (k = 1 ∨ k = 2) ∧ t3 = .int .i64 k ∧ W = w) (fun t3 _ => 2 - (intOf t3).toNat)
  case atStart => exact ⟨1, Or.inl rfl, rfl, rfl⟩
  case round =>
    obtain ⟨k, hk, rfl, rfl⟩ := hrel
    rcases hk with rfl | rfl
    · go_wp2_with fail
      exact ⟨⟨2, Or.inr rfl, by simp⟩, by simp [intOf]⟩
    · obtain ⟨w0, hw0⟩ : ∃ w0, w0 = wr := ⟨_, rfl⟩
      subst hw0
      go_wp2_with fail
      go_loopw [0, 3] (fun t0 t3 W => t0 = .int .i64 1 ∧ t3 = .int .i64 2 ∧ W = w0) (fun _ _ _ => 0)
      case atStart => exact ⟨rfl, rfl, rfl⟩
      case round =>
        obtain ⟨rfl, rfl, rfl⟩ := hrel
        go_wp2_with fail
        go_ret
        exact ⟨rfl, rfl⟩

set_option maxRecDepth 100000 in
set_option maxHeartbeats 400000 in
theorem solve_in (w : World) (A : Ad) (s : Sv) (h : Mem w A s) (hR : Rn s) (sb : Nat) (hsb : A.blk .search = some sb) (hcl : s.cl.length ≤ 4398046511100) (f : Nat) (b : Bool) (s' : Sv) (hf : Sv.run f s = some (b, s')) :
    Calls Tryz.prog 86 #[.pointer (some ⟨sb, 0, none⟩)] w fun e w' => e = .returned (.bool b) ∧ ∃ A', Step w w' A A' s' ∧ ∀ r, r ≠ .trail → r ≠ .starts → (∀ l, r ≠ .win l) → A'.blk r = A.blk r := by
  have RU := run_in w A s h hR sb hsb hcl f b s' hf
  have LN := length_in w
  clear h hR hf
  go_enter Tryz.func86, Tryz.ntmps86
  go_wp2_with fail
  go_loopw [3] (fun t3 W => t3 = .int .i64 1 ∧ W = w) (fun _ _ => 0)
  case atStart => exact ⟨rfl, rfl⟩
  case round =>
    obtain ⟨rfl, rfl⟩ := hrel
    cases b with
    | true =>
      go_wp2_with (first | (go_at_call 128; refine RU.mono ?_; rintro e w3 ⟨rfl, A3, S3, hA3⟩) | (go_at_call 129; refine LN.mono ?_; rintro e w3 ⟨rfl, rfl⟩))
      go_ret
      exact ⟨rfl, A3, S3, hA3⟩
    | false =>
      go_wp2_with (first | (go_at_call 128; refine RU.mono ?_; rintro e w3 ⟨rfl, A3, S3, hA3⟩) | (go_at_call 129; refine LN.mono ?_; rintro e w3 ⟨rfl, rfl⟩))
      go_ret
      exact ⟨rfl, A3, S3, hA3⟩

end Go.Proofs.YtlehlgipbhfioaaGreat

namespace Go.Proofs.YtlehlgipbhfioaaGreat
open Go.RowKit Go.Maps

set_option maxHeartbeats 2000000 in
set_option maxRecDepth 100000 in
theorem newC_in (w : World) (base : Nat) (l : List Tm) (tb : Nat) (av : Nat → Value) (st : List (Nat × Obj)) (hR : w.rowIs tb 102 (l.length * 2) (termC l av)) (hS : Sat st w) (hA : ∀ (i : Nat) (t : Tm), l[i]? = some t → UseIs st (av i) t.args) (hb : Cc.Bd l) (hok : ∀ t ∈ l, t.ok) (hl : l.length ≤ 150)
    (hbase : base ≤ w.heap.size) (htb : base ≤ tb) (hst : ∀ x ∈ st, base ≤ x.1) :
    Calls Tryz.prog 15 #[.slice (some ⟨tb, 0, none⟩) l.length l.length] w fun e w' => ∃ z : Zs, e = .returned (.pointer (some ⟨z.pk, 0, none⟩)) ∧ Un w' base l z [] [] [] ∧ Kept0 w w' ∧ w.heap.size ≤ z.pk ∧ (∀ k, z.All k → base ≤ k) := by
  have hsl : ∀ x ∈ st, x.1 < w.heap.size := fun x hx => (Array.getElem?_eq_some_iff.1 (hS x hx)).1
  have NEW := New_st w l.length (by omega)
  have FIR : ∀ w1, Below w.heap.size w w1 → Calls Tryz.prog 33 #[.slice (some ⟨tb, 0, none⟩) l.length l.length] w1 fun e w' => ∃ ub uv st2, e = .returned (.slice (some ⟨ub, 0, none⟩) l.length l.length) ∧ Fu w1 w' ub l uv st2 := fun w1 B1 =>
    first_in w1 l tb av st (hR.of_block (B1.block _ hR.lt)) (fun x hx => (B1.block _ (hsl x hx)).trans (hS x hx)) hA hb hl
  have hmm := @run_makeMap Tryz.prog
  go_enter Tryz.func15, Tryz.ntmps15
  go_wp2_with (first | (go_at_call 32; refine NEW.mono ?_; rintro e w1 ⟨rfl, S1, B1⟩; have FI := FIR w1 B1) | (go_at_call 33; refine FI.mono ?_; rintro e w2 ⟨ub, uv, st2, rfl, F⟩))
  have C0 := Cz.made hR hS hA hb hok hl hbase htb hst hsl S1 B1 F
  have K0 : Kept0 w ((w2.alloc (.map #[] 0)).alloc (.cells #[.pointer (some ⟨w.heap.size + 1, 0, none⟩), .slice (some ⟨tb, 0, none⟩) l.length l.length, .slice (some ⟨ub, 0, none⟩) l.length l.length, .map (some w2.heap.size), .slice none 0 0] 71)) := Kept.alloc (Kept.alloc ((below_kept0 B1).trans F.kept) _) _
  have hs2 : w.heap.size ≤ w2.heap.size := ((below_kept0 B1).trans F.kept).size
  clear NEW FIR FI hmm S1 B1 F
  generalize (w2.alloc (.map #[] 0)).alloc (.cells #[.pointer (some ⟨w.heap.size + 1, 0, none⟩), .slice (some ⟨tb, 0, none⟩) l.length l.length, .slice (some ⟨ub, 0, none⟩) l.length l.length, .map (some w2.heap.size), .slice none 0 0] 71) = w4 at *
  generalize w2.heap.size = mb at *
  go_loopw [16] (fun t16 W => ∃ (k : Nat) (kn : Tm → Option Nat), k ≤ l.length ∧ t16 = .int .i64 (k : Int) ∧ Cz W base l (z0 l (mb + 1) (w.heap.size + 1) w.heap.size tb ub mb av uv (st ++ st2) kn k) ∧ Hid (Kn l k kn) ∧ Kept0 w W) (fun t16 _ => l.length - (intOf t16).toNat)
  case atStart => exact ⟨0, fun _ => none, by omega, rfl, C0, fun s m => by simp, K0⟩
  case round =>
    clear C0 K0
    obtain ⟨k, kn, hk, rfl, C, hkn, K⟩ := hrel
    by_cases hk2 : k < l.length
    · have dk : decide ((k : Int) < (l.length : Int)) = true := decide_eq_true (by omega)
      have ht : l[k]? = some l[k] := List.getElem?_eq_getElem hk2
      generalize hlk : l[k] = t at ht
      clear hlk
      have hsk : Sk (Cc.sg Uf.g0.lo t) := sg_sk hb (lo := Uf.g0.lo) (fun i _ => Nat.le_refl _) (by omega) ht (hok t (List.mem_of_getElem? ht))
      have c3 : wr.cell? ⟨mb + 1, 3, none⟩ = some (.map (some mb)) := C.k3
      have stay : ∀ W, Kept0 wr W → W.cell? ⟨mb + 1, 3, none⟩ = some (.map (some mb)) := fun W KW => (C.kept0 KW).k3
      have hV : sigV (Cc.sg Uf.g0.lo t) = .agg #[.string (Cc.sg Uf.g0.lo t).name, .int .i64 ((Cc.sg Uf.g0.lo t).arg 0 : Int), .int .i64 ((Cc.sg Uf.g0.lo t).arg 1 : Int), .int .i64 ((Cc.sg Uf.g0.lo t).arg 2 : Int), .int .i64 ((Cc.sg Uf.g0.lo t).arg 3 : Int)] := rfl
      have SG : ∀ W, Kept0 wr W → Calls Tryz.prog 34 #[.pointer (some ⟨mb + 1, 0, none⟩), .int .i64 (k : Int)] W fun e w' => e = .returned (.agg #[.string (Cc.sg Uf.g0.lo t).name, .int .i64 ((Cc.sg Uf.g0.lo t).arg 0 : Int), .int .i64 ((Cc.sg Uf.g0.lo t).arg 1 : Int), .int .i64 ((Cc.sg Uf.g0.lo t).arg 2 : Int), .int .i64 ((Cc.sg Uf.g0.lo t).arg 3 : Int)]) ∧ Kept0 W w' := fun W KW => sig_in W base l _ (C.kept0 KW) k t ht
      have STO : ∀ W, Kept0 wr W → ∃ w', (Instr.mapUpdate 68 (.map (some mb)) (.agg #[.string (Cc.sg Uf.g0.lo t).name, .int .i64 ((Cc.sg Uf.g0.lo t).arg 0 : Int), .int .i64 ((Cc.sg Uf.g0.lo t).arg 1 : Int), .int .i64 ((Cc.sg Uf.g0.lo t).arg 2 : Int), .int .i64 ((Cc.sg Uf.g0.lo t).arg 3 : Int)]) (.int .i64 (k : Int))).run Tryz.prog W = .ok () w' ∧ Cz w' base l (z0 l (mb + 1) (w.heap.size + 1) w.heap.size tb ub mb av uv (st ++ st2) (fun u => if u = Cc.sg Uf.g0.lo t then some k else kn u) (k + 1)) ∧ Kept1 mb W w' := fun W KW => (C.kept0 KW).store hsk (n := k) (by omega) (show k < 1000000 by omega)
      have HH : Hid (_ ∧ _ ∧ _) := ⟨ht, C, K⟩
      clear ht C K hR hS hA hst hsl hV hsk
      generalize hsE : Cc.sg Uf.g0.lo t = s at *
      have HSE : Hid (Cc.sg Uf.g0.lo t = s) := hsE
      clear hsE
      go_wp2_with fail
      go_region_held3 (fun W => W.cell? ⟨mb + 1, 3, none⟩ = some (.map (some mb))) (first | assumption | exact stay _ (by first | assumption | exact (Kept.refl _ _).drew)) (first | (go_at_call 34; refine (SG _ (by first | assumption | exact (Kept.refl _ _).drew)).mono ?_; rintro e w5 ⟨rfl, K5⟩; have KS : Kept0 wr w5 := Kept.trans (by first | assumption | exact (Kept.refl _ _).drew) K5; obtain ⟨w6, hr6, C6, K6⟩ := STO w5 KS; have s6 : w6.cell? ⟨mb + 1, 3, none⟩ = some (.map (some mb)) := C6.k3))
      all_goals
        clear SG STO stay hr6 s6
        go_wp2_with fail
        obtain ⟨ht, _, K⟩ := HH.out
        have hkn' := Kn.step hkn.out hb ht
        rw [← g0_lo, HSE.out] at hkn'
        exact ⟨⟨k + 1, _, hk2, by simp, C6, hkn', (K.trans KS).into K6 (fun i hi => .inr (by omega))⟩, by simp [intOf]; omega⟩
    · have dk : decide ((k : Int) < (l.length : Int)) = false := decide_eq_false (by omega)
      obtain rfl : k = l.length := by omega
      go_wp2_with fail
      go_ret
      refine ⟨_, rfl, ⟨C, ?_, by simp [z0], by simp [z0], by simp, Nat.le_trans hbase K.size⟩, K, by show w.heap.size ≤ mb + 1; omega, fun k hk => C.all_ge hk⟩
      have hI : Cc.Inv l [] id (fun i => Cc.usf (Cc.evs l 0) i) kn [] [] := Cc.Inv.start hb (fun r _ n => Cc.usf_uc l r n) (fun s m => by
        rw [hkn.out s m]
        exact ⟨fun x => x.2, fun x => ⟨by obtain ⟨t, ht, _⟩ := x; exact (List.getElem?_eq_some_iff.1 ht).1, x⟩⟩)
      exact hI

end Go.Proofs.YtlehlgipbhfioaaGreat

namespace Go.Proofs.YtlehlgipbhfioaaGreat
open Go.RowKit Go.Maps

/-- All of a Closure. -/
structure Ks where
  pc : Nat
  tv : Value
  told : List Nat
  z : Zs
def Ks.Foot (k : Ks) (i : Nat) : Prop := i = k.pc ∨ k.tv.ownBlock = some i ∨ k.z.Foot i
def Ks.All (k : Ks) (i : Nat) : Prop := i = k.pc ∨ k.tv.ownBlock = some i ∨ k.z.All i
theorem Ks.Foot.all {k : Ks} {i : Nat} (h : k.Foot i) : k.All i := h.imp id (fun h => h.imp id .inl)
def cloC (pk : Nat) (tv : Value) (j : Nat) : Value := if j = 0 then .pointer (some ⟨pk, 0, none⟩) else tv

structure Cl (w : World) (base : Nat) (l : List Tm) (c : Ks) (P : List (Nat × Nat)) : Prop where
  clo : w.rowIs c.pc 62 2 (cloC c.z.pk c.tv)
  told : w.ownsRow base 3 1 c.tv c.told.length (natC c.told)
  un : Un w base l c.z P [] []
  farP : ¬ c.z.All c.pc
  farT : ∀ k, c.tv.ownBlock = some k → ¬ c.z.All k
  bp : base ≤ c.pc
  num : c.told.length = P.length

theorem Cl.all_lt {w : World} {base : Nat} {l : List Tm} {c : Ks} {P : List (Nat × Nat)} (h : Cl w base l c P) {k : Nat} (hk : c.All k) : k < w.heap.size := by
  rcases hk with e | e | e
  · rw [e]; exact h.clo.lt
  · exact (h.told.lt k e).2
  · exact h.un.cz.all_lt e
theorem Cl.all_ge {w : World} {base : Nat} {l : List Tm} {c : Ks} {P : List (Nat × Nat)} (h : Cl w base l c P) {k : Nat} (hk : c.All k) : base ≤ k := by
  rcases hk with e | e | e
  · rw [e]; exact h.bp
  · exact (h.told.lt k e).1
  · exact h.un.cz.all_ge e
theorem Cl.keep {w w' : World} {base : Nat} {l : List Tm} {c : Ks} {P : List (Nat × Nat)} (h : Cl w base l c P) {S : Nat → Prop} (K : Kept S w w') (hS : ∀ k, c.All k → ¬ S k) : Cl w' base l c P :=
  ⟨h.clo.of_block (K.block _ h.clo.lt (hS _ (.inl rfl))), ownsRow_blockC h.told (fun k hk => K.block k (h.told.lt k hk).2 (hS k (.inr (.inl hk)))), h.un.keep K (fun k hk => hS k (.inr (.inr hk))), h.farP, h.farT, h.bp, h.num⟩
theorem Cl.kept0 {w w' : World} {base : Nat} {l : List Tm} {c : Ks} {P : List (Nat × Nat)} (h : Cl w base l c P) (K : Kept0 w w') : Cl w' base l c P := h.keep K (fun _ _ e => e)
theorem Cl.c0 {w : World} {base : Nat} {l : List Tm} {c : Ks} {P : List (Nat × Nat)} (h : Cl w base l c P) : w.cell? ⟨c.pc, 0, none⟩ = some (.pointer (some ⟨c.z.pk, 0, none⟩)) := h.clo.cell (i := 0) (by omega)
theorem Cl.c1 {w : World} {base : Nat} {l : List Tm} {c : Ks} {P : List (Nat × Nat)} (h : Cl w base l c P) : w.cell? ⟨c.pc, 1, none⟩ = some c.tv := h.clo.cell (i := 1) (by omega)

set_option maxHeartbeats 1000000 in
theorem khas_in (w : World) (base : Nat) (l : List Tm) (c : Ks) (P : List (Nat × Nat)) (h : Cl w base l c P) (a : Int) :
    Calls Tryz.prog 18 #[.pointer (some ⟨c.pc, 0, none⟩), .int .i64 a] w fun e w' => e = .returned (.bool (inB l.length a)) ∧ w = w' := by
  have c0 := h.c0
  have k1 := h.un.cz.k1
  have hl := h.un.cz.len
  clear h
  go_enter Tryz.func18, Tryz.ntmps18
  go_wp2
  · go_ret
    exact ⟨ret_bool (inB_ge ‹_›), rfl⟩
  · go_ret
    exact ⟨ret_bool (inB_lt ‹_›), rfl⟩

set_option maxHeartbeats 1000000 in
theorem kSame_in (w : World) (base : Nat) (l : List Tm) (c : Ks) (P : List (Nat × Nat)) (h : Cl w base l c P) (a b : Int) :
    Calls Tryz.prog 11 #[.pointer (some ⟨c.pc, 0, none⟩), .int .i64 a, .int .i64 b] w fun e w' => e = .returned (.bool (sameB l.length c.z.g a b)) ∧ ∃ m, w' = w.drewN m := by
  have c0 := h.c0
  have k0 := h.un.cz.k0
  have SM := Same_in w base c.z.ps c.z.nb l.length c.z.g c.z.jv _ h.un.cz.sets.lies _ h.un.cz.ok a b
  clear h
  go_enter Tryz.func11, Tryz.ntmps11
  go_wp2_with (go_at_call 26; refine SM.mono ?_; rintro e w2 ⟨rfl, m, rfl⟩)
  go_ret
  exact ⟨rfl, m, rfl⟩

set_option maxHeartbeats 1000000 in
theorem kMark_in (w : World) (base : Nat) (l : List Tm) (c : Ks) (P : List (Nat × Nat)) (h : Cl w base l c P) :
    Calls Tryz.prog 224 #[.pointer (some ⟨c.pc, 0, none⟩)] w fun e w' => e = .returned (.int .i64 (P.length : Int)) ∧ w = w' := by
  have c1 := h.c1
  obtain ⟨ta, tc, htv⟩ := row_form' h.told
  rw [htv] at c1
  have hn := h.num
  rw [← hn]
  clear h hn
  go_enter Tryz.func224, Tryz.ntmps224
  go_wp2
  go_ret
  exact ⟨rfl, rfl⟩

/-- The least terms of all classes. -/
def lows (l : List Tm) (g : Uf.G) : List Nat := (List.range l.length).map g.lo
theorem lows_get {l : List Tm} {g : Uf.G} {i : Nat} (hi : i < l.length) : (lows l g)[i]? = some (g.lo i) := by simp [lows, hi]
theorem lows_len (l : List Tm) (g : Uf.G) : (lows l g).length = l.length := by simp [lows]

set_option maxHeartbeats 2000000 in
set_option maxRecDepth 100000 in
theorem kClasses_in (w : World) (base : Nat) (l : List Tm) (c : Ks) (P : List (Nat × Nat)) (h : Cl w base l c P) :
    Calls Tryz.prog 90 #[.pointer (some ⟨c.pc, 0, none⟩)] w fun e w' => e = .returned (.slice (some ⟨w.heap.size, 0, none⟩) l.length l.length) ∧ w'.rowIs w.heap.size 3 l.length (fun i => .int .i64 (c.z.g.lo i : Int)) ∧ Kept0 w w' := by
  have hlen := h.un.cz.len
  have M1 := make_ints w 39 Tryz.underlying39 l.length (by omega)
  have R1 := World.rowIs_made w (.int .i64 0) l.length 3
  have K1 : Kept0 w (w.alloc (.cells (madeCells #[.int .i64 0] l.length) 3)) := Kept.alloc (Kept.refl _ w) _
  have c0 := h.c0
  have k1 := h.un.cz.k1
  go_enter Tryz.func90, Tryz.ntmps90
  go_wp2_with fail
  clear M1 c0 k1
  generalize w.alloc (.cells (madeCells #[.int .i64 0] l.length) 3) = w1 at *
  go_loopw [16] (fun t16 W => ∃ k : Nat, k ≤ l.length ∧ t16 = .int .i64 (k : Int) ∧ W.rowIs w.heap.size 3 l.length (fun i => .int .i64 (if i < k then (c.z.g.lo i : Int) else 0)) ∧ Kept0 w W) (fun t16 _ => l.length - (intOf t16).toNat)
  case atStart => exact ⟨0, by omega, rfl, R1.congr (fun i _ => by simp), K1⟩
  case round =>
    clear R1 K1
    obtain ⟨k, hk, rfl, R, K⟩ := hrel
    by_cases hk2 : k < l.length
    · have dk : decide ((k : Int) < (l.length : Int)) = true := decide_eq_true (by omega)
      have H := h.kept0 K
      have c0 := H.c0
      have k0 := H.un.cz.k0
      have LE := H.un.cz.least hk2
      have ck := R.cell (i := k) hk2
      have fk := R.frozen k
      have HH : Hid (_ ∧ _) := ⟨R, K⟩
      clear R K H
      go_wp2_with (go_at_call 38; refine LE.mono ?_; rintro e w9 ⟨rfl, m9, rfl⟩)
      obtain ⟨R, K⟩ := HH.out
      refine ⟨⟨k + 1, hk2, by simp, ?_, Kept.setNew (K.drewN _) (Nat.le_refl _) _⟩, by simp [intOf]; omega⟩
      refine World.rowIs.congr (World.rowIs.set (World.rowIs.of_block R rfl : (wr.drewN m9).rowIs w.heap.size 3 l.length _) k _) (fun i hi => ?_)
      by_cases e : i = k
      · rw [if_pos e, e, if_pos (Nat.lt_succ_self k)]
      · rw [if_neg e]
        by_cases e2 : i < k
        · rw [if_pos e2, if_pos (by omega)]
        · rw [if_neg e2, if_neg (by omega)]
    · have dk : decide ((k : Int) < (l.length : Int)) = false := decide_eq_false (by omega)
      obtain rfl : k = l.length := by omega
      go_wp2_with fail
      go_ret
      exact ⟨rfl, R.congr (fun i hi => by rw [if_pos hi]), K⟩

set_option maxHeartbeats 1000000 in
set_option maxRecDepth 100000 in
theorem kNew_in (w : World) (base p : Nat) (ev : Value) (nb fb : Nat) (l : List Tm) (h : Bk w base p ev nb fb l) (hb : Cc.Bd l) (hl : l.length ≤ 150) :
    Calls Tryz.prog 5 #[.pointer (some ⟨p, 0, none⟩)] w fun e w' => ∃ c : Ks, e = .returned (.pointer (some ⟨c.pc, 0, none⟩)) ∧ Cl w' w.heap.size l c [] ∧ Kept0 w w' := by
  have TO := termsOf_in w base p ev nb fb l h
  have NC : ∀ w1 tb av st, Tf w w1 tb l l.length av st → Calls Tryz.prog 15 #[.slice (some ⟨tb, 0, none⟩) l.length l.length] w1 fun e w' => ∃ z : Zs, e = .returned (.pointer (some ⟨z.pk, 0, none⟩)) ∧ Un w' w.heap.size l z [] [] [] ∧ Kept0 w1 w' ∧ w1.heap.size ≤ z.pk ∧ (∀ k, z.All k → w.heap.size ≤ k) := fun w1 tb av st T => by
    obtain ⟨f, R, hf⟩ := T.row
    exact newC_in w1 w.heap.size l tb av st (R.congr (fun j hj => hf j hj)) T.sat (fun i t ht => T.args i t (List.getElem?_eq_some_iff.1 ht).1 ht) hb h.oks hl T.kept.size T.tb (fun x hx => (T.far x hx).1)
  go_enter Tryz.func5, Tryz.ntmps5
  go_wp2_with (first | (go_at_call 16; refine TO.mono ?_; rintro e w1 ⟨tb, av, st, rfl, T⟩; have NC1 := NC w1 tb av st T) | (go_at_call 15; refine NC1.mono ?_; rintro e w2 ⟨z, rfl, U, K2, hz, hA⟩))
  go_ret
  have K3 : Kept0 w2 (w2.alloc (.cells #[.pointer (some ⟨z.pk, 0, none⟩), .slice none 0 0] 62)) := Kept.alloc (Kept.refl _ w2) _
  have hw2 : w.heap.size ≤ w2.heap.size := Nat.le_trans T.kept.size K2.size
  refine ⟨⟨w2.heap.size, .slice none 0 0, [], z⟩, rfl, ⟨?_, World.ownsRow_nil _ _ _ _, U.kept0 K3, fun hA' => ?_, fun k hk => by simp [Value.ownBlock] at hk, hw2, rfl⟩, (T.kept.trans K2).trans K3⟩
  · exact (box_row w2 (.pointer (some ⟨z.pk, 0, none⟩)) (.slice none 0 0) 62)
  · have := U.cz.all_lt hA'
    exact Nat.lt_irrefl _ this

end Go.Proofs.YtlehlgipbhfioaaGreat
