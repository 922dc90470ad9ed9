/- Package sat: assign, the walk. -/
import Derived.Test.YtlehlgipbhfioaaGreatP00
namespace Go.Proofs.YtlehlgipbhfioaaGreat
open Go.RowKit Go.Maps

theorem cell_one1 (w : World) (a : Value) (ty : TypeId) : ∀ j u, [a][j]? = some u → (w.alloc (.cells #[a] ty)).cell? ((⟨w.heap.size, 0, none⟩ : Addr).add j) = some u := by
  intro j u hj
  match j, hj with
  | 0, hj =>
    simp at hj
    subst hj
    have h := World.alloc_heap_new w (Obj.cells #[a] ty)
    have e : ((⟨w.heap.size, 0, none⟩ : Addr).add 0) = ⟨w.heap.size, 0, none⟩ := by simp [Addr.add]
    rw [e]
    unfold World.cell?
    simp only [h]
    rfl
theorem infoLit : (Tryz.prog.info? 192).map (fun i => (i.zero, i.size, i.bytes)) = some (some (.int .i32 0), 1, 4) := by kernel_rfl

set_option maxRecDepth 100000 in
set_option maxHeartbeats 2000000 in
theorem assign_in (w : World) (A : Ad) (s : Sv) (h : Mem w A s) (sb : Nat) (hsb : A.blk .search = some sb) (l : Nat) (hl : l < 2 * s.n + 2) (hlim : s.trail.length ≤ 1073741824) (by_ : Option Addr) :
    Calls Tryz.prog 161 #[.pointer (some ⟨sb, 0, none⟩), i32 l, .pointer by_] w fun e w' => e = .returned (.tuple #[]) ∧ ∃ A', Step w w' A A' (s.assign l) ∧ ∀ r, r ≠ .trail → A'.blk r = A.blk r ∧ A'.sp r = A.sp r := by
  obtain ⟨vb, hvb⟩ := h.fix .vals rfl
  obtain ⟨so, hso⟩ := h.fix .src rfl
  have c12 := h.cell hsb (i := 12) (v := .bool false) rfl
  have c0 := h.cell hsb (i := 0) rfl
  simp only [Ad.slv, hvb, h.flat.1, List.length_nil, Nat.zero_div, Nat.add_zero] at c0
  have hol := opp_lt hl
  have hne : l ≠ opp l := by unfold opp; split <;> omega
  have hsm := h.small
  have OP := fun m => opp_in (w.drewN m) l (by omega)
  have hvl : (cellsR A s .vals)[l]? = some (.int .i8 (s.val l)) := by
    show (s.vals.map _)[l]? = _
    rw [List.getElem?_map, List.getElem?_eq_getElem (by rw [h.lv]; exact hl)]
    simp [Sv.val, List.getElem?_eq_getElem (show l < s.vals.length by rw [h.lv]; exact hl)]
  have hvo : (cellsR A s .vals)[opp l]? = some (.int .i8 (s.val (opp l))) := by
    show (s.vals.map _)[opp l]? = _
    rw [List.getElem?_map, List.getElem?_eq_getElem (by rw [h.lv]; exact hol)]
    simp [Sv.val, List.getElem?_eq_getElem (show opp l < s.vals.length by rw [h.lv]; exact hol)]
  have v1 := h.cell hvb hvl
  have v2 := h.cell hvb hvo
  have g1 := h.frozen hvb l
  have g2 := h.frozen hvb (opp l)
  have dl : (l : Int) < 2 * (s.n : Int) + 2 := by omega
  have dol : (opp l : Int) < 2 * (s.n : Int) + 2 := by omega
  have HM : Hid (Mem w A s) := h
  clear hvl hvo h
  unfold i32
  go_enter Tryz.func161, Tryz.ntmps161
  go_wp2_with fail
  go_cut [19] from 20 to 31 (fun _ wx => wx = ((w.drewN 1).setCell ⟨vb, l, none⟩ (.int .i8 1)).setCell ⟨vb, opp l, none⟩ (.int .i8 (-1)))
  case first =>
    go_region_with (go_at_call 177; refine (OP 1).mono ?_; rintro e w3 ⟨rfl, rfl⟩)
    all_goals
      try simp only [Act.put, List.getElem_toArray, List.getElem_cons_succ, List.getElem_cons_zero, List.setIfInBounds_toArray, List.set_cons_succ, List.set_cons_zero]
      go_wp2_with fail
      go_meet
      case rel => rfl
  case rest =>
    have M1 : Mem wc A { s with vals := (s.vals.set l 1).set (opp l) (-1) } := by
      rw [hcut]
      exact (HM.out.keep (W' := w.drewN 1) (fun _ _ => rfl)).two hvb l (opp l) 1 (-1)
    have S1 : Step w wc A A { s with vals := (s.vals.set l 1).set (opp l) (-1) } := ⟨M1, by rw [hcut]; exact (((Kept.refl _ w).drewN 1).setCell (p := ⟨vb, l, none⟩) ⟨_, hvb⟩ _).setCell (p := ⟨vb, opp l, none⟩) ⟨_, hvb⟩ _, fun _ hk => Or.inl hk⟩
    have HS1 : Hid _ := S1
    have c2 := M1.cell hsb (i := 2) rfl
    simp only [Ad.slv, hso, M1.flat.2.2.1, List.length_nil, Nat.zero_div, Nat.add_zero] at c2
    have VA := fun m => var_in (wc.drewN m) l
    have LE := fun m => level_in (wc.drewN m) A _ (M1.keep (fun _ _ => rfl)) sb hsb
    have hvn : l / 2 < s.n + 1 := by omega
    have hs1 : l / 2 * 2 < A.src.length := by rw [HM.out.ls]; omega
    have hs2 : l / 2 * 2 + 1 < A.src.length := by rw [HM.out.ls]; omega
    have x1 := M1.cell hso (i := l / 2 * 2) (show (cellsR A _ .src)[l / 2 * 2]? = _ from List.getElem?_eq_getElem hs1)
    have x2 := M1.cell hso (i := l / 2 * 2 + 1) (show (cellsR A _ .src)[l / 2 * 2 + 1]? = _ from List.getElem?_eq_getElem hs2)
    have y1 := M1.frozen hso (l / 2 * 2)
    have y2 := M1.frozen hso (l / 2 * 2 + 1)
    have HM1 : Hid _ := M1
    have dv : ((l / 2 : Nat) : Int) < (s.n : Int) + 1 := by omega
    clear hcut M1 S1 v1 v2 g1 g2 OP c0 c12 dl dol HM
    obtain ⟨w1, rfl⟩ : ∃ w1, w1 = wc := ⟨_, rfl⟩
    generalize hlv : l / 2 = v at *
    generalize A.src[v * 2] = z1 at *
    generalize A.src[v * 2 + 1] = z2 at *
    apply_assumption
    go_wp2_with fail
    go_cut [32] from 33 to 42 (fun _ wx => wx = ((w1.drewN 1).setCell ⟨so, v * 2, none⟩ (.int .i64 (s.starts.length : Int))).setCell ⟨so, v * 2 + 1, none⟩ (.pointer by_))
    case first =>
      go_region_with (first | (go_at_call 200; refine (VA 1).mono ?_; rintro e w3 ⟨rfl, rfl⟩) | (go_at_call 164; refine (LE 1).mono ?_; rintro e w3 ⟨rfl, rfl⟩))
      all_goals
        try simp only [Act.put, List.getElem_toArray, List.getElem_cons_succ, List.getElem_cons_zero, List.setIfInBounds_toArray, List.set_cons_succ, List.set_cons_zero]
        go_wp2_with fail
        go_meet
        case rel => rfl
    case rest =>
      have M2 : Mem wc { A with src := (A.src.set (v * 2) (.int .i64 (s.starts.length : Int))).set (v * 2 + 1) (.pointer by_) } { s with vals := (s.vals.set l 1).set (opp l) (-1) } := by
        rw [hcut]
        exact (HM1.out.keep (W' := w1.drewN 1) (fun _ _ => rfl)).source hso (v * 2) _ _
      have S2 : Step w wc A { A with src := (A.src.set (v * 2) (.int .i64 (s.starts.length : Int))).set (v * 2 + 1) (.pointer by_) } { s with vals := (s.vals.set l 1).set (opp l) (-1) } :=
        HS1.out.trans ⟨M2, by rw [hcut]; exact (((Kept.refl _ w1).drewN 1).setCell (p := ⟨so, v * 2, none⟩) ⟨_, hso⟩ _).setCell (p := ⟨so, v * 2 + 1, none⟩) ⟨_, hso⟩ _, fun _ hk => Or.inl hk⟩
      have hA2 : ∀ r, ({ A with src := (A.src.set (v * 2) (.int .i64 (s.starts.length : Int))).set (v * 2 + 1) (.pointer by_) } : Ad).blk r = A.blk r ∧ ({ A with src := (A.src.set (v * 2) (.int .i64 (s.starts.length : Int))).set (v * 2 + 1) (.pointer by_) } : Ad).sp r = A.sp r := fun r => ⟨rfl, rfl⟩
      generalize ({ A with src := (A.src.set (v * 2) (.int .i64 (s.starts.length : Int))).set (v * 2 + 1) (.pointer by_) } : Ad) = A2 at M2 S2 hA2
      have hsb2 : A2.blk .search = some sb := (hA2 .search).1.trans hsb
      clear hcut HS1 HM1 x1 x2 y1 y2 VA LE c2
      have HT : Hid (∀ (w8 : World) (O : Obj) (v8 : Value), w8.ownsRow 0 192 1 v8 (s.trail.length + 1) (s.trail.map i32 ++ [i32 l]) → (wc.alloc O).grownBy w8 (A2.slv .trail s.trail.length 1).ownBlock → (v8.ownBlock = (A2.slv .trail s.trail.length 1).ownBlock ∨ v8.ownBlock = some (wc.alloc O).heap.size) →
          w8.cell? ⟨sb, 3, none⟩ = some (A2.slv .trail s.trail.length 1) ∧ w8.frozen? ⟨sb, 3, none⟩ = false ∧ ∃ b k, v8 = .slice (some ⟨b, 0, none⟩) (s.trail.length + 1) k ∧ ∃ A', Step w (w8.setCell ⟨sb, 3, none⟩ v8) A A' (s.assign l) ∧ ∀ r, r ≠ .trail → A'.blk r = A.blk r ∧ A'.sp r = A.sp r) := fun w8 O v8 h1 h2 h3 => by
        obtain ⟨b, sp, e1, _, e3, e4, e5, e6⟩ := M2.grown (r := .trail) rfl (news := [i32 l]) h1 h2 (h3.imp id (fun e k hk => by rw [e] at hk; cases hk; exact Nat.le_refl _))
        have hs := (e6 .search sb (by decide) hsb2)
        have P := M2.pushTrail hsb2 l e1 e3 e4 e6
        refine ⟨(World.cell?_of_block (a := ⟨sb, 3, none⟩) hs.1).trans (M2.cell hsb2 (i := 3) rfl), (World.frozen?_of_block (a := ⟨sb, 3, none⟩) hs.1).trans (M2.frozen hsb2 3), b, _, e1, A2.up .trail b sp, S2.trans ⟨P, ?_, fun k hk => ?_⟩, fun r hr => ?_⟩
        · have K : Kept A2.Foot wc w8 := Kept.grown ((Kept.refl _ wc).alloc O) h2 (fun k hk => ⟨.trail, by
            have : (A2.slv .trail s.trail.length 1).ownBlock = A2.blk .trail := by unfold Ad.slv; cases A2.blk .trail <;> rfl
            rw [← this]; exact hk⟩)
          exact K.setCell (p := ⟨sb, 3, none⟩) ⟨_, hsb2⟩ _
        · obtain ⟨r, hr⟩ := hk
          by_cases er : r = .trail
          · subst er
            have : k = b := by simpa [Ad.up] using hr.symm
            subst this
            rcases e5 with e5 | e5
            · exact Or.inl ⟨_, e5⟩
            · exact Or.inr e5
          · exact Or.inl ⟨r, by simpa [Ad.up, er] using hr⟩
        · exact ⟨(if_neg hr).trans (hA2 r).1, (if_neg hr).trans (hA2 r).2⟩
      have OW : Hid _ := M2.owns (r := .trail) rfl
      obtain ⟨ta, tc, hts⟩ := slv_form M2 (r := .trail) rfl
      have c3 := M2.cell hsb2 (i := 3) rfl
      have hcap := M2.caps .trail rfl
      have hTL : s.trail.length ≤ 1073741824 := hlim
      rw [show lenR { s with vals := (s.vals.set l 1).set (opp l) (-1) } .trail = s.trail.length from rfl, show sizR .trail = 1 from rfl] at hts
      rw [show A2.slv .trail ({ s with vals := (s.vals.set l 1).set (opp l) (-1) } : Sv).trail.length 1 = .slice ta s.trail.length tc from hts] at c3
      have HTS : Hid _ := hts
      obtain ⟨i0, hi0, hz0, hz1, hz2⟩ := info_parts infoLit
      clear M2 S2 hA2 hcap hts
      apply_assumption
      go_wp2_with (first | (at_builtin; refine Aside.out ?_))
      delta Aside
      have OW2 : wc.ownsRow 0 192 1 (.slice ta s.trail.length tc) s.trail.length (s.trail.map i32) := HTS.out ▸ OW.out
      refine wpList_append_own_at _ rfl _ _ 178 rfl 0 192 i0 _ 1 4 Tryz.underlying178 hi0 hz0 hz1 hz2 rfl (by decide) _ _ _ rfl (OW2.alloc _) ⟨_, 0, none⟩ 1 1 [.int .i32 (l : Int)] rfl rfl (cell_one1 wc _ _) (by simp [Value.oneCell']) (by unfold maxLen; omega) (by omega) (by simp) ?_
      intro v8 w8 hown8 hgrow8 _ hat8
      obtain ⟨d3, f3, b8, k8, hv8, A', ST, hsame⟩ := HT.out w8 _ v8 hown8 (by rw [HTS.out]; exact hgrow8) (by rw [HTS.out]; exact hat8)
      rw [HTS.out] at d3
      subst hv8
      have HF : Hid (_ ∧ _) := And.intro ST hsame
      clear hown8 hgrow8 hat8 ST hsame HT OW OW2 HTS c3
      go_wp2_with fail
      refine ⟨rfl, .tuple #[], by simp [results, Tryz.results161], rfl, A', HF.out⟩

end Go.Proofs.YtlehlgipbhfioaaGreat
