/- Package sat: moves. -/
import Derived.Test.YtlehlgipbhfioaaGreatSaH
import Derived.Deep.RegionHeld3
namespace Go.Proofs.YtlehlgipbhfioaaGreat
open Go.RowKit Go.Maps

theorem lits_set {s : Sv} {c : Nat} (hc : c < s.cl.length) (ls : List Nat) (c' : Nat) : ({ s with cl := s.cl.set c ls } : Sv).lits c' = if c' = c then ls else s.lits c' := by
  unfold Sv.lits
  by_cases e : c' = c
  · subst e; simp [hc]
  · rw [if_neg e]
    show (s.cl.set c ls)[c']?.getD [] = _
    rw [List.getElem?_set_ne (fun x => e x.symm)]

/-- A literal of a clause is another. -/
theorem Mem.setLit {W : World} {A : Ad} {s : Sv} (h : Mem W A s) {c rb : Nat} (hrb : A.blk (.crow c) = some rb) (i x : Nat) (hi : i < (s.lits c).length) :
    Mem (W.setCell ⟨rb, i, none⟩ (i32 x)) A { s with cl := s.cl.set c ((s.lits c).set i x) } := by
  have hc : c < s.cl.length := (h.rows c).1 ⟨_, hrb⟩
  have hl := lits_set hc ((s.lits c).set i x)
  refine { h with has := h.set hrb i (i32 x) ?_ (fun r' hr => ?_), cls := fun d => by simpa using h.cls d, rows := fun d => by simpa using h.rows d }
  · simp only [cellsR]
    rw [hl, if_pos rfl, List.map_set, List.set_append_left _ _ (by simpa using hi)]
  · cases r' <;> first | rfl | skip
    case clause d =>
      simp only [cellsR]
      rw [hl]
      by_cases e : d = c
      · subst e; rw [if_pos rfl, List.length_set]
      · rw [if_neg e]
    case crow d =>
      simp only [cellsR]
      rw [hl, if_neg (fun e => hr (by rw [e]))]

theorem Step.cell {w w1 : World} {A : Ad} {s s1 : Sv} (h1 : Step w w1 A A s) {r : Role} {b : Nat} (hb : A.blk r = some b) (i : Nat) (v : Value) (M : Mem (w1.setCell ⟨b, i, none⟩ v) A s1) : Step w (w1.setCell ⟨b, i, none⟩ v) A A s1 :=
  h1.trans ⟨M, (Kept.refl _ w1).setCell (p := ⟨b, i, none⟩) ⟨_, hb⟩ _, fun _ hk => Or.inl hk⟩

theorem free_congr {s s1 : Sv} (hv : s1.vals = s.vals) : ∀ (ls : List Nat) (i : Nat), s1.free ls i = s.free ls i
  | [], _ => rfl
  | l :: ls, i => by
    have e : s1.val l = s.val l := by unfold Sv.val; rw [hv]
    rw [Sv.free, Sv.free, e, free_congr hv ls (i + 1)]
/-- What moves comes to, behind its first step. -/
theorem moves_eq {s s1 : Sv} {c gone m0 m1 : Nat} {rest : List Nat} (hF : Sv.front (s.lits c) gone = m0 :: m1 :: rest) (hs1 : s1 = { s with cl := s.cl.set c (m0 :: m1 :: rest) }) :
    s.moves c gone = if s1.val m0 = 1 then (false, s1) else match s1.free rest 2 with
      | none => (false, s1)
      | some i => (true, Sv.addW { s1 with cl := s1.cl.set c (((m0 :: m1 :: rest).set 1 ((m0 :: m1 :: rest)[i]?.getD 0)).set i gone) } ((m0 :: m1 :: rest)[i]?.getD 0) c m0) := by
  have hv : s1.vals = s.vals := by rw [hs1]
  have e0 : s1.val m0 = s.val m0 := by unfold Sv.val; rw [hv]
  unfold Sv.moves
  rw [hF, e0, free_congr hv]
  simp only [List.getElem?_cons_zero, Option.getD_some, List.drop_succ_cons, List.drop_zero]
  split
  · rw [hs1]
  · cases s.free rest 2 with
    | none => rw [hs1]
    | some i => rw [hs1]; simp

set_option maxRecDepth 100000 in
set_option maxHeartbeats 2000000 in
theorem moves_in (w : World) (A : Ad) (s : Sv) (h : Mem w A s) (sb : Nat) (hsb : A.blk .search = some sb) (c : Nat) (cb : Nat) (hcb : A.blk (.clause c) = some cb) (l0 l1 : Nat) (rest : List Nat) (hlits : s.lits c = l0 :: l1 :: rest) (hlt : ∀ l ∈ s.lits c, l < 2 * s.n + 2) (gone : Nat) (hgone : gone < 2 * s.n + 2) (hlc : (s.lits c).length ≤ 4002) (hlim : ∀ l, (s.wat l).length ≤ 4398046511100) :
    Calls Tryz.prog 241 #[.pointer (some ⟨sb, 0, none⟩), .pointer (some ⟨cb, 0, none⟩), i32 gone] w fun e w' => e = .returned (.bool (s.moves c gone).1) ∧ ∃ A', Step w w' A A' (s.moves c gone).2 ∧ ∀ r, (∀ l, s.val l ≠ -1 → r ≠ .win l) → A'.blk r = A.blk r ∧ A'.sp r = A.sp r := by
  obtain ⟨vb, hvb⟩ := h.fix .vals rfl
  have hc : c < s.cl.length := (h.cls c).1 ⟨_, hcb⟩
  obtain ⟨rb, hrb⟩ := (h.rows c).2 hc
  have c0 := h.cell hsb (i := 0) rfl
  simp only [Ad.slv, hvb, h.flat.1, List.length_nil, Nat.zero_div, Nat.add_zero] at c0
  have k0 := h.cell hcb (i := 0) rfl
  simp only [Ad.slv, hrb, hlits, List.length_cons] at k0
  have r0 := h.cell hrb (i := 0) (v := i32 l0) (by simp [cellsR, hlits])
  have r1 := h.cell hrb (i := 1) (v := i32 l1) (by simp [cellsR, hlits])
  have f0 := h.frozen hrb 0
  have f1 := h.frozen hrb 1
  unfold i32 at r0 r1 ⊢
  generalize hln : rest.length + 1 + 1 = len at k0
  have hi1 : (0 : Int) < (len : Int) := by omega
  have hi2 : (1 : Int) < (len : Int) := by omega
  simp only [Nat.div_one] at k0
  generalize hcp : len + (A.sp (.crow c)).length = cap at k0
  have HM : Hid (Mem w A s) := h
  have hll : (s.lits c).length = rest.length + 2 := by rw [hlits]; rfl
  have hlen2 : len ≤ 4002 := by omega
  clear h
  obtain ⟨i0, hi0, hz0, hz1, hz2⟩ := info_parts infoWatch
  by_cases hfr : l0 = gone
  case' pos =>
    have d1 : ((l0 : Int) == (gone : Int)) = true := by rw [hfr]; simp
    go_enter Tryz.func241, Tryz.ntmps241
    go_wp2_with fail
    have hF : Sv.front (s.lits c) gone = l1 :: gone :: rest := by unfold Sv.front; rw [hlits, if_pos (by simpa using hfr)]; rfl
    obtain ⟨s1, hs1⟩ : ∃ s1, s1 = ({ s with cl := s.cl.set c (l1 :: gone :: rest) } : Sv) := ⟨_, rfl⟩
    have M1 : Mem ((w.setCell ⟨rb, 0, none⟩ (.int .i32 (l1 : Int))).setCell ⟨rb, 1, none⟩ (.int .i32 (gone : Int))) A s1 := by
      have h1 := HM.out.setLit hrb 0 l1 (by omega)
      have h2 := h1.setLit hrb 1 gone (by rw [lits_set hc, if_pos rfl, List.length_set]; omega)
      rw [lits_set hc, if_pos rfl, hlits] at h2
      rw [hs1]
      have e : (({ s with cl := s.cl.set c ((l0 :: l1 :: rest).set 0 l1) } : Sv).cl.set c (((l0 :: l1 :: rest).set 0 l1).set 1 gone)) = s.cl.set c (l1 :: gone :: rest) := by simp
      rw [e] at h2
      exact h2
    have S1 : Step w ((w.setCell ⟨rb, 0, none⟩ (.int .i32 (l1 : Int))).setCell ⟨rb, 1, none⟩ (.int .i32 (gone : Int))) A A s1 := ⟨M1, ((Kept.refl _ w).setCell (p := ⟨rb, 0, none⟩) ⟨_, hrb⟩ _).setCell (p := ⟨rb, 1, none⟩) ⟨_, hrb⟩ _, fun _ hk => Or.inl hk⟩
    have hm : s1.lits c = l1 :: gone :: rest := by rw [hs1, lits_set hc, if_pos rfl]
    have hmlt : ∀ l ∈ l1 :: gone :: rest, l < 2 * s.n + 2 := fun l hl => by
      simp at hl
      rcases hl with rfl | rfl | hl
      · exact hlt _ (by rw [hlits]; simp)
      · exact hgone
      · exact hlt _ (by rw [hlits]; simp [hl])
    have hn1 : s1.n = s.n := by rw [hs1]
    have hw1 : s1.ws = s.ws := by rw [hs1]
    have hv1 : s1.vals = s.vals := by rw [hs1]
    generalize ((w.setCell ⟨rb, 0, none⟩ (.int .i32 (l1 : Int))).setCell ⟨rb, 1, none⟩ (.int .i32 (gone : Int))) = w1 at *
    obtain ⟨m0, hm0e⟩ : ∃ m0, m0 = l1 := ⟨_, rfl⟩
    obtain ⟨m1, hm1e⟩ : ∃ m1, m1 = gone := ⟨_, rfl⟩
    rw [← hm0e, ← hm1e] at hm hmlt
    rw [← hm0e] at hF
    rw [← hm0e, ← hm1e] at hs1
    have HMV : Hid _ := moves_eq (gone := gone) (by rw [hF, hm1e]) hs1
    clear hs1 hF
    clear hm0e hm1e hfr d1 r0 r1 f0 f1 c0 k0 HM hlits
  case' neg =>
    have d1 : ((l0 : Int) == (gone : Int)) = false := by rw [beq_eq_false_iff_ne]; omega
    go_enter Tryz.func241, Tryz.ntmps241
    go_wp2_with fail
    have hF : Sv.front (s.lits c) gone = l0 :: l1 :: rest := by unfold Sv.front; rw [hlits, if_neg (by simpa using hfr)]
    obtain ⟨s1, hs1⟩ : ∃ s1, s1 = ({ s with cl := s.cl.set c (l0 :: l1 :: rest) } : Sv) := ⟨_, rfl⟩
    have hss : s1 = s := by
      rw [hs1]
      have e : s.cl.set c (l0 :: l1 :: rest) = s.cl := by
        rw [← hlits]
        unfold Sv.lits
        rw [List.getElem?_eq_getElem hc]
        exact List.set_getElem_self hc
      rw [e]
    have M1 : Mem w A s1 := hss ▸ HM.out
    have S1 : Step w w A A s1 := ⟨M1, Kept.refl _ w, fun _ hk => Or.inl hk⟩
    have hm : s1.lits c = l0 :: l1 :: rest := by rw [hss]; exact hlits
    have hmlt : ∀ l ∈ l0 :: l1 :: rest, l < 2 * s.n + 2 := by rw [← hlits]; exact hlt
    have hn1 : s1.n = s.n := by rw [hss]
    have hw1 : s1.ws = s.ws := by rw [hss]
    have hv1 : s1.vals = s.vals := by rw [hss]
    have HMV : Hid _ := moves_eq (gone := gone) hF hs1
    clear hs1 hF hss
    clear hfr d1 r0 r1 f0 f1 c0 k0 HM hlits
    obtain ⟨w1, rfl⟩ : ∃ w1, w1 = w := ⟨_, rfl⟩
    generalize hm0e : l0 = m0 at *
    generalize hm1e : l1 = m1 at *
    clear hm0e hm1e
  all_goals
    have hls1 : s1.n = s.n := hn1
    have hm0 : m0 < 2 * s.n + 2 := hmlt m0 (by simp)
    have c0' := M1.cell hsb (i := 0) rfl
    simp only [Ad.slv, hvb, M1.flat.1, List.length_nil, Nat.zero_div, Nat.add_zero, hls1] at c0'
    have r0' := M1.cell hrb (i := 0) (v := i32 m0) (by simp [cellsR, hm])
    have f1' := M1.frozen hrb 1
    have r1' := M1.cell hrb (i := 1) (v := i32 m1) (by simp [cellsR, hm])
    unfold i32 at r0' r1'
    have VV : Hid (∀ l, l < 2 * s.n + 2 → w1.cell? ⟨vb, l, none⟩ = some (.int .i8 (s1.val l))) := fun l hl => by
      refine M1.cell hvb ?_
      show (s1.vals.map _)[l]? = _
      have hl2 : l < s1.vals.length := by rw [M1.lv, hls1]; exact hl
      rw [List.getElem?_map, List.getElem?_eq_getElem hl2]
      simp [Sv.val, List.getElem?_eq_getElem hl2]
    have v0 := VV.out m0 hm0
    have dm0 : (m0 : Int) < 2 * (s.n : Int) + 2 := by omega
    have HM1 : Hid _ := M1
    have HS1 : Hid _ := S1
    clear M1 S1
    by_cases hv : s1.val m0 = 1
    · rw [hv] at v0
      go_quiet (fail)
      go_wp2_with fail
      go_ret
      have e := HMV.out
      rw [if_pos hv] at e
      rw [e]
      exact ⟨rfl, A, HS1.out.trans (Step.drew HM1.out _), fun _ _ => ⟨rfl, rfl⟩⟩
    · have dv : (s1.val m0 == 1) = false := by simpa using hv
      have e9 := HMV.out
      rw [if_neg hv] at e9
      have HMV2 : Hid _ := e9
      clear e9 HMV hv
      generalize s1.val m0 = vm at *
      go_quiet (fail)
      go_wp2_with fail
      clear v0 dv
      go_loopw [8] (fun t8 W => ∃ i m : Nat, 2 ≤ i ∧ i ≤ len ∧ t8 = .int .i64 (i : Int) ∧ W = w1.drewN m ∧ Hid (s1.free ((m0 :: m1 :: rest).drop i) i = s1.free rest 2)) (fun t8 _ => len - (intOf t8).toNat)
      case atStart => exact ⟨2, nq, by omega, by omega, rfl, rfl, rfl⟩
      case round =>
        obtain ⟨i, m, hi2, hil, rfl, rfl, HI⟩ := hrel
        by_cases hlt2 : i < len
        · have di : decide ((i : Int) < (len : Int)) = true := decide_eq_true (by omega)
          have hil2 : i < (m0 :: m1 :: rest).length := by simp; omega
          have hdr := List.drop_eq_getElem_cons hil2
          have hfree := HI.out
          rw [hdr, Sv.free] at hfree
          have hli := hmlt _ (List.getElem_mem hil2)
          have ri := HM1.out.cell hrb (i := i) (v := i32 ((m0 :: m1 :: rest)[i])) (by
            show ((s1.lits c).map i32 ++ A.sp (.crow c))[i]? = _
            rw [hm, List.getElem?_append_left (by simpa using hil2), List.getElem?_map, List.getElem?_eq_getElem hil2]
            rfl)
          have fi := HM1.out.frozen hrb i
          unfold i32 at ri
          have vi := VV.out _ hli
          have hgd : (m0 :: m1 :: rest)[i]?.getD 0 = (m0 :: m1 :: rest)[i] := by rw [List.getElem?_eq_getElem hil2]; rfl
          have HGD : Hid _ := hgd
          clear hdr hgd HI
          generalize (m0 :: m1 :: rest)[i] = li at *
          have dli : (li : Int) < 2 * (s.n : Int) + 2 := by omega
          by_cases hvi : s1.val li = -1
          · rw [hvi] at vi
            rw [if_neg (fun e => e hvi)] at hfree
            have HI2 : Hid _ := hfree
            have wrp : IntKind.i64.wrap ((i : Int) + 1) = (i : Int) + 1 := by rw [IntKind.wrap_i64]; omega
            clear hfree HMV2 VV
            go_wp2_with fail
            exact ⟨⟨i + 1, m, by omega, by omega, by simp, by first | rfl | rw [World.drewN_drewN], HI2.out⟩, by simp [intOf]; omega⟩
          · have dvi : (s1.val li != -1) = true := by simpa using hvi
            rw [if_pos hvi] at hfree
            have HI2 : Hid _ := hfree
            clear hfree
            have HNV : Hid (s.val li ≠ -1) := by unfold Sv.val at hvi ⊢; rw [← hv1]; exact hvi
            generalize s1.val li = vl at *
            clear hvi
            have fi2 : ((w1.drewN m).setCell ⟨rb, 1, none⟩ (.int .i32 (li : Int))).frozen? ⟨rb, i, none⟩ = false := (World.frozen?_setCell _ _ _ _).trans fi
            have ri2 : ((w1.drewN m).setCell ⟨rb, 1, none⟩ (.int .i32 (li : Int))).cell? ⟨rb, i, none⟩ = some (.int .i32 (li : Int)) := by
              rw [World.cell?_setCell_other _ _ _ _ (by intro e; cases e; omega)]
              exact ri
            go_wp2_with fail
            have M2 : Mem (((w1.drewN m).setCell ⟨rb, 1, none⟩ (.int .i32 (li : Int))).setCell ⟨rb, i, none⟩ (.int .i32 (gone : Int))) A { s1 with cl := s1.cl.set c (((m0 :: m1 :: rest).set 1 li).set i gone) } := by
              have h0 : Mem (w1.drewN m) A s1 := HM1.out.keep (fun _ _ => rfl)
              have hc1 : c < s1.cl.length := (h0.rows c).1 ⟨_, hrb⟩
              have h1 := h0.setLit hrb 1 li (by rw [hm]; simp)
              have h2 := h1.setLit hrb i gone (by rw [lits_set hc1, if_pos rfl, List.length_set, hm]; simpa using hil2)
              rw [lits_set hc1, if_pos rfl, hm] at h2
              have e : (({ s1 with cl := s1.cl.set c ((m0 :: m1 :: rest).set 1 li) } : Sv).cl.set c (((m0 :: m1 :: rest).set 1 li).set i gone)) = s1.cl.set c (((m0 :: m1 :: rest).set 1 li).set i gone) := by simp
              rw [e] at h2
              exact h2
            have S2 : Step w1 (((w1.drewN m).setCell ⟨rb, 1, none⟩ (.int .i32 (li : Int))).setCell ⟨rb, i, none⟩ (.int .i32 (gone : Int))) A A { s1 with cl := s1.cl.set c (((m0 :: m1 :: rest).set 1 li).set i gone) } := ⟨M2, (((Kept.refl _ w1).drewN m).setCell (p := ⟨rb, 1, none⟩) ⟨_, hrb⟩ _).setCell (p := ⟨rb, i, none⟩) ⟨_, hrb⟩ _, fun _ hk => Or.inl hk⟩
            obtain ⟨s2, hs2⟩ : ∃ s2, s2 = ({ s1 with cl := s1.cl.set c (((m0 :: m1 :: rest).set 1 li).set i gone) } : Sv) := ⟨_, rfl⟩
            rw [← hs2] at M2 S2
            have hn2 : s2.n = s.n := by rw [hs2]; exact hn1
            have hwt2 : s2.wat li = s.wat li := by rw [hs2]; unfold Sv.wat; rw [hw1]
            have r0'' : (((w1.drewN m).setCell ⟨rb, 1, none⟩ (.int .i32 (li : Int))).setCell ⟨rb, i, none⟩ (.int .i32 (gone : Int))).cell? ⟨rb, 0, none⟩ = some (.int .i32 (m0 : Int)) := by
              rw [World.cell?_setCell_other _ _ _ _ (by intro e; cases e; omega), World.cell?_setCell_other _ _ _ _ (by intro e; cases e)]
              exact r0'
            have HE : Hid (s.moves c gone = (true, s2.addW li c m0)) := by
              have e9 := HMV2.out
              rw [← HI2.out] at e9
              simp only [HGD.out] at e9
              rw [hs2]
              exact e9
            have HS2 : Hid _ := HS1.out.trans S2
            clear S2 hs2 HMV2 HI2 HGD HS1 HM1 fi2 ri2 fi ri r0' f1' r1' VV c0' vi dvi
            generalize (((w1.drewN m).setCell ⟨rb, 1, none⟩ (.int .i32 (li : Int))).setCell ⟨rb, i, none⟩ (.int .i32 (gone : Int))) = w2 at *
            obtain ⟨wb, hwb⟩ := M2.fix .wout rfl
            have c1 := M2.cell hsb (i := 1) rfl
            simp only [Ad.slv, hwb, M2.flat.2.1, List.length_nil, Nat.zero_div, Nat.add_zero, hn2] at c1
            have M3 : Mem (w2.drewN 1) A s2 := M2.keep (fun _ _ => rfl)
            have HS3 : Hid _ := HS2.out.trans (Step.drew M2 1)
            have zw : wb < w2.heap.size := M2.lt hwb
            have hne1 : wb ≠ sb := fun e => by have := M2.inj .wout .search wb hwb (e ▸ hsb); cases this
            have hne2 : wb ≠ rb := fun e => by have := M2.inj .wout (.crow c) wb hwb (e ▸ hrb); cases this
            have zs : sb < w2.heap.size := M2.lt hsb
            have zr : rb < w2.heap.size := M2.lt hrb
            obtain ⟨ta, tc, t1', t2', t3, t4⟩ := winGrow M3 hwb li (by rw [hn2]; exact hli) c m0
            rw [hwt2] at t1' t3 t4
            have t1 : w2.cell? ⟨wb, li, none⟩ = some (.slice ta (s.wat li).length tc) := t1'
            have t2 : w2.frozen? ⟨wb, li, none⟩ = false := t2'
            have t1a : ∀ O, ((w2.drewN 1).alloc O).cell? ⟨wb, li, none⟩ = some (.slice ta (s.wat li).length tc) := fun O => (World.cell?_of_block (a := ⟨wb, li, none⟩) (Below.heap_alloc _ O wb zw)).trans t1'
            have c1a : ∀ O, ((w2.drewN 1).alloc O).cell? ⟨sb, 1, none⟩ = some (.slice (some ⟨wb, 0, none⟩) (2 * s.n + 2) (2 * s.n + 2)) := fun O => (World.cell?_of_block (a := ⟨sb, 1, none⟩) (Below.heap_alloc _ O sb zs)).trans c1
            have hptr : A.ptr (.clause c) = .pointer (some ⟨cb, 0, none⟩) := by simp [Ad.ptr, hcb]
            rw [hptr] at t4
            have HT : Hid _ := t4
            have OW : Hid _ := t3
            clear t1' t2' t3 t4 M2 M3 HS2 hwt2 hptr
            generalize hwl : (s.wat li).length = wl at *
            have hwm : wl ≤ 4398046511100 := hwl ▸ hlim li
            have hpos : 0 < len := by omega
            have r0a : ∀ O, ((w2.drewN 1).alloc O).cell? ⟨rb, 0, none⟩ = some (.int .i32 (m0 : Int)) := fun O => (World.cell?_of_block (a := ⟨rb, 0, none⟩) (Below.heap_alloc _ O rb zr)).trans r0''
            refine wp_region_noPanic ?_
            refine wp_region_held_drew (S := (fun W => W.cell? ⟨sb, 1, none⟩ = some (.slice (some ⟨wb, 0, none⟩) (2 * s.n + 2) (2 * s.n + 2)) ∧ W.cell? ⟨rb, 0, none⟩ = some (.int .i32 (m0 : Int)))) (by kernel_rfl) ?_ (fun hHeld => ?_)
            · (first | exact ⟨c1, r0''⟩ | exact ⟨c1a _, r0a _⟩ | exact ⟨d2, d3⟩ | exact ⟨(World.cell?_setCell_far _ ⟨wb, li, none⟩ ⟨sb, 1, none⟩ _ hne1).trans d2, (World.cell?_setCell_far _ ⟨wb, li, none⟩ ⟨rb, 0, none⟩ _ hne2).trans d3⟩)
            refine wpAnyH_take (i := 0) (oi := _) (v := ?_) rfl (by kernel_rfl) (by kernel_rfl) (by kernel_rfl) (fun _ _ _ h => h) (Or.inl ⟨by rfl, ?_⟩) (by assumption) ?_
            rotate_left 1
            · intro w hSw; (try dsimp only at hSw); go_simp; (try with_reducible rfl)
            try simp only [Act.put, List.getElem_toArray, List.getElem_cons_zero, List.setIfInBounds_toArray, List.set_cons_zero, List.set_cons_succ]
            refine wpAnyH_take (i := 1) (oi := _) (v := ?_) rfl (by kernel_rfl) (by kernel_rfl) (by kernel_rfl) (fun _ _ _ h => h) (Or.inl ⟨by rfl, ?_⟩) (by assumption) ?_
            rotate_left 1
            · intro w hSw; (try dsimp only at hSw); go_simp; (try with_reducible rfl)
            try simp only [Act.put, List.getElem_toArray, List.getElem_cons_succ, List.getElem_cons_zero, List.setIfInBounds_toArray, List.set_cons_zero, List.set_cons_succ]
            refine wpAnyH_take (i := 2) (oi := _) (v := ?_) rfl (by kernel_rfl) (by kernel_rfl) (by kernel_rfl) (fun _ _ _ h => h) (Or.inl ⟨by rfl, ?_⟩) (by assumption) ?_
            rotate_left 1
            · intro w hSw; (try dsimp only at hSw); go_simp; (try with_reducible rfl)
            try simp only [Act.put, List.getElem_toArray, List.getElem_cons_succ, List.getElem_cons_zero, List.setIfInBounds_toArray, List.set_cons_zero, List.set_cons_succ]
            refine wpAnyH_take (i := 3) (oi := _) (v := ?_) rfl (by kernel_rfl) (by kernel_rfl) (by kernel_rfl) (fun _ _ _ h => h) (Or.inl ⟨by rfl, ?_⟩) (by assumption) ?_
            rotate_left 1
            · intro w hSw; (try dsimp only at hSw); go_simp; (try with_reducible rfl)
            try simp only [Act.put, List.getElem_toArray, List.getElem_cons_succ, List.getElem_cons_zero, List.setIfInBounds_toArray, List.set_cons_zero, List.set_cons_succ]
            refine wpAnyH_take (i := 4) (oi := _) (v := ?_) rfl (by kernel_rfl) (by kernel_rfl) (by kernel_rfl) (fun _ _ _ h => h) (Or.inl ⟨by rfl, ?_⟩) (by assumption) ?_
            rotate_left 1
            · intro w hSw; (try dsimp only at hSw); go_simp; (try with_reducible rfl)
            try simp only [Act.put, List.getElem_toArray, List.getElem_cons_succ, List.getElem_cons_zero, List.setIfInBounds_toArray, List.set_cons_zero, List.set_cons_succ]
            refine wpAnyH_take (i := 5) (oi := _) (v := ?_) rfl (by kernel_rfl) (by kernel_rfl) (by kernel_rfl) (fun _ _ _ h => h) (Or.inl ⟨by rfl, ?_⟩) (by assumption) ?_
            rotate_left 1
            · intro w hSw; (try dsimp only at hSw); go_simp; (try with_reducible rfl)
            try simp only [Act.put, List.getElem_toArray, List.getElem_cons_succ, List.getElem_cons_zero, List.setIfInBounds_toArray, List.set_cons_zero, List.set_cons_succ]
            refine wpAnyH_take (i := 6) (oi := _) (v := ?_) rfl (by kernel_rfl) (by kernel_rfl) (by kernel_rfl) (fun _ _ _ h => h) (Or.inl ⟨by rfl, ?_⟩) (by assumption) ?_
            rotate_left 1
            · intro w hSw; (try dsimp only at hSw); go_simp; (try with_reducible rfl)
            try simp only [Act.put, List.getElem_toArray, List.getElem_cons_succ, List.getElem_cons_zero, List.setIfInBounds_toArray, List.set_cons_zero, List.set_cons_succ]
            refine wpAnyH_take (i := 7) (oi := _) (v := ?_) rfl (by kernel_rfl) (by kernel_rfl) (by kernel_rfl) (fun _ _ _ h => h) (Or.inl ⟨by rfl, ?_⟩) (by assumption) ?_
            rotate_left 1
            · intro w hSw; (try dsimp only at hSw); go_simp; (try with_reducible rfl)
            try simp only [Act.put, List.getElem_toArray, List.getElem_cons_succ, List.getElem_cons_zero, List.setIfInBounds_toArray, List.set_cons_zero, List.set_cons_succ]
            refine wpAnyH_take (i := 8) (oi := _) (v := ?_) rfl (by kernel_rfl) (by kernel_rfl) (by kernel_rfl) (fun _ _ _ h => h) (Or.inl ⟨by rfl, ?_⟩) (by assumption) ?_
            rotate_left 1
            · intro w hSw; (try dsimp only at hSw); go_simp; (try with_reducible rfl)
            try simp only [Act.put, List.getElem_toArray, List.getElem_cons_succ, List.getElem_cons_zero, List.setIfInBounds_toArray, List.set_cons_zero, List.set_cons_succ]
            refine wpAnyH_take (i := 9) (oi := _) (v := ?_) rfl (by kernel_rfl) (by kernel_rfl) (by kernel_rfl) (fun _ _ _ h => h) (Or.inl ⟨by rfl, ?_⟩) (by assumption) ?_
            rotate_left 1
            · intro w hSw; (try dsimp only at hSw); go_simp; (try with_reducible rfl)
            try simp only [Act.put, List.getElem_toArray, List.getElem_cons_succ, List.getElem_cons_zero, List.setIfInBounds_toArray, List.set_cons_zero, List.set_cons_succ]
            refine wpAnyH_take (i := 10) (oi := _) (v := ?_) rfl (by kernel_rfl) (by kernel_rfl) (by kernel_rfl) (fun _ _ _ h => h) (Or.inl ⟨by rfl, ?_⟩) (by assumption) ?_
            rotate_left 1
            · intro w hSw; (try dsimp only at hSw); go_simp; (try with_reducible rfl)
            try simp only [Act.put, List.getElem_toArray, List.getElem_cons_succ, List.getElem_cons_zero, List.setIfInBounds_toArray, List.set_cons_zero, List.set_cons_succ]
            refine wpAnyH_take (i := 12) (oi := _) (v := ?_) rfl (by kernel_rfl) (by kernel_rfl) (by kernel_rfl) (fun _ _ _ h => h) (Or.inl ⟨by rfl, ?_⟩) (by assumption) ?_
            rotate_left 1
            · intro w hSw; (try dsimp only at hSw); go_simp; (try with_reducible rfl)
            try simp only [Act.put, List.getElem_toArray, List.getElem_cons_succ, List.getElem_cons_zero, List.setIfInBounds_toArray, List.set_cons_zero, List.set_cons_succ]
            refine wpAnyH_take (i := 13) (oi := _) (v := ?_) rfl (by kernel_rfl) (by kernel_rfl) (by kernel_rfl) (fun _ _ _ h => h) (Or.inl ⟨by rfl, ?_⟩) (by assumption) ?_
            rotate_left 1
            · intro w hSw; (try dsimp only at hSw); go_simp; (try with_reducible rfl)
            try simp only [Act.put, List.getElem_toArray, List.getElem_cons_succ, List.getElem_cons_zero, List.setIfInBounds_toArray, List.set_cons_zero, List.set_cons_succ]
            refine wpAnyH_take (i := 14) (oi := _) (v := ?_) rfl (by kernel_rfl) (by kernel_rfl) (by kernel_rfl) (fun _ _ _ h => h) (Or.inl ⟨by rfl, ?_⟩) (by assumption) ?_
            rotate_left 1
            · intro w hSw; (try dsimp only at hSw); go_simp; (try with_reducible rfl)
            try simp only [Act.put, List.getElem_toArray, List.getElem_cons_succ, List.getElem_cons_zero, List.setIfInBounds_toArray, List.set_cons_zero, List.set_cons_succ]
            refine wpAnyH_take (i := 15) (oi := _) (v := ?_) rfl (by kernel_rfl) (by kernel_rfl) (by kernel_rfl) (fun _ _ _ h => h) (Or.inl ⟨by rfl, ?_⟩) (by assumption) ?_
            rotate_left 1
            · intro w hSw; (try dsimp only at hSw); go_simp; (try with_reducible rfl)
            try simp only [Act.put, List.getElem_toArray, List.getElem_cons_succ, List.getElem_cons_zero, List.setIfInBounds_toArray, List.set_cons_zero, List.set_cons_succ]
            refine wpAnyH_take (i := 16) (oi := _) (v := ?_) rfl (by kernel_rfl) (by kernel_rfl) (by kernel_rfl) (fun _ _ _ h => h) (Or.inl ⟨by rfl, ?_⟩) (by assumption) ?_
            rotate_left 1
            · intro w hSw; (try dsimp only at hSw); go_simp; (try with_reducible rfl)
            try simp only [Act.put, List.getElem_toArray, List.getElem_cons_succ, List.getElem_cons_zero, List.setIfInBounds_toArray, List.set_cons_zero, List.set_cons_succ]
            refine wpAnyH_ready (rs := [11, 17]) (by kernel_rfl) (by simp) ?_
            refine AllReadyH.cons rfl (fun K hK => ?_) (AllReadyH.cons rfl (fun K hK => ?_) AllReadyH.nil)
            try simp only [List.getElem_toArray, List.getElem_cons_succ, List.getElem_cons_zero]
            go_simp
            refine hK.out _ _ ?_ (fun hHeld => ?_)
            · (first | exact ⟨c1, r0''⟩ | exact ⟨c1a _, r0a _⟩ | exact ⟨d2, d3⟩ | exact ⟨(World.cell?_setCell_far _ ⟨wb, li, none⟩ ⟨sb, 1, none⟩ _ hne1).trans d2, (World.cell?_setCell_far _ ⟨wb, li, none⟩ ⟨rb, 0, none⟩ _ hne2).trans d3⟩)
            clear hK K
            try simp only [Act.put, List.getElem_toArray, List.getElem_cons_succ, List.getElem_cons_zero, List.setIfInBounds_toArray, List.set_cons_zero, List.set_cons_succ]
            refine wpAnyH_ready (rs := [17]) (by kernel_rfl) (by simp) ?_
            refine AllReadyH.cons rfl (fun K hK => ?_) AllReadyH.nil
            try simp only [List.getElem_toArray, List.getElem_cons_succ, List.getElem_cons_zero]
            go_simp
            refine hK.out _ _ ?_ (fun hHeld => ?_)
            · (first | exact ⟨c1, r0''⟩ | exact ⟨c1a _, r0a _⟩ | exact ⟨d2, d3⟩ | exact ⟨(World.cell?_setCell_far _ ⟨wb, li, none⟩ ⟨sb, 1, none⟩ _ hne1).trans d2, (World.cell?_setCell_far _ ⟨wb, li, none⟩ ⟨rb, 0, none⟩ _ hne2).trans d3⟩)
            clear hK K
            try simp only [Act.put, List.getElem_toArray, List.getElem_cons_succ, List.getElem_cons_zero, List.setIfInBounds_toArray, List.set_cons_zero, List.set_cons_succ]
            refine wpAnyH_ready (rs := [18]) (by kernel_rfl) (by simp) ?_
            refine AllReadyH.cons rfl (fun K hK => ?_) AllReadyH.nil
            refine step_append_here rfl (.tmp 73) (.tmp 79) 272 rfl 0 274 i0 _ 2 16 Tryz.underlying272 hi0 hz0 hz1 hz2 rfl (by decide) (.slice ta wl tc) wl (watC A (s.wat li)) (by rfl) (by exact World.ownsRow.alloc OW.out _) ⟨w2.heap.size, 0, none⟩ 1 1 [.pointer (some ⟨cb, 0, none⟩), .int .i32 (m0 : Int)] (by rfl) rfl (cell_two1 _ _ _ _) (by simp [Value.oneCell']) (by unfold maxLen; omega) (by omega) (by simp) ?_; intro v8 w8 hown8 hgrow8 hloc8; obtain ⟨d1, g1, ⟨b8, k8, hv8⟩, hoth, A', ST, hsame⟩ := HT.out w8 _ v8 hown8 hgrow8 hloc8; subst hv8; have d2 : w8.cell? ⟨sb, 1, none⟩ = some (.slice (some ⟨wb, 0, none⟩) (2 * s.n + 2) (2 * s.n + 2)) := (World.cell?_of_block (a := ⟨sb, 1, none⟩) (hoth .search sb (by intro e; cases e) hsb)).trans c1; have d3 : w8.cell? ⟨rb, 0, none⟩ = some (.int .i32 (m0 : Int)) := (World.cell?_of_block (a := ⟨rb, 0, none⟩) (hoth (.crow c) rb (by intro e; cases e) hrb)).trans r0''; have HF : Hid (_ ∧ _) := And.intro ST hsame; clear ST hsame hoth hown8 hgrow8 hloc8
            refine hK.out _ _ ?_ (fun hHeld => ?_)
            · (first | exact ⟨c1, r0''⟩ | exact ⟨c1a _, r0a _⟩ | exact ⟨d2, d3⟩ | exact ⟨(World.cell?_setCell_far _ ⟨wb, li, none⟩ ⟨sb, 1, none⟩ _ hne1).trans d2, (World.cell?_setCell_far _ ⟨wb, li, none⟩ ⟨rb, 0, none⟩ _ hne2).trans d3⟩)
            clear hK K
            try simp only [Act.put, List.getElem_toArray, List.getElem_cons_succ, List.getElem_cons_zero, List.setIfInBounds_toArray, List.set_cons_zero, List.set_cons_succ]
            refine wpAnyH_take (i := 19) (oi := _) (v := ?_) rfl (by kernel_rfl) (by kernel_rfl) (by kernel_rfl) (fun _ _ _ h => h) (Or.inl ⟨by rfl, ?_⟩) (by assumption) ?_
            rotate_left 1
            · intro w hSw; (try dsimp only at hSw); go_simp; (try with_reducible rfl)
            try simp only [Act.put, List.getElem_toArray, List.getElem_cons_succ, List.getElem_cons_zero, List.setIfInBounds_toArray, List.set_cons_zero, List.set_cons_succ]
            refine wpAnyH_ready (rs := [20]) (by kernel_rfl) (by simp) ?_
            refine AllReadyH.cons rfl (fun K hK => ?_) AllReadyH.nil
            try simp only [List.getElem_toArray, List.getElem_cons_succ, List.getElem_cons_zero]
            go_simp
            refine hK.out _ _ ?_ (fun hHeld => ?_)
            · (first | exact ⟨c1, r0''⟩ | exact ⟨c1a _, r0a _⟩ | exact ⟨d2, d3⟩ | exact ⟨(World.cell?_setCell_far _ ⟨wb, li, none⟩ ⟨sb, 1, none⟩ _ hne1).trans d2, (World.cell?_setCell_far _ ⟨wb, li, none⟩ ⟨rb, 0, none⟩ _ hne2).trans d3⟩)
            clear hK K
            try simp only [Act.put, List.getElem_toArray, List.getElem_cons_succ, List.getElem_cons_zero, List.setIfInBounds_toArray, List.set_cons_zero, List.set_cons_succ]
            rotate_left 1
            try simp only [List.getElem_toArray, List.getElem_cons_succ, List.getElem_cons_zero]
            go_simp
            refine hK.out _ _ ?_ (fun hHeld => ?_)
            · (first | exact ⟨c1, r0''⟩ | exact ⟨c1a _, r0a _⟩ | exact ⟨d2, d3⟩ | exact ⟨(World.cell?_setCell_far _ ⟨wb, li, none⟩ ⟨sb, 1, none⟩ _ hne1).trans d2, (World.cell?_setCell_far _ ⟨wb, li, none⟩ ⟨rb, 0, none⟩ _ hne2).trans d3⟩)
            clear hK K
            try simp only [Act.put, List.getElem_toArray, List.getElem_cons_succ, List.getElem_cons_zero, List.setIfInBounds_toArray, List.set_cons_zero, List.set_cons_succ]
            refine wpAnyH_ready (rs := [11]) (by kernel_rfl) (by simp) ?_
            refine AllReadyH.cons rfl (fun K hK => ?_) AllReadyH.nil
            try simp only [List.getElem_toArray, List.getElem_cons_succ, List.getElem_cons_zero]
            go_simp
            refine hK.out _ _ ?_ (fun hHeld => ?_)
            · (first | exact ⟨c1, r0''⟩ | exact ⟨c1a _, r0a _⟩ | exact ⟨d2, d3⟩ | exact ⟨(World.cell?_setCell_far _ ⟨wb, li, none⟩ ⟨sb, 1, none⟩ _ hne1).trans d2, (World.cell?_setCell_far _ ⟨wb, li, none⟩ ⟨rb, 0, none⟩ _ hne2).trans d3⟩)
            clear hK K
            try simp only [Act.put, List.getElem_toArray, List.getElem_cons_succ, List.getElem_cons_zero, List.setIfInBounds_toArray, List.set_cons_zero, List.set_cons_succ]
            refine wpAnyH_ready (rs := [18]) (by kernel_rfl) (by simp) ?_
            refine AllReadyH.cons rfl (fun K hK => ?_) AllReadyH.nil
            refine step_append_here rfl (.tmp 73) (.tmp 79) 272 rfl 0 274 i0 _ 2 16 Tryz.underlying272 hi0 hz0 hz1 hz2 rfl (by decide) (.slice ta wl tc) wl (watC A (s.wat li)) (by rfl) (by exact World.ownsRow.alloc OW.out _) ⟨w2.heap.size, 0, none⟩ 1 1 [.pointer (some ⟨cb, 0, none⟩), .int .i32 (m0 : Int)] (by rfl) rfl (cell_two1 _ _ _ _) (by simp [Value.oneCell']) (by unfold maxLen; omega) (by omega) (by simp) ?_; intro v8 w8 hown8 hgrow8 hloc8; obtain ⟨d1, g1, ⟨b8, k8, hv8⟩, hoth, A', ST, hsame⟩ := HT.out w8 _ v8 hown8 hgrow8 hloc8; subst hv8; have d2 : w8.cell? ⟨sb, 1, none⟩ = some (.slice (some ⟨wb, 0, none⟩) (2 * s.n + 2) (2 * s.n + 2)) := (World.cell?_of_block (a := ⟨sb, 1, none⟩) (hoth .search sb (by intro e; cases e) hsb)).trans c1; have d3 : w8.cell? ⟨rb, 0, none⟩ = some (.int .i32 (m0 : Int)) := (World.cell?_of_block (a := ⟨rb, 0, none⟩) (hoth (.crow c) rb (by intro e; cases e) hrb)).trans r0''; have HF : Hid (_ ∧ _) := And.intro ST hsame; clear ST hsame hoth hown8 hgrow8 hloc8
            refine hK.out _ _ ?_ (fun hHeld => ?_)
            · (first | exact ⟨c1, r0''⟩ | exact ⟨c1a _, r0a _⟩ | exact ⟨d2, d3⟩ | exact ⟨(World.cell?_setCell_far _ ⟨wb, li, none⟩ ⟨sb, 1, none⟩ _ hne1).trans d2, (World.cell?_setCell_far _ ⟨wb, li, none⟩ ⟨rb, 0, none⟩ _ hne2).trans d3⟩)
            clear hK K
            try simp only [Act.put, List.getElem_toArray, List.getElem_cons_succ, List.getElem_cons_zero, List.setIfInBounds_toArray, List.set_cons_zero, List.set_cons_succ]
            refine wpAnyH_take (i := 19) (oi := _) (v := ?_) rfl (by kernel_rfl) (by kernel_rfl) (by kernel_rfl) (fun _ _ _ h => h) (Or.inl ⟨by rfl, ?_⟩) (by assumption) ?_
            rotate_left 1
            · intro w hSw; (try dsimp only at hSw); go_simp; (try with_reducible rfl)
            try simp only [Act.put, List.getElem_toArray, List.getElem_cons_succ, List.getElem_cons_zero, List.setIfInBounds_toArray, List.set_cons_zero, List.set_cons_succ]
            refine wpAnyH_ready (rs := [20]) (by kernel_rfl) (by simp) ?_
            refine AllReadyH.cons rfl (fun K hK => ?_) AllReadyH.nil
            try simp only [List.getElem_toArray, List.getElem_cons_succ, List.getElem_cons_zero]
            go_simp
            refine hK.out _ _ ?_ (fun hHeld => ?_)
            · (first | exact ⟨c1, r0''⟩ | exact ⟨c1a _, r0a _⟩ | exact ⟨d2, d3⟩ | exact ⟨(World.cell?_setCell_far _ ⟨wb, li, none⟩ ⟨sb, 1, none⟩ _ hne1).trans d2, (World.cell?_setCell_far _ ⟨wb, li, none⟩ ⟨rb, 0, none⟩ _ hne2).trans d3⟩)
            clear hK K
            try simp only [Act.put, List.getElem_toArray, List.getElem_cons_succ, List.getElem_cons_zero, List.setIfInBounds_toArray, List.set_cons_zero, List.set_cons_succ]
            rotate_left 1
            all_goals refine wpAnyH_done (by kernel_rfl) (NoPanic.normal ?_) _
            all_goals
              try simp only [Act.put, List.getElem_toArray, List.getElem_cons_succ, List.getElem_cons_zero, List.setIfInBounds_toArray, List.set_cons_succ, List.set_cons_zero]
              go_wp2_with fail
              refine ⟨rfl, .bool true, by simp [results, Tryz.results241], ?_⟩
              rw [HE.out]
              exact ⟨rfl, A', HS3.out.trans HF.out.1, fun r hr => HF.out.2 r (hr li HNV.out)⟩
        · have di : decide ((i : Int) < (len : Int)) = false := decide_eq_false (by omega)
          have hnone : s1.free rest 2 = none := by rw [← HI.out, List.drop_of_length_le (by simp; omega)]; rfl
          have e9 := HMV2.out
          rw [hnone] at e9
          have HR : Hid _ := e9
          clear e9 HMV2 VV hnone HI
          go_wp2_with fail
          go_ret
          rw [HR.out]
          exact ⟨rfl, A, HS1.out.trans (Step.drew HM1.out _), fun _ _ => ⟨rfl, rfl⟩⟩
end Go.Proofs.YtlehlgipbhfioaaGreat
