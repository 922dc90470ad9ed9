/- Package sat: watch. -/
import Derived.Test.YtlehlgipbhfioaaGreatP04
import Derived.Test.YtlehlgipbhfioaaGreatFindC
import Derived.Deep.RegionLaw
import Derived.WideShapes
namespace Go.Proofs.YtlehlgipbhfioaaGreat
open Go.RowKit Go.Maps

/-- What append leaves of a literal's watches. -/
theorem winGrow {W : World} {A : Ad} {s : Sv} (h : Mem W A s) {wb : Nat} (hwb : A.blk .wout = some wb) (l : Nat) (hl : l < 2 * s.n + 2) (c o : Nat) :
    ∃ ta tc, W.cell? ⟨wb, l, none⟩ = some (.slice ta (s.wat l).length tc) ∧ W.frozen? ⟨wb, l, none⟩ = false ∧ W.ownsRow 0 274 2 (.slice ta (s.wat l).length tc) (s.wat l).length (watC A (s.wat l)) ∧
      ∀ (w8 : World) (O : Obj) (v8 : Value), w8.ownsRow 0 274 2 v8 ((s.wat l).length + 1) (watC A (s.wat l) ++ [A.ptr (.clause c), i32 o]) → (W.alloc O).grownBy w8 (Value.slice ta (s.wat l).length tc).ownBlock → (v8.ownBlock = (Value.slice ta (s.wat l).length tc).ownBlock ∨ ∀ k, v8.ownBlock = some k → (W.alloc O).heap.size ≤ k) →
        w8.cell? ⟨wb, l, none⟩ = some (.slice ta (s.wat l).length tc) ∧ w8.frozen? ⟨wb, l, none⟩ = false ∧ (∃ b k, v8 = .slice (some ⟨b, 0, none⟩) ((s.wat l).length + 1) k) ∧ (∀ r b', r ≠ .win l → A.blk r = some b' → w8.heap[b']? = W.heap[b']?) ∧ ∃ A', Step W (w8.setCell ⟨wb, l, none⟩ v8) A A' (s.addW l c o) ∧ ∀ r, r ≠ .win l → A'.blk r = A.blk r ∧ A'.sp r = A.sp r := by
  obtain ⟨ta, tc, hts⟩ := slv_form h (r := .win l) rfl
  have hlw : l < s.ws.length := by rw [h.lw]; exact hl
  have hcc : (cellsR A s .wout)[l]? = some (.slice ta (s.wat l).length tc) := by
    have e : s.ws[l]? = some (s.wat l) := by unfold Sv.wat; rw [List.getElem?_eq_getElem hlw]; rfl
    show (s.ws.mapIdx _)[l]? = _
    rw [List.getElem?_mapIdx, e]
    exact congrArg some hts
  have c1 := h.cell hwb hcc
  have f1 := h.frozen hwb l
  have ow := h.owns (r := .win l) rfl
  refine ⟨ta, tc, c1, f1, hts ▸ ow, fun w8 O v8 h1 h2 h3 => ?_⟩
  rw [← show A.slv (.win l) (lenR s (.win l)) (sizR (.win l)) = .slice ta (s.wat l).length tc from hts] at h2 h3
  obtain ⟨b, sp, e1, e2, e3, e4, e5, e6⟩ := h.grown (r := .win l) rfl (news := [A.ptr (.clause c), i32 o]) h1 h2 h3
  have hs := (e6 .wout wb (by intro e; cases e) hwb)
  have P := h.pushWin hwb l c o hl e1 e2 e3 e4 e6
  refine ⟨(World.cell?_of_block (a := ⟨wb, l, none⟩) hs.1).trans c1, (World.frozen?_of_block (a := ⟨wb, l, none⟩) hs.1).trans f1, ⟨b, _, e1⟩, fun r b' hr hb' => (e6 r b' hr hb').1, A.up (.win l) b sp, ⟨P, ?_, fun k hk => ?_⟩, fun r hr => ⟨if_neg hr, if_neg hr⟩⟩
  · have K : Kept A.Foot W w8 := Kept.grown ((Kept.refl _ W).alloc O) h2 (fun k hk => ⟨.win l, by
      have : (A.slv (.win l) (lenR s (.win l)) (sizR (.win l))).ownBlock = A.blk (.win l) := by unfold Ad.slv; cases A.blk (.win l) <;> rfl
      rw [← this]; exact hk⟩)
    exact K.setCell (p := ⟨wb, l, none⟩) ⟨_, hwb⟩ _
  · obtain ⟨r, hr⟩ := hk
    by_cases er : r = .win l
    · subst er
      have : k = b := by simpa [Ad.up] using hr.symm
      subst this
      rcases e5 with e5 | e5
      · exact Or.inl ⟨_, e5⟩
      · exact Or.inr e5
    · exact Or.inl ⟨r, by simpa [Ad.up, er] using hr⟩

theorem cell_two1 (w : World) (a b : Value) (ty : TypeId) : ∀ j u, [a, b][j]? = some u → (w.alloc (.cells #[a, b] ty)).cell? ((⟨w.heap.size, 0, none⟩ : Addr).add j) = some u := by
  intro j u hj
  have h := World.alloc_heap_new w (Obj.cells #[a, b] ty)
  have e := Go.WideShapes.add_plain w.heap.size 0 j
  rw [Nat.zero_add] at e
  rw [e]
  unfold World.cell?
  simp only [h]
  simpa using hj
theorem infoWatch : (Tryz.prog.info? 274).map (fun i => (i.zero, i.size, i.bytes)) = some (some (.agg #[.pointer none, .int .i32 0]), 2, 16) := by kernel_rfl

set_option maxRecDepth 100000 in
set_option maxHeartbeats 2000000 in
theorem watch_in (w : World) (A : Ad) (s : Sv) (h : Mem w A s) (sb : Nat) (hsb : A.blk .search = some sb) (c : Nat) (cb : Nat) (hcb : A.blk (.clause c) = some cb) (a b : Nat) (rest : List Nat) (hlits : s.lits c = a :: b :: rest) (ha : a < 2 * s.n + 2) (hb : b < 2 * s.n + 2) (hab : a ≠ b) (hlim : ∀ l, (s.wat l).length ≤ 4398046511100) :
    Calls Tryz.prog 125 #[.pointer (some ⟨sb, 0, none⟩), .pointer (some ⟨cb, 0, none⟩)] w fun e w' => e = .returned (.tuple #[]) ∧ ∃ A', Step w w' A A' (s.watch c) ∧ ∀ r, r ≠ .win a → r ≠ .win b → A'.blk r = A.blk r ∧ A'.sp r = A.sp r := by
  obtain ⟨wb, hwb⟩ := h.fix .wout rfl
  have hc : c < s.cl.length := (h.cls c).1 ⟨_, hcb⟩
  obtain ⟨rb, hrb⟩ := (h.rows c).2 hc
  have c1 := h.cell hsb (i := 1) rfl
  simp only [Ad.slv, hwb, h.flat.2.1, List.length_nil, Nat.zero_div, Nat.add_zero] at c1
  have k0 := h.cell hcb (i := 0) rfl
  simp only [Ad.slv, hrb, hlits, List.length_cons] at k0
  have r0 := h.cell hrb (i := 0) (v := i32 a) (by simp [cellsR, hlits])
  have r1 := h.cell hrb (i := 1) (v := i32 b) (by simp [cellsR, hlits])
  unfold i32 at r0 r1
  have hsm := h.small
  have HM : Hid (Mem w A s) := h
  have hi1 : (0 : Int) < (rest.length : Int) + 1 + 1 := by omega
  have hi2 : (1 : Int) < (rest.length : Int) + 1 + 1 := by omega
  clear h
  go_enter Tryz.func125, Tryz.ntmps125
  go_wp2_with fail
  go_quiet (fail)
  have M1 : Mem (w.drewN (nq + 1)) A s := HM.out.keep (fun _ _ => rfl)
  have S1 : Hid (Step w (w.drewN (nq + 1)) A A s) := Step.drew HM.out (nq + 1)
  have zw : wb < w.heap.size := HM.out.lt hwb
  have zs : sb < w.heap.size := HM.out.lt hsb
  clear HM r0 r1 k0
  obtain ⟨ta, tc, t1', t2', t3, t4⟩ := winGrow M1 hwb a ha c b
  have t1 : w.cell? ⟨wb, a, none⟩ = some (.slice ta (s.wat a).length tc) := t1'
  have t2 : w.frozen? ⟨wb, a, none⟩ = false := t2'
  have t1a : ∀ O, ((w.drewN (nq + 1)).alloc O).cell? ⟨wb, a, none⟩ = some (.slice ta (s.wat a).length tc) := fun O => (World.cell?_of_block (a := ⟨wb, a, none⟩) (Below.heap_alloc _ O wb zw)).trans t1'
  have c1a : ∀ O, ((w.drewN (nq + 1)).alloc O).cell? ⟨sb, 1, none⟩ = some (.slice (some ⟨wb, 0, none⟩) (2 * s.n + 2) (2 * s.n + 2)) := fun O => (World.cell?_of_block (a := ⟨sb, 1, none⟩) (Below.heap_alloc _ O sb zs)).trans c1
  clear t1' t2'
  have HT : Hid _ := t4
  have OW : Hid _ := t3
  have da : (a : Int) < 2 * (s.n : Int) + 2 := by omega
  obtain ⟨i0, hi0, hz0, hz1, hz2⟩ := info_parts infoWatch
  have hcp : A.ptr (.clause c) = .pointer (some ⟨cb, 0, none⟩) := by simp [Ad.ptr, hcb]
  rw [hcp] at HT
  clear t4 t3 M1
  generalize hwl : (s.wat a).length = wl at *
  have hwm : wl ≤ 4398046511100 := hwl ▸ hlim a
  go_wp2_with fail
  go_cut [18] from 19 to 35 (fun _ wx => ∃ A', Step w wx A A' (s.addW a c b) ∧ ∀ r, r ≠ .win a → A'.blk r = A.blk r ∧ A'.sp r = A.sp r)
  case first =>
    go_region_law (first | (refine step_append_here rfl (.tmp 29) (.tmp 33) 272 rfl 0 274 i0 _ 2 16 Tryz.underlying272 hi0 hz0 hz1 hz2 rfl (by decide) (.slice ta wl tc) wl (watC A (s.wat a)) (by rfl) (by exact World.ownsRow.alloc OW.out _) ⟨w.heap.size, 0, none⟩ 1 1 [.pointer (some ⟨cb, 0, none⟩), .int .i32 (b : Int)] (by rfl) rfl (cell_two1 _ _ _ _) (by simp [Value.oneCell']) (by unfold maxLen; omega) (by omega) (by simp) ?_; intro v8 w8 hown8 hgrow8 hloc8; obtain ⟨d1, g1, ⟨b8, k8, hv8⟩, hoth, A', ST, hsame⟩ := HT.out w8 _ v8 hown8 hgrow8 hloc8; subst hv8; have d2 : w8.cell? ⟨sb, 1, none⟩ = some (.slice (some ⟨wb, 0, none⟩) (2 * s.n + 2) (2 * s.n + 2)) := (World.cell?_of_block (a := ⟨sb, 1, none⟩) (hoth .search sb (by intro e; cases e) hsb)).trans c1; have HF : Hid (_ ∧ _) := And.intro ST hsame; clear ST hsame hoth hown8 hgrow8 hloc8))
    all_goals
      try simp only [Act.put, List.getElem_toArray, List.getElem_cons_succ, List.getElem_cons_zero, List.setIfInBounds_toArray, List.set_cons_succ, List.set_cons_zero]
      go_wp2_with fail
      go_meet
      case rel => exact ⟨A', S1.out.trans HF.out.1, HF.out.2⟩
  case rest =>
    obtain ⟨A1, S2, hA1⟩ := hcut
    clear HT OW t1 t2 t1a c1a c1 zw zs hcp hwl hwm S1
    have hs1 : A1.blk .search = some sb := (hA1 .search (by intro e; cases e)).1.trans hsb
    have hw1 : A1.blk .wout = some wb := (hA1 .wout (by intro e; cases e)).1.trans hwb
    have hc1 : A1.blk (.clause c) = some cb := (hA1 (.clause c) (by intro e; cases e)).1.trans hcb
    have M0 : Mem wc A1 (s.addW a c b) := S2.mem
    have hn1 : (s.addW a c b).n = s.n := rfl
    have hwb1 : (s.addW a c b).wat b = s.wat b := by
      rw [wat_addW (by rw [← show (s.addW a c b).ws.length = s.ws.length by simp [Sv.addW], M0.lw, hn1]; exact ha), if_neg (fun e => hab e.symm)]
    have c1 := M0.cell hs1 (i := 1) rfl
    simp only [Ad.slv, hw1, M0.flat.2.1, List.length_nil, Nat.zero_div, Nat.add_zero, hn1] at c1
    have M1 : Mem (wc.drewN 1) A1 (s.addW a c b) := M0.keep (fun _ _ => rfl)
    have S3 : Hid (Step w (wc.drewN 1) A A1 (s.addW a c b)) := S2.trans (Step.drew M0 1)
    have zw : wb < wc.heap.size := M0.lt hw1
    have zs : sb < wc.heap.size := M0.lt hs1
    obtain ⟨ta', tc', t1', t2', t3, t4⟩ := winGrow M1 hw1 b hb c a
    rw [hwb1] at t1' t3 t4
    have t1 : wc.cell? ⟨wb, b, none⟩ = some (.slice ta' (s.wat b).length tc') := t1'
    have t2 : wc.frozen? ⟨wb, b, none⟩ = false := t2'
    have t1a : ∀ O, ((wc.drewN 1).alloc O).cell? ⟨wb, b, none⟩ = some (.slice ta' (s.wat b).length tc') := fun O => (World.cell?_of_block (a := ⟨wb, b, none⟩) (Below.heap_alloc _ O wb zw)).trans t1'
    have c1a : ∀ O, ((wc.drewN 1).alloc O).cell? ⟨sb, 1, none⟩ = some (.slice (some ⟨wb, 0, none⟩) (2 * s.n + 2) (2 * s.n + 2)) := fun O => (World.cell?_of_block (a := ⟨sb, 1, none⟩) (Below.heap_alloc _ O sb zs)).trans c1
    have hcp : A1.ptr (.clause c) = .pointer (some ⟨cb, 0, none⟩) := by simp [Ad.ptr, hc1]
    rw [hcp] at t4
    have HT : Hid _ := t4
    have OW : Hid _ := t3
    have db : (b : Int) < 2 * (s.n : Int) + 2 := by omega
    have HA1 : Hid _ := hA1
    clear t1' t2' t3 t4 M0 M1 S2 hA1 hwb1
    obtain ⟨w1, rfl⟩ : ∃ w1, w1 = wc := ⟨_, rfl⟩
    generalize hwl : (s.wat b).length = wl' at *
    have hwm : wl' ≤ 4398046511100 := hwl ▸ hlim b
    apply_assumption
    go_wp2_with fail
    go_region_law (first | (refine step_append_here rfl (.tmp 47) (.tmp 51) 272 rfl 0 274 i0 _ 2 16 Tryz.underlying272 hi0 hz0 hz1 hz2 rfl (by decide) (.slice ta' wl' tc') wl' (watC A1 (s.wat b)) (by rfl) (by exact World.ownsRow.alloc OW.out _) ⟨w1.heap.size, 0, none⟩ 1 1 [.pointer (some ⟨cb, 0, none⟩), .int .i32 (a : Int)] (by rfl) rfl (cell_two1 _ _ _ _) (by simp [Value.oneCell']) (by unfold maxLen; omega) (by omega) (by simp) ?_; intro v8 w8 hown8 hgrow8 hloc8; obtain ⟨d1, g1, ⟨b8, k8, hv8⟩, hoth, A', ST, hsame⟩ := HT.out w8 _ v8 hown8 hgrow8 hloc8; subst hv8; have d2 : w8.cell? ⟨sb, 1, none⟩ = some (.slice (some ⟨wb, 0, none⟩) (2 * s.n + 2) (2 * s.n + 2)) := (World.cell?_of_block (a := ⟨sb, 1, none⟩) (hoth .search sb (by intro e; cases e) hs1)).trans c1; have HF : Hid (_ ∧ _) := And.intro ST hsame; clear ST hsame hoth hown8 hgrow8 hloc8))
    all_goals
      try simp only [Act.put, List.getElem_toArray, List.getElem_cons_succ, List.getElem_cons_zero, List.setIfInBounds_toArray, List.set_cons_succ, List.set_cons_zero]
      go_wp2_with fail
      refine ⟨rfl, .tuple #[], by simp [results, Tryz.results125], rfl, A', ?_, fun r h1 h2 => ⟨(HF.out.2 r h2).1.trans (HA1.out r h1).1, (HF.out.2 r h2).2.trans (HA1.out r h1).2⟩⟩
      have : s.watch c = (s.addW a c b).addW b c a := by unfold Sv.watch; rw [hlits]; rfl
      rw [this]
      exact S3.out.trans HF.out.1

end Go.Proofs.YtlehlgipbhfioaaGreat
