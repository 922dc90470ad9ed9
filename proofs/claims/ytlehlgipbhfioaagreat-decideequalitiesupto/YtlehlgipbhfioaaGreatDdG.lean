/- Package decide: link. -/
import Derived.Test.YtlehlgipbhfioaaGreatP39
namespace Go.Proofs.YtlehlgipbhfioaaGreat
open Go.RowKit Go.Maps

theorem below_ad (w : World) (O : Obj) : Below w.heap.size w (w.alloc O).drew := ⟨rfl, rfl, rfl, by simp, fun _ hk => heap_alloc_old w O hk⟩

set_option maxRecDepth 100000 in
set_option maxHeartbeats 1000000 in
theorem link_in (w : World) (B pb sp nb kb : Nat) (tv dv jv : Value) (n : Nat) (g : Uf.G) (t : List Uf.Rec) (L : List (List Nat)) (lv : Nat → Value) (h : LkM w B pb sp nb kb tv dv jv n g t L lv) (a b : Nat) (ha : a < n) (hb : b < n) (hlen : ∀ r ∈ L, r.length ≤ 1048576) :
    Calls Tryz.prog 138 #[.pointer (some ⟨pb, 0, none⟩), .int .i64 (a : Int), .int .i64 (b : Int)] w fun e w' => e = .returned (.bool (Pf.link n ⟨g, L⟩ a b).1) ∧ ∃ jv' lv', LkM w' B pb sp nb kb tv dv jv' n (Pf.link n ⟨g, L⟩ a b).2.g (joinT n g t a b) (Pf.link n ⟨g, L⟩ a b).2.L lv' ∧ Below B w w' ∧ MapsStay w w' := by
  have x0 : w.cell? ⟨pb, 0, none⟩ = some (.pointer (some ⟨sp, 0, none⟩)) := h.cells.cell (i := 0) (by omega)
  have J := Join_st w B sp nb jv n g t h.sets a b
  have hn := h.sets.lies.small
  have HM : Hid _ := h
  cases hj : joins n g a b
  · rw [hj] at J
    have e1 : Pf.link n ⟨g, L⟩ a b = (false, ⟨g, L⟩) := by simp [Pf.link, hj]
    have e2 : joinG n g a b = g := by simp [joinG, hj]
    rw [e1]
    rw [e2] at J
    clear h hj e1 e2
    go_enter Tryz.func138, Tryz.ntmps138
    go_wp2_with (first | (go_at_call 71; refine J.mono ?_; rintro e w3 ⟨rfl, jv', hS, hK, _⟩; have HF : Hid (_ ∧ _ ∧ _) := HM.out.join hK hS))
    go_ret
    exact ⟨rfl, jv', lv, HF.out.1, HF.out.2⟩
  · rw [hj] at J
    have e1 : Pf.link n ⟨g, L⟩ a b = (true, ⟨joinG n g a b, addAt (addAt L a b) b a⟩) := by simp [Pf.link, hj]
    rw [e1]
    have hLl := h.len
    clear h hj e1
    go_enter Tryz.func138, Tryz.ntmps138
    go_wp2_with (first | (go_at_call 71; refine J.mono ?_; rintro e w3 ⟨rfl, jv', hS, hK, _⟩; refine Aside.out ?_))
    delta Aside
    obtain ⟨M3, B3⟩ := HM.out.join hK hS
    generalize htt : joinT n g t a b = t' at *
    have HTT : Hid _ := htt
    clear htt
    generalize hgg : joinG n g a b = g' at *
    have HGG : Hid _ := hgg
    clear hgg
    have HB3 : Hid _ := B3
    have HM3 : Hid _ := M3
    obtain ⟨i0, hi0, hz0, hz1, hz2⟩ := info_parts infoIntq
    have c3 : w3.cell? ⟨pb, 3, none⟩ = some (.slice (some ⟨kb, 0, none⟩) n n) := by simpa [pfC] using M3.cells.cell (i := 3) (by omega)
    obtain ⟨la, lc, hla⟩ := ownsRow_form (M3.rows a ha)
    have ca : w3.cell? ⟨kb, a, none⟩ = some (.slice la (L[a]?.getD []).length lc) := by rw [← hla]; exact M3.outer.cell ha
    have hbl : w3.heap.size = w3.heap.size := rfl
    have zp := M3.cells.lt
    have zk := M3.outer.lt
    have c3a : ∀ O, ((w3.drewN 1).alloc O).cell? ⟨pb, 3, none⟩ = some (.slice (some ⟨kb, 0, none⟩) n n) := fun O => (World.cell?_of_block (a := ⟨pb, 3, none⟩) (Below.heap_alloc _ O pb zp)).trans c3
    have caa : ∀ O, ((w3.drewN 1).alloc O).cell? ⟨kb, a, none⟩ = some (.slice la (L[a]?.getD []).length lc) := fun O => (World.cell?_of_block (a := ⟨kb, a, none⟩) (Below.heap_alloc _ O kb zk)).trans ca
    have hrl : (L[a]?.getD []).length ≤ 1048576 := by
      rw [List.getElem?_eq_getElem (by rw [hLl]; exact ha), Option.getD_some]
      exact hlen _ (List.getElem_mem _)
    have OW : Hid (w3.ownsRow B 3 1 (.slice la (L[a]?.getD []).length lc) (L[a]?.getD []).length ((L[a]?.getD []).map i64)) := by show _; rw [← hla]; exact M3.rows a ha
    have HLA : Hid _ := hla
    have hB0 : B ≤ w3.heap.size := M3.sets.low
    have da : decide ((a : Int) < (n : Int)) = true := decide_eq_true (by omega)
    have db : decide ((b : Int) < (n : Int)) = true := decide_eq_true (by omega)
    have HLEN : Hid _ := hlen
    generalize hwl : (L[a]?.getD []).length = wl at *
    have HWL : Hid _ := hwl
    clear J hS hK M3 B3 HM hla hwl hlen
    apply_assumption
    go_wp2_with fail
    go_cut [15] from 16 to 30 (fun _ wx => ∃ lv', LkM wx B pb sp nb kb tv dv jv' n g' t' (addAt L a b) lv' ∧ Below B w wx ∧ MapsStay w wx)
    case first =>
      go_region_law (first | (refine step_append_here rfl (.tmp 26) (.tmp 28) 39 rfl B 3 i0 _ 1 8 Tryz.underlying39 hi0 hz0 hz1 hz2 rfl (by decide) (.slice la wl lc) wl ((L[a]?.getD []).map i64) (by rfl) (by exact World.ownsRow.alloc OW.out _) ⟨w3.heap.size, 0, none⟩ 1 1 [.int .i64 (b : Int)] (by rfl) rfl (cell_one1 _ _ _) (by simp [Value.oneCell']) (by unfold maxLen; omega) (by omega) (by simp; omega) ?_; intro v8 w8 hown8 hgrow8 hloc8; obtain ⟨b8, k8, hv8⟩ := ownsRow_succ hown8; obtain ⟨d1, d2, d3, d4, d5⟩ := HM3.out.grow ha (W1 := (w3.alloc (.cells #[.int .i64 (b : Int)] 3)).drew) (below_ad w3 _) (x := b) (by rw [HWL.out]; exact hown8) (by rw [HLA.out]; exact hgrow8) (by rw [HLA.out]; exact hloc8); rw [HLA.out] at d1; have HF : Hid (_ ∧ _) := And.intro d4 d5; subst hv8; clear hown8 hgrow8 hloc8 d4 d5))
      all_goals
        try simp only [Act.put, List.getElem_toArray, List.getElem_cons_succ, List.getElem_cons_zero, List.setIfInBounds_toArray, List.set_cons_succ, List.set_cons_zero]
        go_wp2_with fail
        go_meet
        case rel => exact ⟨_, HF.out.1, HB3.out.1.trans HF.out.2.1, HB3.out.2.trans HF.out.2.2⟩
    case rest =>
      obtain ⟨lv3, M3, B3⟩ := hcut
      clear OW ca caa c3a c3 zp zk HLA HWL hrl hB0 HM3 HB3
      have HB3 : Hid _ := B3
      have HM3 : Hid _ := M3
      have hL2 : (addAt L a b).length = n := M3.len
      have c3 : wc.cell? ⟨pb, 3, none⟩ = some (.slice (some ⟨kb, 0, none⟩) n n) := by simpa [pfC] using M3.cells.cell (i := 3) (by omega)
      obtain ⟨la', lc', hla⟩ := ownsRow_form (M3.rows b hb)
      have ca : wc.cell? ⟨kb, b, none⟩ = some (.slice la' ((addAt L a b)[b]?.getD []).length lc') := by rw [← hla]; exact M3.outer.cell hb
      have zp := M3.cells.lt
      have zk := M3.outer.lt
      have c3a : ∀ O, ((wc.drewN 1).alloc O).cell? ⟨pb, 3, none⟩ = some (.slice (some ⟨kb, 0, none⟩) n n) := fun O => (World.cell?_of_block (a := ⟨pb, 3, none⟩) (Below.heap_alloc _ O pb zp)).trans c3
      have caa : ∀ O, ((wc.drewN 1).alloc O).cell? ⟨kb, b, none⟩ = some (.slice la' ((addAt L a b)[b]?.getD []).length lc') := fun O => (World.cell?_of_block (a := ⟨kb, b, none⟩) (Below.heap_alloc _ O kb zk)).trans ca
      have hrl : ((addAt L a b)[b]?.getD []).length ≤ 1048577 := by
        rw [addAt_get (by rw [hLl]; exact ha)]
        have h1 : ∀ k, k < n → (L[k]?.getD []).length ≤ 1048576 := fun k hk => by
          rw [List.getElem?_eq_getElem (by rw [hLl]; exact hk), Option.getD_some]
          exact HLEN.out _ (List.getElem_mem _)
        have h2 := h1 a ha
        have h3 := h1 b hb
        split
        · simp; omega
        · omega
      have OW : Hid (wc.ownsRow B 3 1 (.slice la' ((addAt L a b)[b]?.getD []).length lc') ((addAt L a b)[b]?.getD []).length (((addAt L a b)[b]?.getD []).map i64)) := by show _; rw [← hla]; exact M3.rows b hb
      have HLA : Hid _ := hla
      have hB0 : B ≤ wc.heap.size := M3.sets.low
      generalize hwl : ((addAt L a b)[b]?.getD []).length = wl2 at *
      have HWL : Hid _ := hwl
      clear M3 B3 hla hwl
      obtain ⟨w4, rfl⟩ : ∃ w4, w4 = wc := ⟨_, rfl⟩
      go_wp2_with fail
      go_cut [31] from 32 to 46 (fun _ wx => ∃ lv', LkM wx B pb sp nb kb tv dv jv' n g' t' (addAt (addAt L a b) b a) lv' ∧ Below B w wx ∧ MapsStay w wx)
      case first =>
        go_region_law (first | (refine step_append_here rfl (.tmp 42) (.tmp 44) 39 rfl B 3 i0 _ 1 8 Tryz.underlying39 hi0 hz0 hz1 hz2 rfl (by decide) (.slice la' wl2 lc') wl2 (((addAt L a b)[b]?.getD []).map i64) (by rfl) (by exact World.ownsRow.alloc OW.out _) ⟨w4.heap.size, 0, none⟩ 1 1 [.int .i64 (a : Int)] (by rfl) rfl (cell_one1 _ _ _) (by simp [Value.oneCell']) (by unfold maxLen; omega) (by omega) (by simp; omega) ?_; intro v8 w8 hown8 hgrow8 hloc8; obtain ⟨b8, k8, hv8⟩ := ownsRow_succ hown8; obtain ⟨d1, d2, d3, d4, d5⟩ := HM3.out.grow hb (W1 := (w4.alloc (.cells #[.int .i64 (a : Int)] 3)).drew) (below_ad w4 _) (x := a) (by rw [HWL.out]; exact hown8) (by rw [HLA.out]; exact hgrow8) (by rw [HLA.out]; exact hloc8); rw [HLA.out] at d1; have HF : Hid (_ ∧ _) := And.intro d4 d5; subst hv8; clear hown8 hgrow8 hloc8 d4 d5))
        all_goals
          try simp only [Act.put, List.getElem_toArray, List.getElem_cons_succ, List.getElem_cons_zero, List.setIfInBounds_toArray, List.set_cons_succ, List.set_cons_zero]
          go_wp2_with fail
          go_meet
          case rel => exact ⟨_, HF.out.1, HB3.out.1.trans HF.out.2.1, HB3.out.2.trans HF.out.2.2⟩
      case rest =>
        obtain ⟨lv4, M4, B4⟩ := hcut
        have HF : Hid (_ ∧ _) := And.intro M4 B4
        clear M4 B4 HM3 HB3 OW ca caa c3 c3a HLA HWL
        go_wp2_with fail
        go_ret
        have HF1 := HF.out.1
        rw [← HGG.out, ← HTT.out] at HF1
        exact ⟨rfl, _, _, HF1, HF.out.2⟩
end Go.Proofs.YtlehlgipbhfioaaGreat
