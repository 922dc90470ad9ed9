/- Package sat: newOrder. Package sat: newSearch. Package sat: newSearch. -/
import Derived.Test.YtlehlgipbhfioaaGreatP05
namespace Go.Proofs.YtlehlgipbhfioaaGreat
open Go.RowKit Go.Maps

theorem madeCells_one (z : Value) (n : Nat) : madeCells #[z] n = (List.replicate n z).toArray := by
  apply Array.ext
  · simp [madeCells]
  · intro i h1 h2
    simp [madeCells, Nat.mod_one]

theorem infoU64 : (Tryz.prog.info? 268).map (fun i => (i.zero, i.size, i.bytes)) = some (some (.int .u64 0), 1, 8) := by kernel_rfl
theorem infoVar : (Tryz.prog.info? 237).map (fun i => (i.zero, i.size, i.bytes)) = some (some (.int .i32 0), 1, 4) := by kernel_rfl
theorem make_u64s (w : World) (n : Nat) (hn : n ≤ 1048577) : (Instr.makeSlice 267 (.int .i64 (n : Int)) (.int .i64 (n : Int))).run Tryz.prog w = .ok (.slice (some ⟨w.heap.size, 0, none⟩) n n) (w.alloc (.cells (List.replicate n (.int .u64 0)).toArray 268)) := by
  obtain ⟨i0, hi0, hz0, hz1, hz2⟩ := info_parts infoU64
  have hmk := run_make (P := Tryz.prog) w 267 268 i0 _ Tryz.underlying267 hi0 hz0 .i64 .i64 (n : Int) (n : Int) (by omega) (Int.le_refl _) (by rw [hz2]; omega) (by omega)
  rw [hz1] at hmk
  simp only [Int.toNat_natCast, Nat.mul_one] at hmk
  rw [← madeCells_one]
  exact hmk
theorem make_vars (w : World) (n : Nat) (hn : n ≤ 1048577) : (Instr.makeSlice 189 (.int .i64 (n : Int)) (.int .i64 (n : Int))).run Tryz.prog w = .ok (.slice (some ⟨w.heap.size, 0, none⟩) n n) (w.alloc (.cells (List.replicate n (.int .i32 0)).toArray 237)) := by
  obtain ⟨i0, hi0, hz0, hz1, hz2⟩ := info_parts infoVar
  have hmk := run_make (P := Tryz.prog) w 189 237 i0 _ Tryz.underlying189 hi0 hz0 .i64 .i64 (n : Int) (n : Int) (by omega) (Int.le_refl _) (by rw [hz2]; omega) (by omega)
  rw [hz1] at hmk
  simp only [Int.toNat_natCast, Nat.mul_one] at hmk
  rw [← madeCells_one]
  exact hmk
theorem make_intsS (w : World) (n : Nat) (hn : n ≤ 1048577) : (Instr.makeSlice 39 (.int .i64 (n : Int)) (.int .i64 (n : Int))).run Tryz.prog w = .ok (.slice (some ⟨w.heap.size, 0, none⟩) n n) (w.alloc (.cells (List.replicate n (.int .i64 0)).toArray 3)) := by
  obtain ⟨i0, hi0, hz0, hz1, hz2⟩ := info_parts infoIntS
  have hmk := run_make (P := Tryz.prog) w 39 3 i0 _ Tryz.underlying39 hi0 hz0 .i64 .i64 (n : Int) (n : Int) (by omega) (Int.le_refl _) (by rw [hz2]; omega) (by omega)
  rw [hz1] at hmk
  simp only [Int.toNat_natCast, Nat.mul_one] at hmk
  rw [← madeCells_one]
  exact hmk

/-- An order, and what its heap and places hold. -/
structure OrdAt (w W : World) (n ob hb pb cb : Nat) (hs ps : List Value) : Prop where
  o : W.heap[ob]? = some (.cells #[.slice (some ⟨cb, 0, none⟩) (n + 1) (n + 1), .slice (some ⟨hb, 0, none⟩) (n + 1) (n + 1), .slice (some ⟨pb, 0, none⟩) (n + 1) (n + 1), .int .u64 1024] 270)
  h : W.heap[hb]? = some (.cells hs.toArray 237)
  p : W.heap[pb]? = some (.cells ps.toArray 3)
  c : W.heap[cb]? = some (.cells (List.replicate (n + 1) (.int .u64 0)).toArray 268)
  hl : hs.length = n + 1
  pl : ps.length = n + 1
  ne : ob ≠ hb ∧ ob ≠ pb ∧ ob ≠ cb ∧ hb ≠ pb ∧ hb ≠ cb ∧ pb ≠ cb
  new : w.heap.size ≤ ob ∧ w.heap.size ≤ hb ∧ w.heap.size ≤ pb ∧ w.heap.size ≤ cb
  below : Below w.heap.size w W

theorem OrdAt.drew {w W : World} {n ob hb pb cb : Nat} {hs ps : List Value} (h : OrdAt w W n ob hb pb cb hs ps) (m : Nat) : OrdAt w (W.drewN m) n ob hb pb cb hs ps :=
  ⟨h.o, h.h, h.p, h.c, h.hl, h.pl, h.ne, h.new, ⟨h.below.os, h.below.tape, h.below.output, h.below.size, h.below.block⟩⟩

theorem four_blocks (w : World) (O0 O1 O2 O3 : Obj) : ((((w.alloc O0).alloc O1).alloc O2).alloc O3).heap[w.heap.size]? = some O0 ∧ ((((w.alloc O0).alloc O1).alloc O2).alloc O3).heap[w.heap.size + 1]? = some O1 ∧ ((((w.alloc O0).alloc O1).alloc O2).alloc O3).heap[w.heap.size + 1 + 1]? = some O2 ∧ ((((w.alloc O0).alloc O1).alloc O2).alloc O3).heap[w.heap.size + 1 + 1 + 1]? = some O3 ∧ Below w.heap.size w ((((w.alloc O0).alloc O1).alloc O2).alloc O3) := by
  have z0 : (w.alloc O0).heap.size = w.heap.size + 1 := by simp
  have z1 : ((w.alloc O0).alloc O1).heap.size = w.heap.size + 1 + 1 := by simp
  have z2 : (((w.alloc O0).alloc O1).alloc O2).heap.size = w.heap.size + 1 + 1 + 1 := by simp
  refine ⟨?_, ?_, ?_, ?_, (((Below.alloc (Below.alloc ((Below.refl _ _).alloc (Nat.le_refl _) O0) (by omega) O1) (by omega) O2)).alloc (by omega) O3)⟩
  · rw [Below.heap_alloc _ _ _ (by omega), Below.heap_alloc _ _ _ (by omega), Below.heap_alloc _ _ _ (by omega)]
    exact heap_alloc_new w O0
  · rw [Below.heap_alloc _ _ _ (by omega), Below.heap_alloc _ _ _ (by omega), ← z0]
    exact heap_alloc_new _ O1
  · rw [Below.heap_alloc _ _ _ (by omega), ← z1]
    exact heap_alloc_new _ O2
  · rw [← z2]
    exact heap_alloc_new _ O3

theorem range_set (f : Nat → Value) (z : Value) {i m : Nat} (h : i < m) : ((List.range i).map f ++ List.replicate (m - i) z).set i (f i) = (List.range (i + 1)).map f ++ List.replicate (m - (i + 1)) z := by
  have e : m - i = (m - (i + 1)) + 1 := by omega
  rw [List.set_append_right _ _ (by simp), e, List.replicate_succ, List.range_succ, List.map_append]
  simp

/-- A place is filled in. -/
theorem OrdAt.set {w W : World} {n ob hb pb cb : Nat} {hs ps : List Value} (h : OrdAt w W n ob hb pb cb hs ps) (i : Nat) (x y : Value) :
    OrdAt w ((W.setCell ⟨hb, i, none⟩ x).setCell ⟨pb, i, none⟩ y) n ob hb pb cb (hs.set i x) (ps.set i y) := by
  obtain ⟨n1, n2, n3, n4, n5, n6⟩ := h.ne
  refine ⟨?_, ?_, ?_, ?_, by simp [h.hl], by simp [h.pl], h.ne, h.new, ?_⟩
  · rw [Below.heap_setCell _ _ _ _ n2, Below.heap_setCell _ _ _ _ n1]; exact h.o
  · rw [Below.heap_setCell _ _ _ _ n4]
    unfold World.setCell
    simp [Array.getElem?_modify, h.h]
  · have := h.p
    rw [← Below.heap_setCell W ⟨hb, i, none⟩ x pb n4.symm] at this
    generalize W.setCell ⟨hb, i, none⟩ x = W1 at *
    unfold World.setCell
    simp [Array.getElem?_modify, this]
  · rw [Below.heap_setCell _ _ _ _ n6.symm, Below.heap_setCell _ _ _ _ n5.symm]; exact h.c
  · exact (h.below.setCell (p := ⟨hb, i, none⟩) h.new.2.1 _).setCell (p := ⟨pb, i, none⟩) h.new.2.2.1 _

set_option maxRecDepth 100000 in
set_option maxHeartbeats 1000000 in
theorem newOrder_in (w : World) (n : Nat) (hn : n ≤ 2000) :
    Calls Tryz.prog 123 #[.int .i64 (n : Int)] w fun e w' => ∃ ob hb pb cb : Nat, e = .returned (.pointer (some ⟨ob, 0, none⟩)) ∧ OrdAt w w' n ob hb pb cb ((List.range (n + 1)).map i32) ((List.range (n + 1)).map i64) := by
  have hwrap : IntKind.i64.wrap ((n : Int) + 1) = (n : Int) + 1 := by rw [IntKind.wrap_i64]; omega
  have m1 : ∀ W : World, _ := fun W => by
    have q := make_u64s W (n + 1) (by omega)
    rw [show ((n + 1 : Nat) : Int) = (n : Int) + 1 from by simp] at q
    exact q
  have m2 : ∀ W : World, _ := fun W => by
    have q := make_vars W (n + 1) (by omega)
    rw [show ((n + 1 : Nat) : Int) = (n : Int) + 1 from by simp] at q
    exact q
  have m3 : ∀ W : World, _ := fun W => by
    have q := make_intsS W (n + 1) (by omega)
    rw [show ((n + 1 : Nat) : Int) = (n : Int) + 1 from by simp] at q
    exact q
  go_enter Tryz.func123, Tryz.ntmps123
  go_wp2_with fail
  go_cut [3] from 5 to 15 (fun v3 wx => ∃ ob hb pb cb : Nat, v3 = .pointer (some ⟨ob, 0, none⟩) ∧ OrdAt w wx n ob hb pb cb (List.replicate (n + 1) (.int .i32 0)) (List.replicate (n + 1) (.int .i64 0)))
  case first =>
    go_region_law (fail)
    all_goals
      try simp only [Act.put, List.getElem_toArray, List.getElem_cons_succ, List.getElem_cons_zero, List.setIfInBounds_toArray, List.set_cons_succ, List.set_cons_zero]
      go_wp2_with fail
      go_meet
      case rel =>
        refine ⟨_, _, _, _, rfl, OrdAt.drew ⟨(four_blocks w _ _ _ _).2.2.2.1, ?_, ?_, ?_, by simp, by simp, ⟨by omega, by omega, by omega, by omega, by omega, by omega⟩, ⟨by omega, by omega, by omega, by omega⟩, (four_blocks w _ _ _ _).2.2.2.2⟩ 1⟩
        all_goals
          rw [List.toArray_replicate]
          first
          | exact (four_blocks w _ _ _ _).1
          | exact (four_blocks w _ _ _ _).2.1
          | exact (four_blocks w _ _ _ _).2.2.1
  case rest =>
    obtain ⟨ob, hb, pb, cb, rfl, V0⟩ := hcut
    clear m1 m2 m3 hwrap
    have o1 : wc.cell? ⟨ob, 1, none⟩ = some (.slice (some ⟨hb, 0, none⟩) (n + 1) (n + 1)) := by simp [World.cell?, V0.o]
    apply_assumption
    go_wp2_with fail
    go_loopw [21] (fun t21 W => ∃ i : Nat, i ≤ n + 1 ∧ t21 = .int .i64 (i : Int) ∧ OrdAt w W n ob hb pb cb ((List.range i).map i32 ++ List.replicate (n + 1 - i) (.int .i32 0)) ((List.range i).map i64 ++ List.replicate (n + 1 - i) (.int .i64 0))) (fun t21 _ => n + 1 - (intOf t21).toNat)
    case atStart => exact ⟨0, by omega, rfl, V0⟩
    case round =>
      obtain ⟨i, hi, rfl, V1⟩ := hrel
      by_cases hlt : i < n + 1
      · have di : decide ((i : Int) < (n : Int) + 1) = true := decide_eq_true (by omega)
        have hhl : ((List.range i).map i32 ++ List.replicate (n + 1 - i) (Value.int .i32 0)).length = n + 1 := V1.hl
        have hpl : ((List.range i).map i64 ++ List.replicate (n + 1 - i) (Value.int .i64 0)).length = n + 1 := V1.pl
        obtain ⟨v1, q1⟩ : ∃ v, wr.cell? ⟨hb, i, none⟩ = some v := ⟨_, by simp only [World.cell?, V1.h]; rw [List.getElem?_toArray, List.getElem?_eq_getElem (by rw [hhl]; exact hlt)]; rfl⟩
        have f1 : wr.frozen? ⟨hb, i, none⟩ = false := by simp [World.frozen?, V1.h]
        have hbp : hb ≠ pb := V1.ne.2.2.2.1
        have hP1 : (wr.setCell ⟨hb, i, none⟩ (.int .i32 (i : Int))).heap[pb]? = wr.heap[pb]? := Below.heap_setCell _ _ _ _ hbp.symm
        obtain ⟨v2, q2⟩ : ∃ v, (wr.setCell ⟨hb, i, none⟩ (.int .i32 (i : Int))).cell? ⟨pb, i, none⟩ = some v := ⟨_, by simp only [World.cell?, hP1, V1.p]; rw [List.getElem?_toArray, List.getElem?_eq_getElem (by rw [hpl]; exact hlt)]; rfl⟩
        have f2 : (wr.setCell ⟨hb, i, none⟩ (.int .i32 (i : Int))).frozen? ⟨pb, i, none⟩ = false := by simp only [World.frozen?, hP1, V1.p]; simp
        have HST : Hid (∀ W : World, (∀ k, k ≠ hb → k ≠ pb → W.heap[k]? = wr.heap[k]?) → W.cell? ⟨ob, 1, none⟩ = some (.slice (some ⟨hb, 0, none⟩) (n + 1) (n + 1)) ∧ W.cell? ⟨ob, 2, none⟩ = some (.slice (some ⟨pb, 0, none⟩) (n + 1) (n + 1))) := fun W hW => by
          have := hW ob V1.ne.1 V1.ne.2.1
          constructor
          · simp [World.cell?, this, V1.o]
          · simp [World.cell?, this, V1.o]
        have hw32 : IntKind.i32.wrap (i : Int) = (i : Int) := by rw [IntKind.wrap_i32]; omega
        have hwrap : IntKind.i64.wrap ((i : Int) + 1) = (i : Int) + 1 := by rw [IntKind.wrap_i64]; omega
        have dn : (i : Int) < (n : Int) + 1 := by omega
        have HV : Hid _ := V1
        clear V1 V0 o1 hP1
        go_wp2_with fail
        refine wp_region_noPanic ?_
        refine wp_region_held_drew (S := fun W => W.cell? ⟨ob, 1, none⟩ = some (.slice (some ⟨hb, 0, none⟩) (n + 1) (n + 1)) ∧ W.cell? ⟨ob, 2, none⟩ = some (.slice (some ⟨pb, 0, none⟩) (n + 1) (n + 1))) (by kernel_rfl) ?_ (fun hHeld => ?_)
        · (first | exact HST.out _ (fun k h1 h2 => rfl) | exact HST.out _ (fun k h1 h2 => Below.heap_setCell _ _ _ _ h1) | exact HST.out _ (fun k h1 h2 => (Below.heap_setCell _ _ _ _ h2).trans (Below.heap_setCell _ _ _ _ h1)))
        refine wpAnyH_take (i := 0) (oi := _) (v := ?_) rfl (by kernel_rfl) (by kernel_rfl) (by kernel_rfl) (fun _ _ _ h => h) (Or.inl ⟨by rfl, ?_⟩) (by assumption) ?_
        rotate_left 1
        · intro w hSw; (try dsimp only at hSw); go_simp; (try with_reducible rfl)
        try simp only [Act.put, List.getElem_toArray, List.getElem_cons_zero, List.setIfInBounds_toArray, List.set_cons_zero, List.set_cons_succ]
        refine wpAnyH_take (i := 1) (oi := _) (v := ?_) rfl (by kernel_rfl) (by kernel_rfl) (by kernel_rfl) (fun _ _ _ h => h) (Or.inl ⟨by rfl, ?_⟩) (by assumption) ?_
        rotate_left 1
        · intro w hSw; (try dsimp only at hSw); go_simp; (try with_reducible rfl)
        try simp only [Act.put, List.getElem_toArray, List.getElem_cons_succ, List.getElem_cons_zero, List.setIfInBounds_toArray, List.set_cons_zero, List.set_cons_succ]
        refine wpAnyH_take (i := 2) (oi := _) (v := ?_) rfl (by kernel_rfl) (by kernel_rfl) (by kernel_rfl) (fun _ _ _ h => h) (Or.inl ⟨by rfl, ?_⟩) (by assumption) ?_
        rotate_left 1
        · intro w hSw; (try dsimp only at hSw); go_simp; (try with_reducible rfl)
        try simp only [Act.put, List.getElem_toArray, List.getElem_cons_succ, List.getElem_cons_zero, List.setIfInBounds_toArray, List.set_cons_zero, List.set_cons_succ]
        refine wpAnyH_take (i := 3) (oi := _) (v := ?_) rfl (by kernel_rfl) (by kernel_rfl) (by kernel_rfl) (fun _ _ _ h => h) (Or.inl ⟨by rfl, ?_⟩) (by assumption) ?_
        rotate_left 1
        · intro w hSw; (try dsimp only at hSw); go_simp; (try with_reducible rfl)
        try simp only [Act.put, List.getElem_toArray, List.getElem_cons_succ, List.getElem_cons_zero, List.setIfInBounds_toArray, List.set_cons_zero, List.set_cons_succ]
        refine wpAnyH_take (i := 4) (oi := _) (v := ?_) rfl (by kernel_rfl) (by kernel_rfl) (by kernel_rfl) (fun _ _ _ h => h) (Or.inl ⟨by rfl, ?_⟩) (by assumption) ?_
        rotate_left 1
        · intro w hSw; (try dsimp only at hSw); go_simp; (try with_reducible rfl)
        try simp only [Act.put, List.getElem_toArray, List.getElem_cons_succ, List.getElem_cons_zero, List.setIfInBounds_toArray, List.set_cons_zero, List.set_cons_succ]
        refine wpAnyH_take (i := 5) (oi := _) (v := ?_) rfl (by kernel_rfl) (by kernel_rfl) (by kernel_rfl) (fun _ _ _ h => h) (Or.inl ⟨by rfl, ?_⟩) (by assumption) ?_
        rotate_left 1
        · intro w hSw; (try dsimp only at hSw); go_simp; (try with_reducible rfl)
        try simp only [Act.put, List.getElem_toArray, List.getElem_cons_succ, List.getElem_cons_zero, List.setIfInBounds_toArray, List.set_cons_zero, List.set_cons_succ]
        refine wpAnyH_take (i := 6) (oi := _) (v := ?_) rfl (by kernel_rfl) (by kernel_rfl) (by kernel_rfl) (fun _ _ _ h => h) (Or.inl ⟨by rfl, ?_⟩) (by assumption) ?_
        rotate_left 1
        · intro w hSw; (try dsimp only at hSw); go_simp; (try with_reducible rfl)
        try simp only [Act.put, List.getElem_toArray, List.getElem_cons_succ, List.getElem_cons_zero, List.setIfInBounds_toArray, List.set_cons_zero, List.set_cons_succ]
        refine wpAnyH_take (i := 7) (oi := _) (v := ?_) rfl (by kernel_rfl) (by kernel_rfl) (by kernel_rfl) (fun _ _ _ h => h) (Or.inl ⟨by rfl, ?_⟩) (by assumption) ?_
        rotate_left 1
        · intro w hSw; (try dsimp only at hSw); go_simp; (try with_reducible rfl)
        try simp only [Act.put, List.getElem_toArray, List.getElem_cons_succ, List.getElem_cons_zero, List.setIfInBounds_toArray, List.set_cons_zero, List.set_cons_succ]
        refine wpAnyH_take (i := 8) (oi := _) (v := ?_) rfl (by kernel_rfl) (by kernel_rfl) (by kernel_rfl) (fun _ _ _ h => h) (Or.inl ⟨by rfl, ?_⟩) (by assumption) ?_
        rotate_left 1
        · intro w hSw; (try dsimp only at hSw); go_simp; (try with_reducible rfl)
        try simp only [Act.put, List.getElem_toArray, List.getElem_cons_succ, List.getElem_cons_zero, List.setIfInBounds_toArray, List.set_cons_zero, List.set_cons_succ]
        refine wpAnyH_take (i := 9) (oi := _) (v := ?_) rfl (by kernel_rfl) (by kernel_rfl) (by kernel_rfl) (fun _ _ _ h => h) (Or.inl ⟨by rfl, ?_⟩) (by assumption) ?_
        rotate_left 1
        · intro w hSw; (try dsimp only at hSw); go_simp; (try with_reducible rfl)
        try simp only [Act.put, List.getElem_toArray, List.getElem_cons_succ, List.getElem_cons_zero, List.setIfInBounds_toArray, List.set_cons_zero, List.set_cons_succ]
        refine wpAnyH_take (i := 10) (oi := _) (v := ?_) rfl (by kernel_rfl) (by kernel_rfl) (by kernel_rfl) (fun _ _ _ h => h) (Or.inl ⟨by rfl, ?_⟩) (by assumption) ?_
        rotate_left 1
        · intro w hSw; (try dsimp only at hSw); go_simp; (try with_reducible rfl)
        try simp only [Act.put, List.getElem_toArray, List.getElem_cons_succ, List.getElem_cons_zero, List.setIfInBounds_toArray, List.set_cons_zero, List.set_cons_succ]
        refine wpAnyH_take (i := 11) (oi := _) (v := ?_) rfl (by kernel_rfl) (by kernel_rfl) (by kernel_rfl) (fun _ _ _ h => h) (Or.inl ⟨by rfl, ?_⟩) (by assumption) ?_
        rotate_left 1
        · intro w hSw; (try dsimp only at hSw); go_simp; (try with_reducible rfl)
        try simp only [Act.put, List.getElem_toArray, List.getElem_cons_succ, List.getElem_cons_zero, List.setIfInBounds_toArray, List.set_cons_zero, List.set_cons_succ]
        refine wpAnyH_take (i := 12) (oi := _) (v := ?_) rfl (by kernel_rfl) (by kernel_rfl) (by kernel_rfl) (fun _ _ _ h => h) (Or.inl ⟨by rfl, ?_⟩) (by assumption) ?_
        rotate_left 1
        · intro w hSw; (try dsimp only at hSw); go_simp; (try with_reducible rfl)
        try simp only [Act.put, List.getElem_toArray, List.getElem_cons_succ, List.getElem_cons_zero, List.setIfInBounds_toArray, List.set_cons_zero, List.set_cons_succ]
        refine wpAnyH_take (i := 13) (oi := _) (v := ?_) rfl (by kernel_rfl) (by kernel_rfl) (by kernel_rfl) (fun _ _ _ h => h) (Or.inl ⟨by rfl, ?_⟩) (by assumption) ?_
        rotate_left 1
        · intro w hSw; (try dsimp only at hSw); go_simp; (try with_reducible rfl)
        try simp only [Act.put, List.getElem_toArray, List.getElem_cons_succ, List.getElem_cons_zero, List.setIfInBounds_toArray, List.set_cons_zero, List.set_cons_succ]
        refine wpAnyH_ready (rs := [14]) (by kernel_rfl) (by simp) ?_
        refine AllReadyH.cons rfl (fun K hK => ?_) AllReadyH.nil
        try simp only [List.getElem_toArray, List.getElem_cons_succ, List.getElem_cons_zero]
        go_simp
        refine hK.out _ _ ?_ (fun hHeld => ?_)
        · (first | exact HST.out _ (fun k h1 h2 => rfl) | exact HST.out _ (fun k h1 h2 => Below.heap_setCell _ _ _ _ h1) | exact HST.out _ (fun k h1 h2 => (Below.heap_setCell _ _ _ _ h2).trans (Below.heap_setCell _ _ _ _ h1)))
        clear hK K
        try simp only [Act.put, List.getElem_toArray, List.getElem_cons_succ, List.getElem_cons_zero, List.setIfInBounds_toArray, List.set_cons_zero, List.set_cons_succ]
        refine wpAnyH_take (i := 15) (oi := _) (v := ?_) rfl (by kernel_rfl) (by kernel_rfl) (by kernel_rfl) (fun _ _ _ h => h) (Or.inl ⟨by rfl, ?_⟩) (by assumption) ?_
        rotate_left 1
        · intro w hSw; (try dsimp only at hSw); go_simp; (try with_reducible rfl)
        try simp only [Act.put, List.getElem_toArray, List.getElem_cons_succ, List.getElem_cons_zero, List.setIfInBounds_toArray, List.set_cons_zero, List.set_cons_succ]
        refine wpAnyH_ready (rs := [16]) (by kernel_rfl) (by simp) ?_
        refine AllReadyH.cons rfl (fun K hK => ?_) AllReadyH.nil
        try simp only [List.getElem_toArray, List.getElem_cons_succ, List.getElem_cons_zero]
        go_simp
        refine hK.out _ _ ?_ (fun hHeld => ?_)
        · (first | exact HST.out _ (fun k h1 h2 => rfl) | exact HST.out _ (fun k h1 h2 => Below.heap_setCell _ _ _ _ h1) | exact HST.out _ (fun k h1 h2 => (Below.heap_setCell _ _ _ _ h2).trans (Below.heap_setCell _ _ _ _ h1)))
        clear hK K
        try simp only [Act.put, List.getElem_toArray, List.getElem_cons_succ, List.getElem_cons_zero, List.setIfInBounds_toArray, List.set_cons_zero, List.set_cons_succ]
        all_goals refine wpAnyH_done (by kernel_rfl) (NoPanic.normal ?_) _
        try simp only [Act.put, List.getElem_toArray, List.getElem_cons_succ, List.getElem_cons_zero, List.setIfInBounds_toArray, List.set_cons_succ, List.set_cons_zero]
        go_wp2_with fail
        refine ⟨⟨i + 1, by omega, by simp, ?_⟩, by simp [intOf]; omega⟩
        have := (HV.out.set i (i32 i) (i64 i)).drew 1
        rw [range_set i32 _ hlt, range_set i64 _ hlt] at this
        exact this
      · have di : decide ((i : Int) < (n : Int) + 1) = false := decide_eq_false (by omega)
        have hie : i = n + 1 := by omega
        have HV : Hid _ := V1
        clear V1 V0 o1
        go_wp2_with fail
        go_ret
        have := HV.out
        rw [hie] at this
        simp only [Nat.sub_self, List.replicate_zero, List.append_nil] at this
        exact ⟨ob, hb, pb, cb, rfl, this⟩

end Go.Proofs.YtlehlgipbhfioaaGreat

namespace Go.Proofs.YtlehlgipbhfioaaGreat
open Go.RowKit Go.Maps

/-- Those of todo that are not in L have come up. -/
abbrev markB (b : Array Bool) (todo L : List Nat) : Array Bool := b.mapIdx fun j x => x || (todo.contains j && !L.contains j)
theorem markB_step {b : Array Bool} {todo L : List Nat} {i : Nat} (hn : L.Nodup) (ht : i ∈ todo) : (markB b todo L).setIfInBounds i true = markB b todo (L.erase i) := by
  have hg : ∀ (L : List Nat) (j : Nat) (h : j < (markB b todo L).size), (markB b todo L)[j] = (b[j]'(by simpa [markB] using h) || (todo.contains j && !L.contains j)) := fun L j h => by
    exact Array.getElem_mapIdx ..
  have hsz : ∀ L, (markB b todo L).size = b.size := fun L => by simp [markB]
  apply Array.ext
  · rw [Array.size_setIfInBounds, hsz, hsz]
  · intro j h1 h2
    have h3 : j < (markB b todo L).size := by rw [hsz]; rw [hsz] at h2; exact h2
    rw [Array.getElem_setIfInBounds h3, hg, hg]
    by_cases e : i = j
    · subst e
      rw [if_pos rfl]
      have : (L.erase i).contains i = false := by
        rw [Bool.eq_false_iff]
        intro hc
        have hm := List.contains_iff_mem.1 hc
        exact ((List.Nodup.mem_erase_iff hn).1 hm).1 rfl
      rw [this]
      simp [ht]
    · rw [if_neg e]
      have : (L.erase i).contains j = L.contains j := by
        rw [Bool.eq_iff_iff]
        simp only [List.contains_iff_mem]
        rw [List.Nodup.mem_erase_iff hn]
        exact ⟨fun h => h.2, fun h => ⟨fun e2 => e e2.symm, h⟩⟩
      rw [this]

def subsL : List Nat → List (List Nat)
  | [] => [[]]
  | x :: xs => subsL xs ++ (subsL xs).map (x :: ·)
theorem mem_subsL : ∀ {todo L : List Nat}, L.Sublist todo → L ∈ subsL todo
  | [], L, h => by cases h; simp [subsL]
  | x :: xs, L, h => by
    rw [subsL, List.mem_append]
    cases h with
    | cons _ h => exact Or.inl (mem_subsL h)
    | cons_cons _ h => exact Or.inr (List.mem_map.2 ⟨_, mem_subsL h, rfl⟩)

/-- Operations that may come up in whichever order: an invariant over those that have not come up. -/
theorem wpAny_many {P : Program} {ops : Array Oper} {Q : Exit → Act → World → Prop} {md : Region.Mode} {b : Array Bool} {todo : List Nat} (hnd : todo.Nodup)
    (hr : (subsL todo).all (fun L => L.isEmpty || decide (Region.ready md ops (markB b todo L) = L)) = true) {J : List Nat → Act → World → Prop} {fuel : Nat}
    (hs : ∀ L a w, L.Sublist todo → J L a w → ∀ i ∈ L, wpOp P ops Q i (fun a' w' => J (L.erase i) a' w') a w)
    (he : ∀ a w, J [] a w → wpAny P md ops Q fuel (markB b todo []) a w) :
    ∀ (k : Nat) (L : List Nat) (a : Act) (w : World), L.length = k → L.Sublist todo → J L a w → wpAny P md ops Q (k + fuel) (markB b todo L) a w
  | 0, L, a, w, hk, _, hJ => by
    have : L = [] := List.eq_nil_of_length_eq_zero hk
    subst this
    rw [Nat.zero_add]
    exact he a w hJ
  | k + 1, L, a, w, hk, hL, hJ => by
    have hne : L ≠ [] := fun e => by rw [e] at hk; simp at hk
    have hready : Region.ready md ops (markB b todo L) = L := by
      have := List.all_eq_true.1 hr L (mem_subsL hL)
      simpa [hne] using this
    rw [show k + 1 + fuel = (k + fuel) + 1 from by omega]
    refine wpAny_all hready hne (fun i hi => ?_)
    have hLn : L.Nodup := hnd.sublist hL
    rw [markB_step hLn (hL.subset hi)]
    refine wpOp_mono (fun a' w' hJ' => ?_) (hs L a w hL hJ i hi)
    exact wpAny_many hnd hr hs he k (L.erase i) a' w' (by rw [List.length_erase_of_mem hi]; omega) ((List.erase_sublist ..).trans hL) hJ'

theorem infoTruth : (Tryz.prog.info? 184).map (fun i => (i.zero, i.size, i.bytes)) = some (some (.int .i8 0), 1, 1) := by kernel_rfl
theorem infoWs : (Tryz.prog.info? 272).map (fun i => (i.zero, i.size, i.bytes)) = some (some (.slice none 0 0), 1, 24) := by kernel_rfl
theorem infoSrc : (Tryz.prog.info? 306).map (fun i => (i.zero, i.size, i.bytes)) = some (some (.agg #[.int .i64 0, .pointer none]), 2, 16) := by kernel_rfl
theorem infoBoolS : (Tryz.prog.info? 4).map (fun i => (i.zero, i.size, i.bytes)) = some (some (.bool false), 1, 1) := by kernel_rfl
theorem make_truths (w : World) (n : Nat) (hn : n ≤ 1048577) : (Instr.makeSlice 185 (.int .i64 (n : Int)) (.int .i64 (n : Int))).run Tryz.prog w = .ok (.slice (some ⟨w.heap.size, 0, none⟩) n n) (w.alloc (.cells (List.replicate n (.int .i8 0)).toArray 184)) := by
  obtain ⟨i0, hi0, hz0, hz1, hz2⟩ := info_parts infoTruth
  have hmk := run_make (P := Tryz.prog) w 185 184 i0 _ Tryz.underlying185 hi0 hz0 .i64 .i64 (n : Int) (n : Int) (by omega) (Int.le_refl _) (by rw [hz2]; omega) (by omega)
  rw [hz1] at hmk
  simp only [Int.toNat_natCast, Nat.mul_one] at hmk
  rw [← madeCells_one]
  exact hmk
theorem make_wss (w : World) (n : Nat) (hn : n ≤ 1048577) : (Instr.makeSlice 186 (.int .i64 (n : Int)) (.int .i64 (n : Int))).run Tryz.prog w = .ok (.slice (some ⟨w.heap.size, 0, none⟩) n n) (w.alloc (.cells (List.replicate n (.slice none 0 0)).toArray 272)) := by
  obtain ⟨i0, hi0, hz0, hz1, hz2⟩ := info_parts infoWs
  have hmk := run_make (P := Tryz.prog) w 186 272 i0 _ Tryz.underlying186 hi0 hz0 .i64 .i64 (n : Int) (n : Int) (by omega) (Int.le_refl _) (by rw [hz2]; omega) (by omega)
  rw [hz1] at hmk
  simp only [Int.toNat_natCast, Nat.mul_one] at hmk
  rw [← madeCells_one]
  exact hmk
theorem make_srcs (w : World) (n : Nat) (hn : n ≤ 1048577) : (Instr.makeSlice 187 (.int .i64 (n : Int)) (.int .i64 (n : Int))).run Tryz.prog w = .ok (.slice (some ⟨w.heap.size, 0, none⟩) n n) (w.alloc (.cells (madeCells #[.int .i64 0, .pointer none] (n * 2)) 306)) := by
  obtain ⟨i0, hi0, hz0, hz1, hz2⟩ := info_parts infoSrc
  have hmk := run_make (P := Tryz.prog) w 187 306 i0 _ Tryz.underlying187 hi0 hz0 .i64 .i64 (n : Int) (n : Int) (by omega) (Int.le_refl _) (by rw [hz2]; omega) (by omega)
  rw [hz1] at hmk
  simp only [Int.toNat_natCast] at hmk
  exact hmk
theorem make_boolsS (w : World) (n : Nat) (hn : n ≤ 1048577) : (Instr.makeSlice 120 (.int .i64 (n : Int)) (.int .i64 (n : Int))).run Tryz.prog w = .ok (.slice (some ⟨w.heap.size, 0, none⟩) n n) (w.alloc (.cells (List.replicate n (.bool false)).toArray 4)) := by
  obtain ⟨i0, hi0, hz0, hz1, hz2⟩ := info_parts infoBoolS
  have hmk := run_make (P := Tryz.prog) w 120 4 i0 _ Tryz.underlying120 hi0 hz0 .i64 .i64 (n : Int) (n : Int) (by omega) (Int.le_refl _) (by rw [hz2]; omega) (by omega)
  rw [hz1] at hmk
  simp only [Int.toNat_natCast, Nat.mul_one] at hmk
  rw [← madeCells_one]
  exact hmk

/-- What the rows of a new search hold, by the operation that makes them. -/
def objN (n : Nat) : Nat → Obj
  | 3 => .cells (List.replicate (2 * n + 2) (.int .i8 0)).toArray 184
  | 7 => .cells (List.replicate (2 * n + 2) (.slice none 0 0)).toArray 272
  | 10 => .cells (madeCells #[.int .i64 0, .pointer none] ((n + 1) * 2)) 306
  | 21 => .cells (List.replicate (n + 1) (.bool false)).toArray 4
  | 24 => .cells (List.replicate (n + 1) (.int .i64 0)).toArray 3
  | _ => .cells (List.replicate (n + 1) (.int .i8 0)).toArray 184
def lenN (n : Nat) : Nat → Nat
  | 3 => 2 * n + 2
  | 7 => 2 * n + 2
  | _ => n + 1
def valN (n : Nat) (B : Nat → Nat) (L : List Nat) (i : Nat) : Value := if i ∈ L then undef else if i = 12 then .pointer (some ⟨B 12, 0, none⟩) else .slice (some ⟨B i, 0, none⟩) (lenN n i) (lenN n i)

/-- Which rows are there. -/
def Dn (L : List Nat) (i : Nat) : Prop := (i ∈ [3, 7, 10, 15, 18, 21, 24] ∧ i ∉ L) ∨ ((i = 12 ∨ i = 100 ∨ i = 101 ∨ i = 102) ∧ 12 ∉ L)
def objD (n : Nat) (B : Nat → Nat) : Nat → Obj
  | 12 => .cells #[.slice (some ⟨B 102, 0, none⟩) (n + 1) (n + 1), .slice (some ⟨B 100, 0, none⟩) (n + 1) (n + 1), .slice (some ⟨B 101, 0, none⟩) (n + 1) (n + 1), .int .u64 1024] 270
  | 100 => .cells ((List.range (n + 1)).map i32).toArray 237
  | 101 => .cells ((List.range (n + 1)).map i64).toArray 3
  | 102 => .cells (List.replicate (n + 1) (.int .u64 0)).toArray 268
  | i => objN n i
structure NS (w W : World) (n : Nat) (L : List Nat) (B : Nat → Nat) : Prop where
  has : ∀ i, Dn L i → W.heap[B i]? = some (objD n B i) ∧ w.heap.size ≤ B i
  inj : ∀ i j, Dn L i → Dn L j → B i = B j → i = j
  below : Below w.heap.size w W

theorem objD_make (n : Nat) (B : Nat → Nat) {i : Nat} (hi : i ∈ [3, 7, 10, 15, 18, 21, 24]) : objD n B i = objN n i := by
  simp at hi
  rcases hi with rfl | rfl | rfl | rfl | rfl | rfl | rfl <;> rfl
theorem objD_congr (n : Nat) {B B' : Nat → Nat} (h : ∀ j, j = 100 ∨ j = 101 ∨ j = 102 → B' j = B j) (i : Nat) : objD n B' i = objD n B i := by
  unfold objD
  split
  · rw [h 100 (by simp), h 101 (by simp), h 102 (by simp)]
  · rfl
  · rfl
  · rfl
  · rfl

theorem NS.make {w W : World} {n : Nat} {L : List Nat} {B : Nat → Nat} (h : NS w W n L B) (hn : L.Nodup) {i : Nat} (hi : i ∈ [3, 7, 10, 15, 18, 21, 24]) : NS w (W.alloc (objN n i)) n (L.erase i) (fun j => if j = i then W.heap.size else B j) := by
  have hi100 : i < 100 := by simp at hi; omega
  have hi12 : i ≠ 12 := by simp at hi; omega
  have hob : ∀ j, objD n (fun j => if j = i then W.heap.size else B j) j = objD n B j := fun j => objD_congr n (fun k hk => if_neg (by omega)) j
  have old : ∀ j, Dn (L.erase i) j → j ≠ i → Dn L j := fun j hj hne => by
    rcases hj with ⟨h1, h2⟩ | ⟨h1, h2⟩
    · exact Or.inl ⟨h1, fun hm => h2 ((List.Nodup.mem_erase_iff hn).2 ⟨hne, hm⟩)⟩
    · exact Or.inr ⟨h1, fun hm => h2 ((List.Nodup.mem_erase_iff hn).2 ⟨fun e => hi12 e.symm, hm⟩)⟩
  have lt : ∀ j, Dn L j → B j < W.heap.size := fun j hj => (Array.getElem?_eq_some_iff.1 (h.has j hj).1).1
  refine ⟨fun j hj => ?_, fun j k hj hk e => ?_, h.below.alloc h.below.size _⟩
  · rw [hob]
    by_cases e : j = i
    · subst e
      rw [if_pos rfl, objD_make n B hi]
      exact ⟨heap_alloc_new _ _, h.below.size⟩
    · rw [if_neg e]
      have := h.has j (old j hj e)
      exact ⟨(Below.heap_alloc _ _ _ (lt j (old j hj e))).trans this.1, this.2⟩
  · by_cases e1 : j = i
    · by_cases e2 : k = i
      · rw [e1, e2]
      · simp only [if_pos e1, if_neg e2] at e
        have := lt k (old k hk e2)
        omega
    · by_cases e2 : k = i
      · simp only [if_neg e1, if_pos e2] at e
        have := lt j (old j hj e1)
        omega
      · simp only [if_neg e1, if_neg e2] at e
        exact h.inj j k (old j hj e1) (old k hk e2) e

theorem NS.order {w W W' : World} {n : Nat} {L : List Nat} {B : Nat → Nat} (h : NS w W n L B) (hn : L.Nodup) {ob hb pb cb : Nat} (hO : OrdAt W W' n ob hb pb cb ((List.range (n + 1)).map i32) ((List.range (n + 1)).map i64)) :
    NS w W' n (L.erase 12) (fun j => if j = 12 then ob else if j = 100 then hb else if j = 101 then pb else if j = 102 then cb else B j) := by
  have old : ∀ j, Dn (L.erase 12) j → j ≠ 12 → j ≠ 100 → j ≠ 101 → j ≠ 102 → j ∈ [3, 7, 10, 15, 18, 21, 24] ∧ Dn L j := fun j hj h12 h1 h2 h3 => by
    rcases hj with ⟨g1, g2⟩ | ⟨g1, g2⟩
    · exact ⟨g1, Or.inl ⟨g1, fun hm => g2 ((List.Nodup.mem_erase_iff hn).2 ⟨h12, hm⟩)⟩⟩
    · omega
  have lt : ∀ j, Dn L j → B j < W.heap.size := fun j hj => (Array.getElem?_eq_some_iff.1 (h.has j hj).1).1
  have hz := h.below.size
  obtain ⟨n1, n2, n3, n4, n5, n6⟩ := hO.ne
  obtain ⟨z1, z2, z3, z4⟩ := hO.new
  refine ⟨fun j hj => ?_, fun j k hj hk e => ?_, ?_⟩
  · by_cases e1 : j = 12
    · subst e1; exact ⟨hO.o, by simp only [if_true]; omega⟩
    by_cases e2 : j = 100
    · subst e2; exact ⟨hO.h, by simp; omega⟩
    by_cases e3 : j = 101
    · subst e3; exact ⟨hO.p, by simp; omega⟩
    by_cases e4 : j = 102
    · subst e4; exact ⟨hO.c, by simp; omega⟩
    obtain ⟨g1, g2⟩ := old j hj e1 e2 e3 e4
    have := h.has j g2
    rw [objD_make n _ g1] at this ⊢
    simp only [if_neg e1, if_neg e2, if_neg e3, if_neg e4]
    exact ⟨(hO.below.block _ (lt j g2)).trans this.1, this.2⟩
  · have key : ∀ j, Dn (L.erase 12) j → (j = 12 ∨ j = 100 ∨ j = 101 ∨ j = 102) ∨ (j ∈ [3, 7, 10, 15, 18, 21, 24] ∧ Dn L j ∧ j ≠ 12 ∧ j ≠ 100 ∧ j ≠ 101 ∧ j ≠ 102 ∧ B j < W.heap.size) := fun j hj => by
      by_cases e1 : j = 12 ∨ j = 100 ∨ j = 101 ∨ j = 102
      · exact Or.inl e1
      · have h5 : j ≠ 12 ∧ j ≠ 100 ∧ j ≠ 101 ∧ j ≠ 102 := by omega
        obtain ⟨g1, g2⟩ := old j hj h5.1 h5.2.1 h5.2.2.1 h5.2.2.2
        exact Or.inr ⟨g1, g2, h5.1, h5.2.1, h5.2.2.1, h5.2.2.2, lt j g2⟩
    rcases key j hj with q | ⟨_, q1, q2, q3, q4, q5, q6⟩ <;> rcases key k hk with r | ⟨_, r1, r2, r3, r4, r5, r6⟩
    · rcases q with rfl | rfl | rfl | rfl <;> rcases r with rfl | rfl | rfl | rfl <;> simp at e <;> omega
    · simp only [if_neg r2, if_neg r3, if_neg r4, if_neg r5] at e
      rcases q with rfl | rfl | rfl | rfl <;> simp at e <;> omega
    · simp only [if_neg q2, if_neg q3, if_neg q4, if_neg q5] at e
      rcases r with rfl | rfl | rfl | rfl <;> simp at e <;> omega
    · simp only [if_neg r2, if_neg r3, if_neg r4, if_neg r5, if_neg q2, if_neg q3, if_neg q4, if_neg q5] at e
      exact h.inj j k q1 r1 e
  · exact h.below.trans ⟨hO.below.os, hO.below.tape, hO.below.output, hO.below.size, fun k hk => hO.below.block k (by omega)⟩

end Go.Proofs.YtlehlgipbhfioaaGreat

namespace Go.Proofs.YtlehlgipbhfioaaGreat
open Go.RowKit Go.Maps

theorem wpAny_listed {P : Program} {ops : Array Oper} {Q : Exit → Act → World → Prop} {md : Region.Mode} {f : Nat} {ls ls' : Array Bool} {a : Act} {w : World} (h : ls = ls') (k : wpAny P md ops Q f ls' a w) : wpAny P md ops Q f ls a w := h ▸ k

/-- The frame amid the making. -/
def frS (n : Nat) (v8 v12 v15 v17 v20 v23 v26 v29 : Value) : Act := { tmps := #[.int .i64 (n : Int), undef, .pointer none, undef, undef, .int .i64 (n : Int), .int .i64 (2 * (n : Int)), .int .i64 (2 * (n : Int) + 2), v8, .int .i64 (n : Int), .int .i64 (2 * (n : Int)), .int .i64 (2 * (n : Int) + 2), v12, .int .i64 (n : Int), .int .i64 ((n : Int) + 1), v15, .int .i64 (n : Int), v17, .int .i64 (n : Int), .int .i64 ((n : Int) + 1), v20, .int .i64 (n : Int), .int .i64 ((n : Int) + 1), v23, .int .i64 (n : Int), .int .i64 ((n : Int) + 1), v26, .int .i64 (n : Int), .int .i64 ((n : Int) + 1), v29, undef, undef, undef, undef, undef, undef, undef, undef, undef, undef, undef, undef, undef, undef, undef, undef, undef, undef, undef, undef, undef, undef, undef, undef], defers := [] }

theorem valN_ne {n : Nat} {B B' : Nat → Nat} {L : List Nat} (hn : L.Nodup) {i j : Nat} (hne : j ≠ i) (hB : B' j = B j) : valN n B' (L.erase i) j = valN n B L j := by
  have e : j ∈ L.erase i ↔ j ∈ L := (List.Nodup.mem_erase_iff hn).trans ⟨fun h => h.2, fun h => ⟨hne, h⟩⟩
  unfold valN
  by_cases h : j ∈ L
  · rw [if_pos h, if_pos (e.2 h)]
  · rw [if_neg h, if_neg (fun k => h (e.1 k)), hB]
    by_cases h12 : j = 12
    · rw [if_pos h12, if_pos h12, ← h12, hB]
    · rw [if_neg h12, if_neg h12]
theorem valN_eq {n : Nat} {B' : Nat → Nat} {L : List Nat} (hn : L.Nodup) {i : Nat} : valN n B' (L.erase i) i = if i = 12 then .pointer (some ⟨B' 12, 0, none⟩) else .slice (some ⟨B' i, 0, none⟩) (lenN n i) (lenN n i) := by
  unfold valN
  rw [if_neg (fun h => ((List.Nodup.mem_erase_iff hn).1 h).1 rfl)]

theorem NS.alloc {w W : World} {n : Nat} {L : List Nat} {B : Nat → Nat} (h : NS w W n L B) (O : Obj) : NS w (W.alloc O) n L B :=
  ⟨fun i hi => ⟨(Below.heap_alloc _ _ _ (Array.getElem?_eq_some_iff.1 (h.has i hi).1).1).trans (h.has i hi).1, (h.has i hi).2⟩, h.inj, h.below.alloc h.below.size _⟩

/-- The search as newSearch boxes it. -/
def searchN (n : Nat) (B : Nat → Nat) (z : Value) : Obj := .cells #[.slice (some ⟨B 3, 0, none⟩) (2 * n + 2) (2 * n + 2), .slice (some ⟨B 7, 0, none⟩) (2 * n + 2) (2 * n + 2), .slice (some ⟨B 10, 0, none⟩) (n + 1) (n + 1), .slice none 0 0, .slice none 0 0, .int .i64 0, .pointer (some ⟨B 12, 0, none⟩), .slice (some ⟨B 15, 0, none⟩) (n + 1) (n + 1), .slice (some ⟨B 18, 0, none⟩) (n + 1) (n + 1), .int .i64 0, .slice none 0 0, z, .bool false, .pointer none, .slice (some ⟨B 21, 0, none⟩) (n + 1) (n + 1), .slice none 0 0, .slice none 0 0, .slice (some ⟨B 24, 0, none⟩) (n + 1) (n + 1), .int .i64 0] 191

theorem setCell_cells {W : World} {b : Nat} {cs : List Value} {ty : TypeId} (h : W.heap[b]? = some (.cells cs.toArray ty)) (i : Nat) (v : Value) : (W.setCell ⟨b, i, none⟩ v).heap[b]? = some (.cells (cs.set i v).toArray ty) := by
  unfold World.setCell
  simp [Array.getElem?_modify, h]

def idxR : Role → Option Nat
  | .search => some 200 | .vals => some 3 | .wout => some 7 | .src => some 10 | .order => some 12 | .heap => some 100 | .places => some 101 | .scores => some 102 | .wishes => some 15 | .best => some 18 | .marks => some 21 | .levels => some 24
  | _ => none
theorem idxR_inj {r r' : Role} {i : Nat} (h : idxR r = some i) (h' : idxR r' = some i) : r = r' := by
  cases r <;> cases r' <;> simp [idxR] at h h' <;> first | rfl | omega
theorem idxR_dn {r : Role} {i : Nat} (h : idxR r = some i) (hi : i ≠ 200) : Dn [] i := by
  cases r <;> simp [idxR] at h <;> subst h <;> first | exact absurd rfl hi | (unfold Dn; simp; done)

theorem newMem {w w0 W : World} {n : Nat} {B : Nat → Nat} {sb : Nat} {z : Value} (hn : n ≤ 2000) (hNS : NS w w0 n [] B) (hso : w0.heap[sb]? = some (searchN n B z)) (hsz : w.heap.size ≤ sb) (hsb : ∀ i, Dn [] i → B i ≠ sb)
    (h1 : ∀ k, k ≠ B 15 → k ≠ B 18 → W.heap[k]? = w0.heap[k]?) (h15 : W.heap[B 15]? = some (.cells (List.replicate (n + 1) (Value.int .i8 (-1))).toArray 184)) (h18 : W.heap[B 18]? = some (.cells (List.replicate (n + 1) (Value.int .i8 (-1))).toArray 184)) :
    ∃ A : Ad, A.blk .search = some sb ∧ Mem W A (Sv.new n) ∧ ∀ k, A.Foot k → w.heap.size ≤ k := by
  have dn : ∀ i, i = 3 ∨ i = 7 ∨ i = 10 ∨ i = 15 ∨ i = 18 ∨ i = 21 ∨ i = 24 ∨ i = 12 ∨ i = 100 ∨ i = 101 ∨ i = 102 → Dn [] i := fun i hi => by
    unfold Dn
    simp
    omega
  have at' : ∀ i, Dn [] i → i ≠ 15 → i ≠ 18 → W.heap[B i]? = some (objD n B i) := fun i hi h5 h8 =>
    (h1 _ (fun e => h5 (hNS.inj i 15 hi (dn 15 (by simp)) e)) (fun e => h8 (hNS.inj i 18 hi (dn 18 (by simp)) e))).trans (hNS.has i hi).1
  have hs : W.heap[sb]? = some (searchN n B z) := (h1 sb (fun e => hsb 15 (dn 15 (by simp)) e.symm) (fun e => hsb 18 (dn 18 (by simp)) e.symm)).trans hso
  refine ⟨{ blk := fun r => (idxR r).map fun i => if i = 200 then sb else B i, sp := fun _ => [], src := (madeCells #[.int .i64 0, .pointer none] ((n + 1) * 2)).toList, pl := (List.range (n + 1)).map i64, room := z, endv := .pointer (some ⟨0, 0, none⟩) }, rfl, ?_, ?_⟩
  · refine ⟨fun r r' b h2 h3 => ?_, fun r b hb => ?_, fun r hr => ?_, fun c => ?_, fun c => ?_, fun l _ => new_wat n l, fun _ => rfl, fun _ => rfl, fun r _ => ⟨0, by simp⟩, fun r hr => ?_, by simp, by simp [Sv.new], by simp [Sv.new], ?_, by simp [Sv.new], hn, ⟨_, rfl⟩⟩
    · obtain ⟨i, hi, rfl⟩ := Option.map_eq_some_iff.1 h2
      obtain ⟨j, hj, e⟩ := Option.map_eq_some_iff.1 h3
      have : i = j := by
        by_cases ei : i = 200
        · by_cases ej : j = 200
          · rw [ei, ej]
          · simp only [if_pos ei, if_neg ej] at e
            exact absurd e (hsb j (idxR_dn hj ej))
        · by_cases ej : j = 200
          · simp only [if_neg ei, if_pos ej] at e
            exact absurd e.symm (hsb i (idxR_dn hi ei))
          · simp only [if_neg ei, if_neg ej] at e
            exact hNS.inj i j (idxR_dn hi ei) (idxR_dn hj ej) e.symm
      subst this
      exact idxR_inj hi hj
    · cases r <;> simp [idxR] at hb <;> subst hb
      · rw [hs]
        simp [searchN, cellsR, searchC, Ad.slv, Ad.ptr, idxR, Sv.new, tyR]
      · rw [at' 3 (dn 3 (by simp)) (by omega) (by omega)]
        simp [objD, objN, cellsR, Sv.new, tyR]
      · rw [at' 7 (dn 7 (by simp)) (by omega) (by omega)]
        simp only [objD, objN, cellsR, Sv.new, tyR]
        congr 3
        apply List.ext_getElem?
        intro j
        rw [List.getElem?_mapIdx]
        simp only [List.getElem?_replicate]
        split <;> rfl
      · rw [at' 10 (dn 10 (by simp)) (by omega) (by omega)]
        simp [objD, objN, cellsR, tyR]
      · rw [at' 12 (dn 12 (by simp)) (by omega) (by omega)]
        simp [objD, cellsR, Ad.slv, idxR, Sv.new, tyR]
      · rw [at' 100 (dn 100 (by simp)) (by omega) (by omega)]
        simp [objD, cellsR, Sv.new, tyR]
      · rw [at' 101 (dn 101 (by simp)) (by omega) (by omega)]
        simp [objD, cellsR, tyR]
      · rw [at' 102 (dn 102 (by simp)) (by omega) (by omega)]
        simp [objD, cellsR, Sv.new, tyR]
      · rw [h15]
        simp [cellsR, Sv.new, tyR]
      · rw [h18]
        simp [cellsR, Sv.new, tyR]
      · rw [at' 21 (dn 21 (by simp)) (by omega) (by omega)]
        simp [objD, objN, cellsR, Sv.new, tyR]
      · rw [at' 24 (dn 24 (by simp)) (by omega) (by omega)]
        simp [objD, objN, cellsR, Sv.new, tyR]
    · cases r <;> first | exact ⟨_, rfl⟩ | (cases hr; done)
    · simp [idxR, Sv.new]
    · simp [idxR, Sv.new]
    · cases r <;> first | (cases hr; done) | skip
      · simp [lenR, Sv.new, maxLen]
      · simp [lenR, Sv.new, maxLen]
      · simp [lenR, new_wat, maxLen]
    · simp [Sv.new, madeCells]
  · rintro k ⟨r, hr⟩
    obtain ⟨i, hi, rfl⟩ := Option.map_eq_some_iff.1 hr
    by_cases ei : i = 200
    · rw [if_pos ei]; exact hsz
    · rw [if_neg ei]; exact (hNS.has i (idxR_dn hi ei)).2

set_option maxRecDepth 100000 in
set_option maxHeartbeats 2000000 in
theorem newSearch_in (w : World) (n : Nat) (hn : n ≤ 2000) :
    Calls Tryz.prog 83 #[.int .i64 (n : Int)] w fun e w' => ∃ sb A, e = .returned (.pointer (some ⟨sb, 0, none⟩)) ∧ A.blk .search = some sb ∧ Mem w' A (Sv.new n) ∧ (∀ k, A.Foot k → w.heap.size ≤ k) ∧ Below w.heap.size w w' := by
  have hwrap : IntKind.i64.wrap ((n : Int) + 1) = (n : Int) + 1 := by rw [IntKind.wrap_i64]; omega
  have hwrap2 : IntKind.i64.wrap (2 * (n : Int)) = 2 * (n : Int) := by rw [IntKind.wrap_i64]; omega
  have hwrap3 : IntKind.i64.wrap (2 * (n : Int) + 2) = 2 * (n : Int) + 2 := by rw [IntKind.wrap_i64]; omega
  have c1 : ((n + 1 : Nat) : Int) = (n : Int) + 1 := by simp
  have c2 : ((2 * n + 2 : Nat) : Int) = 2 * (n : Int) + 2 := by simp
  have m1 : ∀ W : World, _ := fun W => by
    have q := make_truths W (2 * n + 2) (by omega)
    rw [c2] at q
    exact q
  have m2 : ∀ W : World, _ := fun W => by
    have q := make_wss W (2 * n + 2) (by omega)
    rw [c2] at q
    exact q
  have m3 : ∀ W : World, _ := fun W => by
    have q := make_srcs W (n + 1) (by omega)
    rw [c1] at q
    exact q
  have m4 : ∀ W : World, _ := fun W => by
    have q := make_truths W (n + 1) (by omega)
    rw [c1] at q
    exact q
  have m5 : ∀ W : World, _ := fun W => by
    have q := make_boolsS W (n + 1) (by omega)
    rw [c1] at q
    exact q
  have m6 : ∀ W : World, _ := fun W => by
    have q := make_intsS W (n + 1) (by omega)
    rw [c1] at q
    exact q
  clear c1 c2
  go_enter Tryz.func83, Tryz.ntmps83
  go_wp2_with fail
  go_cut [3] from 5 to 31 (fun v3 wx => ∃ (B : Nat → Nat) (sb : Nat) (z : Value), v3 = .pointer (some ⟨sb, 0, none⟩) ∧ NS w wx n [] B ∧ wx.heap[sb]? = some (searchN n B z) ∧ w.heap.size ≤ sb ∧ ∀ i, Dn [] i → B i ≠ sb)
  case first =>
    refine wp_region_noPanic ?_
    refine wp_region_any (by kernel_rfl) ?_
    refine wpAny_take (i := 0) (oi := _) (v := ?_) rfl (by kernel_rfl) (by kernel_rfl) (by kernel_rfl) (fun _ _ _ h => h) (Or.inl ⟨by rfl, ?_⟩) ?_
    rotate_left 1
    · intro w; go_simp; (try with_reducible rfl)
    try simp only [Act.put, List.getElem_toArray, List.getElem_cons_zero, List.setIfInBounds_toArray, List.set_cons_zero, List.set_cons_succ]
    refine wpAny_take (i := 1) (oi := _) (v := ?_) rfl (by kernel_rfl) (by kernel_rfl) (by kernel_rfl) (fun _ _ _ h => h) (Or.inl ⟨by rfl, ?_⟩) ?_
    rotate_left 1
    · intro w; go_simp; (try with_reducible rfl)
    try simp only [Act.put, List.getElem_toArray, List.getElem_cons_succ, List.getElem_cons_zero, List.setIfInBounds_toArray, List.set_cons_zero, List.set_cons_succ]
    refine wpAny_take (i := 2) (oi := _) (v := ?_) rfl (by kernel_rfl) (by kernel_rfl) (by kernel_rfl) (fun _ _ _ h => h) (Or.inl ⟨by rfl, ?_⟩) ?_
    rotate_left 1
    · intro w; go_simp; (try with_reducible rfl)
    try simp only [Act.put, List.getElem_toArray, List.getElem_cons_succ, List.getElem_cons_zero, List.setIfInBounds_toArray, List.set_cons_zero, List.set_cons_succ]
    refine wpAny_take (i := 4) (oi := _) (v := ?_) rfl (by kernel_rfl) (by kernel_rfl) (by kernel_rfl) (fun _ _ _ h => h) (Or.inl ⟨by rfl, ?_⟩) ?_
    rotate_left 1
    · intro w; go_simp; (try with_reducible rfl)
    try simp only [Act.put, List.getElem_toArray, List.getElem_cons_succ, List.getElem_cons_zero, List.setIfInBounds_toArray, List.set_cons_zero, List.set_cons_succ]
    refine wpAny_take (i := 5) (oi := _) (v := ?_) rfl (by kernel_rfl) (by kernel_rfl) (by kernel_rfl) (fun _ _ _ h => h) (Or.inl ⟨by rfl, ?_⟩) ?_
    rotate_left 1
    · intro w; go_simp; (try with_reducible rfl)
    try simp only [Act.put, List.getElem_toArray, List.getElem_cons_succ, List.getElem_cons_zero, List.setIfInBounds_toArray, List.set_cons_zero, List.set_cons_succ]
    refine wpAny_take (i := 6) (oi := _) (v := ?_) rfl (by kernel_rfl) (by kernel_rfl) (by kernel_rfl) (fun _ _ _ h => h) (Or.inl ⟨by rfl, ?_⟩) ?_
    rotate_left 1
    · intro w; go_simp; (try with_reducible rfl)
    try simp only [Act.put, List.getElem_toArray, List.getElem_cons_succ, List.getElem_cons_zero, List.setIfInBounds_toArray, List.set_cons_zero, List.set_cons_succ]
    refine wpAny_take (i := 8) (oi := _) (v := ?_) rfl (by kernel_rfl) (by kernel_rfl) (by kernel_rfl) (fun _ _ _ h => h) (Or.inl ⟨by rfl, ?_⟩) ?_
    rotate_left 1
    · intro w; go_simp; (try with_reducible rfl)
    try simp only [Act.put, List.getElem_toArray, List.getElem_cons_succ, List.getElem_cons_zero, List.setIfInBounds_toArray, List.set_cons_zero, List.set_cons_succ]
    refine wpAny_take (i := 9) (oi := _) (v := ?_) rfl (by kernel_rfl) (by kernel_rfl) (by kernel_rfl) (fun _ _ _ h => h) (Or.inl ⟨by rfl, ?_⟩) ?_
    rotate_left 1
    · intro w; go_simp; (try with_reducible rfl)
    try simp only [Act.put, List.getElem_toArray, List.getElem_cons_succ, List.getElem_cons_zero, List.setIfInBounds_toArray, List.set_cons_zero, List.set_cons_succ]
    refine wpAny_take (i := 11) (oi := _) (v := ?_) rfl (by kernel_rfl) (by kernel_rfl) (by kernel_rfl) (fun _ _ _ h => h) (Or.inl ⟨by rfl, ?_⟩) ?_
    rotate_left 1
    · intro w; go_simp; (try with_reducible rfl)
    try simp only [Act.put, List.getElem_toArray, List.getElem_cons_succ, List.getElem_cons_zero, List.setIfInBounds_toArray, List.set_cons_zero, List.set_cons_succ]
    refine wpAny_take (i := 13) (oi := _) (v := ?_) rfl (by kernel_rfl) (by kernel_rfl) (by kernel_rfl) (fun _ _ _ h => h) (Or.inl ⟨by rfl, ?_⟩) ?_
    rotate_left 1
    · intro w; go_simp; (try with_reducible rfl)
    try simp only [Act.put, List.getElem_toArray, List.getElem_cons_succ, List.getElem_cons_zero, List.setIfInBounds_toArray, List.set_cons_zero, List.set_cons_succ]
    refine wpAny_take (i := 14) (oi := _) (v := ?_) rfl (by kernel_rfl) (by kernel_rfl) (by kernel_rfl) (fun _ _ _ h => h) (Or.inl ⟨by rfl, ?_⟩) ?_
    rotate_left 1
    · intro w; go_simp; (try with_reducible rfl)
    try simp only [Act.put, List.getElem_toArray, List.getElem_cons_succ, List.getElem_cons_zero, List.setIfInBounds_toArray, List.set_cons_zero, List.set_cons_succ]
    refine wpAny_take (i := 16) (oi := _) (v := ?_) rfl (by kernel_rfl) (by kernel_rfl) (by kernel_rfl) (fun _ _ _ h => h) (Or.inl ⟨by rfl, ?_⟩) ?_
    rotate_left 1
    · intro w; go_simp; (try with_reducible rfl)
    try simp only [Act.put, List.getElem_toArray, List.getElem_cons_succ, List.getElem_cons_zero, List.setIfInBounds_toArray, List.set_cons_zero, List.set_cons_succ]
    refine wpAny_take (i := 17) (oi := _) (v := ?_) rfl (by kernel_rfl) (by kernel_rfl) (by kernel_rfl) (fun _ _ _ h => h) (Or.inl ⟨by rfl, ?_⟩) ?_
    rotate_left 1
    · intro w; go_simp; (try with_reducible rfl)
    try simp only [Act.put, List.getElem_toArray, List.getElem_cons_succ, List.getElem_cons_zero, List.setIfInBounds_toArray, List.set_cons_zero, List.set_cons_succ]
    refine wpAny_take (i := 19) (oi := _) (v := ?_) rfl (by kernel_rfl) (by kernel_rfl) (by kernel_rfl) (fun _ _ _ h => h) (Or.inl ⟨by rfl, ?_⟩) ?_
    rotate_left 1
    · intro w; go_simp; (try with_reducible rfl)
    try simp only [Act.put, List.getElem_toArray, List.getElem_cons_succ, List.getElem_cons_zero, List.setIfInBounds_toArray, List.set_cons_zero, List.set_cons_succ]
    refine wpAny_take (i := 20) (oi := _) (v := ?_) rfl (by kernel_rfl) (by kernel_rfl) (by kernel_rfl) (fun _ _ _ h => h) (Or.inl ⟨by rfl, ?_⟩) ?_
    rotate_left 1
    · intro w; go_simp; (try with_reducible rfl)
    try simp only [Act.put, List.getElem_toArray, List.getElem_cons_succ, List.getElem_cons_zero, List.setIfInBounds_toArray, List.set_cons_zero, List.set_cons_succ]
    refine wpAny_take (i := 22) (oi := _) (v := ?_) rfl (by kernel_rfl) (by kernel_rfl) (by kernel_rfl) (fun _ _ _ h => h) (Or.inl ⟨by rfl, ?_⟩) ?_
    rotate_left 1
    · intro w; go_simp; (try with_reducible rfl)
    try simp only [Act.put, List.getElem_toArray, List.getElem_cons_succ, List.getElem_cons_zero, List.setIfInBounds_toArray, List.set_cons_zero, List.set_cons_succ]
    refine wpAny_take (i := 23) (oi := _) (v := ?_) rfl (by kernel_rfl) (by kernel_rfl) (by kernel_rfl) (fun _ _ _ h => h) (Or.inl ⟨by rfl, ?_⟩) ?_
    rotate_left 1
    · intro w; go_simp; (try with_reducible rfl)
    try simp only [Act.put, List.getElem_toArray, List.getElem_cons_succ, List.getElem_cons_zero, List.setIfInBounds_toArray, List.set_cons_zero, List.set_cons_succ]
    refine wpAny_listed (ls' := markB #[true, true, true, false, true, true, true, false, true, true, false, true, false, true, true, false, true, true, false, true, true, false, true, true, false, false, false, false] [3, 7, 10, 12, 15, 18, 21, 24] [3, 7, 10, 12, 15, 18, 21, 24]) (by kernel_rfl) ?_
    refine wpAny_many (todo := [3, 7, 10, 12, 15, 18, 21, 24]) (fuel := 3) (by decide) (by kernel_rfl) (J := fun L a W => ∃ B, a = frS n (valN n B L 3) (valN n B L 7) (valN n B L 10) (valN n B L 12) (valN n B L 15) (valN n B L 18) (valN n B L 21) (valN n B L 24) ∧ NS w W n L B) ?_ ?_ 8 [3, 7, 10, 12, 15, 18, 21, 24] _ _ rfl (List.Sublist.refl _) ?_
    · intro L a W hL hJ i hi
      obtain ⟨B, rfl, hNS⟩ := hJ
      have hLn : L.Nodup := (by decide : ([3, 7, 10, 12, 15, 18, 21, 24] : List Nat).Nodup).sublist hL
      have ht := hL.subset hi
      clear hi hL
      simp only [List.mem_cons, List.not_mem_nil, or_false] at ht
      rcases ht with rfl | rfl | rfl | rfl | rfl | rfl | rfl | rfl
      · refine wpOp_step rfl (fun K hK => ?_)
        unfold frS
        try simp only [List.getElem_toArray, List.getElem_cons_succ, List.getElem_cons_zero]
        go_simp
        refine hK _ _ ⟨fun j => if j = 3 then W.heap.size else B j, ?_, (by have := hNS.make hLn (i := 3) (by simp); simpa only [objN, List.toArray_replicate] using this)⟩
        rw [valN_eq (B' := fun j => if j = 3 then W.heap.size else B j) (i := 3) hLn, valN_ne (B := B) (B' := fun j => if j = 3 then W.heap.size else B j) (i := 3) (j := 7) hLn (by decide) (by simp), valN_ne (B := B) (B' := fun j => if j = 3 then W.heap.size else B j) (i := 3) (j := 10) hLn (by decide) (by simp), valN_ne (B := B) (B' := fun j => if j = 3 then W.heap.size else B j) (i := 3) (j := 12) hLn (by decide) (by simp), valN_ne (B := B) (B' := fun j => if j = 3 then W.heap.size else B j) (i := 3) (j := 15) hLn (by decide) (by simp), valN_ne (B := B) (B' := fun j => if j = 3 then W.heap.size else B j) (i := 3) (j := 18) hLn (by decide) (by simp), valN_ne (B := B) (B' := fun j => if j = 3 then W.heap.size else B j) (i := 3) (j := 21) hLn (by decide) (by simp), valN_ne (B := B) (B' := fun j => if j = 3 then W.heap.size else B j) (i := 3) (j := 24) hLn (by decide) (by simp)]
        rfl
      · refine wpOp_step rfl (fun K hK => ?_)
        unfold frS
        try simp only [List.getElem_toArray, List.getElem_cons_succ, List.getElem_cons_zero]
        go_simp
        refine hK _ _ ⟨fun j => if j = 7 then W.heap.size else B j, ?_, (by have := hNS.make hLn (i := 7) (by simp); simpa only [objN, List.toArray_replicate] using this)⟩
        rw [valN_ne (B := B) (B' := fun j => if j = 7 then W.heap.size else B j) (i := 7) (j := 3) hLn (by decide) (by simp), valN_eq (B' := fun j => if j = 7 then W.heap.size else B j) (i := 7) hLn, valN_ne (B := B) (B' := fun j => if j = 7 then W.heap.size else B j) (i := 7) (j := 10) hLn (by decide) (by simp), valN_ne (B := B) (B' := fun j => if j = 7 then W.heap.size else B j) (i := 7) (j := 12) hLn (by decide) (by simp), valN_ne (B := B) (B' := fun j => if j = 7 then W.heap.size else B j) (i := 7) (j := 15) hLn (by decide) (by simp), valN_ne (B := B) (B' := fun j => if j = 7 then W.heap.size else B j) (i := 7) (j := 18) hLn (by decide) (by simp), valN_ne (B := B) (B' := fun j => if j = 7 then W.heap.size else B j) (i := 7) (j := 21) hLn (by decide) (by simp), valN_ne (B := B) (B' := fun j => if j = 7 then W.heap.size else B j) (i := 7) (j := 24) hLn (by decide) (by simp)]
        rfl
      · refine wpOp_step rfl (fun K hK => ?_)
        unfold frS
        try simp only [List.getElem_toArray, List.getElem_cons_succ, List.getElem_cons_zero]
        go_simp
        refine hK _ _ ⟨fun j => if j = 10 then W.heap.size else B j, ?_, (by have := hNS.make hLn (i := 10) (by simp); simpa only [objN, List.toArray_replicate] using this)⟩
        rw [valN_ne (B := B) (B' := fun j => if j = 10 then W.heap.size else B j) (i := 10) (j := 3) hLn (by decide) (by simp), valN_ne (B := B) (B' := fun j => if j = 10 then W.heap.size else B j) (i := 10) (j := 7) hLn (by decide) (by simp), valN_eq (B' := fun j => if j = 10 then W.heap.size else B j) (i := 10) hLn, valN_ne (B := B) (B' := fun j => if j = 10 then W.heap.size else B j) (i := 10) (j := 12) hLn (by decide) (by simp), valN_ne (B := B) (B' := fun j => if j = 10 then W.heap.size else B j) (i := 10) (j := 15) hLn (by decide) (by simp), valN_ne (B := B) (B' := fun j => if j = 10 then W.heap.size else B j) (i := 10) (j := 18) hLn (by decide) (by simp), valN_ne (B := B) (B' := fun j => if j = 10 then W.heap.size else B j) (i := 10) (j := 21) hLn (by decide) (by simp), valN_ne (B := B) (B' := fun j => if j = 10 then W.heap.size else B j) (i := 10) (j := 24) hLn (by decide) (by simp)]
        rfl
      · refine wpOp_step rfl (fun K hK => ?_)
        unfold frS
        try simp only [List.getElem_toArray, List.getElem_cons_succ, List.getElem_cons_zero]
        go_simp
        go_at_call 123
        refine (newOrder_in W n hn).mono ?_
        rintro e w5 ⟨ob, hb, pb, cb, rfl, hO⟩
        refine hK _ _ ⟨fun j => if j = 12 then ob else if j = 100 then hb else if j = 101 then pb else if j = 102 then cb else B j, ?_, hNS.order hLn hO⟩
        rw [valN_ne (B := B) (B' := fun j => if j = 12 then ob else if j = 100 then hb else if j = 101 then pb else if j = 102 then cb else B j) (i := 12) (j := 3) hLn (by decide) (by simp), valN_ne (B := B) (B' := fun j => if j = 12 then ob else if j = 100 then hb else if j = 101 then pb else if j = 102 then cb else B j) (i := 12) (j := 7) hLn (by decide) (by simp), valN_ne (B := B) (B' := fun j => if j = 12 then ob else if j = 100 then hb else if j = 101 then pb else if j = 102 then cb else B j) (i := 12) (j := 10) hLn (by decide) (by simp), valN_eq (B' := fun j => if j = 12 then ob else if j = 100 then hb else if j = 101 then pb else if j = 102 then cb else B j) (i := 12) hLn, valN_ne (B := B) (B' := fun j => if j = 12 then ob else if j = 100 then hb else if j = 101 then pb else if j = 102 then cb else B j) (i := 12) (j := 15) hLn (by decide) (by simp), valN_ne (B := B) (B' := fun j => if j = 12 then ob else if j = 100 then hb else if j = 101 then pb else if j = 102 then cb else B j) (i := 12) (j := 18) hLn (by decide) (by simp), valN_ne (B := B) (B' := fun j => if j = 12 then ob else if j = 100 then hb else if j = 101 then pb else if j = 102 then cb else B j) (i := 12) (j := 21) hLn (by decide) (by simp), valN_ne (B := B) (B' := fun j => if j = 12 then ob else if j = 100 then hb else if j = 101 then pb else if j = 102 then cb else B j) (i := 12) (j := 24) hLn (by decide) (by simp)]
        rfl
      · refine wpOp_step rfl (fun K hK => ?_)
        unfold frS
        try simp only [List.getElem_toArray, List.getElem_cons_succ, List.getElem_cons_zero]
        go_simp
        refine hK _ _ ⟨fun j => if j = 15 then W.heap.size else B j, ?_, (by have := hNS.make hLn (i := 15) (by simp); simpa only [objN, List.toArray_replicate] using this)⟩
        rw [valN_ne (B := B) (B' := fun j => if j = 15 then W.heap.size else B j) (i := 15) (j := 3) hLn (by decide) (by simp), valN_ne (B := B) (B' := fun j => if j = 15 then W.heap.size else B j) (i := 15) (j := 7) hLn (by decide) (by simp), valN_ne (B := B) (B' := fun j => if j = 15 then W.heap.size else B j) (i := 15) (j := 10) hLn (by decide) (by simp), valN_ne (B := B) (B' := fun j => if j = 15 then W.heap.size else B j) (i := 15) (j := 12) hLn (by decide) (by simp), valN_eq (B' := fun j => if j = 15 then W.heap.size else B j) (i := 15) hLn, valN_ne (B := B) (B' := fun j => if j = 15 then W.heap.size else B j) (i := 15) (j := 18) hLn (by decide) (by simp), valN_ne (B := B) (B' := fun j => if j = 15 then W.heap.size else B j) (i := 15) (j := 21) hLn (by decide) (by simp), valN_ne (B := B) (B' := fun j => if j = 15 then W.heap.size else B j) (i := 15) (j := 24) hLn (by decide) (by simp)]
        rfl
      · refine wpOp_step rfl (fun K hK => ?_)
        unfold frS
        try simp only [List.getElem_toArray, List.getElem_cons_succ, List.getElem_cons_zero]
        go_simp
        refine hK _ _ ⟨fun j => if j = 18 then W.heap.size else B j, ?_, (by have := hNS.make hLn (i := 18) (by simp); simpa only [objN, List.toArray_replicate] using this)⟩
        rw [valN_ne (B := B) (B' := fun j => if j = 18 then W.heap.size else B j) (i := 18) (j := 3) hLn (by decide) (by simp), valN_ne (B := B) (B' := fun j => if j = 18 then W.heap.size else B j) (i := 18) (j := 7) hLn (by decide) (by simp), valN_ne (B := B) (B' := fun j => if j = 18 then W.heap.size else B j) (i := 18) (j := 10) hLn (by decide) (by simp), valN_ne (B := B) (B' := fun j => if j = 18 then W.heap.size else B j) (i := 18) (j := 12) hLn (by decide) (by simp), valN_ne (B := B) (B' := fun j => if j = 18 then W.heap.size else B j) (i := 18) (j := 15) hLn (by decide) (by simp), valN_eq (B' := fun j => if j = 18 then W.heap.size else B j) (i := 18) hLn, valN_ne (B := B) (B' := fun j => if j = 18 then W.heap.size else B j) (i := 18) (j := 21) hLn (by decide) (by simp), valN_ne (B := B) (B' := fun j => if j = 18 then W.heap.size else B j) (i := 18) (j := 24) hLn (by decide) (by simp)]
        rfl
      · refine wpOp_step rfl (fun K hK => ?_)
        unfold frS
        try simp only [List.getElem_toArray, List.getElem_cons_succ, List.getElem_cons_zero]
        go_simp
        refine hK _ _ ⟨fun j => if j = 21 then W.heap.size else B j, ?_, (by have := hNS.make hLn (i := 21) (by simp); simpa only [objN, List.toArray_replicate] using this)⟩
        rw [valN_ne (B := B) (B' := fun j => if j = 21 then W.heap.size else B j) (i := 21) (j := 3) hLn (by decide) (by simp), valN_ne (B := B) (B' := fun j => if j = 21 then W.heap.size else B j) (i := 21) (j := 7) hLn (by decide) (by simp), valN_ne (B := B) (B' := fun j => if j = 21 then W.heap.size else B j) (i := 21) (j := 10) hLn (by decide) (by simp), valN_ne (B := B) (B' := fun j => if j = 21 then W.heap.size else B j) (i := 21) (j := 12) hLn (by decide) (by simp), valN_ne (B := B) (B' := fun j => if j = 21 then W.heap.size else B j) (i := 21) (j := 15) hLn (by decide) (by simp), valN_ne (B := B) (B' := fun j => if j = 21 then W.heap.size else B j) (i := 21) (j := 18) hLn (by decide) (by simp), valN_eq (B' := fun j => if j = 21 then W.heap.size else B j) (i := 21) hLn, valN_ne (B := B) (B' := fun j => if j = 21 then W.heap.size else B j) (i := 21) (j := 24) hLn (by decide) (by simp)]
        rfl
      · refine wpOp_step rfl (fun K hK => ?_)
        unfold frS
        try simp only [List.getElem_toArray, List.getElem_cons_succ, List.getElem_cons_zero]
        go_simp
        refine hK _ _ ⟨fun j => if j = 24 then W.heap.size else B j, ?_, (by have := hNS.make hLn (i := 24) (by simp); simpa only [objN, List.toArray_replicate] using this)⟩
        rw [valN_ne (B := B) (B' := fun j => if j = 24 then W.heap.size else B j) (i := 24) (j := 3) hLn (by decide) (by simp), valN_ne (B := B) (B' := fun j => if j = 24 then W.heap.size else B j) (i := 24) (j := 7) hLn (by decide) (by simp), valN_ne (B := B) (B' := fun j => if j = 24 then W.heap.size else B j) (i := 24) (j := 10) hLn (by decide) (by simp), valN_ne (B := B) (B' := fun j => if j = 24 then W.heap.size else B j) (i := 24) (j := 12) hLn (by decide) (by simp), valN_ne (B := B) (B' := fun j => if j = 24 then W.heap.size else B j) (i := 24) (j := 15) hLn (by decide) (by simp), valN_ne (B := B) (B' := fun j => if j = 24 then W.heap.size else B j) (i := 24) (j := 18) hLn (by decide) (by simp), valN_ne (B := B) (B' := fun j => if j = 24 then W.heap.size else B j) (i := 24) (j := 21) hLn (by decide) (by simp), valN_eq (B' := fun j => if j = 24 then W.heap.size else B j) (i := 24) hLn]
        rfl
    · rintro a W ⟨B, rfl, hNS⟩
      have hNS2 : Hid _ := hNS
      clear hNS
      unfold frS
      refine wpAny_listed (ls' := #[true, true, true, true, true, true, true, true, true, true, true, true, true, true, true, true, true, true, true, true, true, true, true, true, true, false, false, false]) (by kernel_rfl) ?_
      simp only [valN, List.not_mem_nil, if_false]
      refine wpAny_all (rs := [25]) (by kernel_rfl) (by simp) (fun i hi => ?_)
      simp only [List.mem_singleton] at hi
      subst hi
      refine wpOp_step rfl (fun K hK => ?_)
      go_simp
      refine hK _ _ ?_
      clear hK K
      refine wpAny_all (rs := [26]) (by kernel_rfl) (by simp) (fun i hi => ?_)
      simp only [List.mem_singleton] at hi
      subst hi
      refine wpOp_step rfl (fun K hK => ?_)
      go_simp
      refine hK _ _ ?_
      clear hK K
      refine wpAny_all (rs := [27]) (by kernel_rfl) (by simp) (fun i hi => ?_)
      simp only [List.mem_singleton] at hi
      subst hi
      refine wpOp_step rfl (fun K hK => ?_)
      go_simp
      refine hK _ _ ?_
      clear hK K
      refine wpAny_done (by kernel_rfl) (NoPanic.normal ?_) _
      go_wp2_with fail
      go_meet
      case rel =>
        have h0 := hNS2.out
        exact ⟨B, W.heap.size, .int .i64 2000, rfl, h0.alloc _, heap_alloc_new _ _, h0.below.size, fun i hi e => by have := (Array.getElem?_eq_some_iff.1 (h0.has i hi).1).1; omega⟩
    · refine ⟨fun _ => 0, rfl, ⟨fun i hi => ?_, fun i j hi => ?_, (Below.refl _ _).drew⟩⟩
      · exfalso
        unfold Dn at hi
        simp at hi
        omega
      · exfalso
        unfold Dn at hi
        simp at hi
        omega
  case rest =>
    obtain ⟨B, sb, z, rfl, hNS, hso, hsz, hsb⟩ := hcut
    clear m1 m2 m3 m4 m5 m6 hwrap hwrap2 hwrap3
    have x15 := (hNS.has 15 (Or.inl ⟨by simp, by simp⟩)).1
    have x18 := (hNS.has 18 (Or.inl ⟨by simp, by simp⟩)).1
    have hne : B 15 ≠ B 18 := fun e => by have := hNS.inj 15 18 (Or.inl ⟨by simp, by simp⟩) (Or.inl ⟨by simp, by simp⟩) e; omega
    have hn15 : B 15 ≠ sb := hsb 15 (Or.inl ⟨by simp, by simp⟩)
    have hn18 : B 18 ≠ sb := hsb 18 (Or.inl ⟨by simp, by simp⟩)
    have y8 : wc.cell? ⟨sb, 8, none⟩ = some (.slice (some ⟨B 18, 0, none⟩) (n + 1) (n + 1)) := by simp [World.cell?, hso, searchN]
    have y7 : wc.cell? ⟨sb, 7, none⟩ = some (.slice (some ⟨B 15, 0, none⟩) (n + 1) (n + 1)) := by simp [World.cell?, hso, searchN]
    have HNS : Hid _ := hNS
    have HSO : Hid _ := hso
    have HSB : Hid _ := hsb
    have HB15 : Hid (w.heap.size ≤ B 15) := (hNS.has 15 (Or.inl ⟨by simp, by simp⟩)).2
    have HB18 : Hid (w.heap.size ≤ B 18) := (hNS.has 18 (Or.inl ⟨by simp, by simp⟩)).2
    clear hNS hso hsb
    have x15 : wc.heap[B 15]? = some (.cells (List.replicate (n + 1) (.int .i8 0)).toArray 184) := x15
    have x18 : wc.heap[B 18]? = some (.cells (List.replicate (n + 1) (.int .i8 0)).toArray 184) := x18
    generalize h15 : B 15 = b15 at *
    generalize h18 : B 18 = b18 at *
    have H15 : Hid _ := h15
    have H18 : Hid _ := h18
    clear h15 h18
    have V0 : Hid ((∀ k, k ≠ b15 → k ≠ b18 → wc.heap[k]? = wc.heap[k]?) ∧ wc.heap[b15]? = some (.cells (List.replicate 0 (Value.int .i8 (-1)) ++ List.replicate (n + 1 - 0) (Value.int .i8 0)).toArray 184) ∧ wc.heap[b18]? = some (.cells (List.replicate 0 (Value.int .i8 (-1)) ++ List.replicate (n + 1 - 0) (Value.int .i8 0)).toArray 184) ∧ Kept (fun k => k = b15 ∨ k = b18) wc wc) := ⟨fun _ _ _ => rfl, x15, x18, Kept.refl _ _⟩
    obtain ⟨w0, hw0⟩ : ∃ w0, w0 = wc := ⟨_, rfl⟩
    subst hw0
    apply_assumption
    go_wp2_with fail
    go_loopw [37] (fun t37 W => ∃ i : Nat, i ≤ n + 1 ∧ t37 = .int .i64 (i : Int) ∧ Hid ((∀ k, k ≠ b15 → k ≠ b18 → W.heap[k]? = w0.heap[k]?) ∧ W.heap[b15]? = some (.cells (List.replicate i (Value.int .i8 (-1)) ++ List.replicate (n + 1 - i) (Value.int .i8 0)).toArray 184) ∧ W.heap[b18]? = some (.cells (List.replicate i (Value.int .i8 (-1)) ++ List.replicate (n + 1 - i) (Value.int .i8 0)).toArray 184) ∧ Kept (fun k => k = b15 ∨ k = b18) w0 W)) (fun t37 _ => n + 1 - (intOf t37).toNat)
    case atStart => exact ⟨0, by omega, rfl, ⟨fun _ _ _ => rfl, V0.out.2⟩⟩
    case round =>
      obtain ⟨i, hi, rfl, HV⟩ := hrel
      by_cases hlt : i < n + 1
      · have di : decide ((i : Int) < (n : Int) + 1) = true := decide_eq_true (by omega)
        obtain ⟨e1, e2, e3, e4⟩ := HV.out
        have hl15 : (List.replicate i (Value.int .i8 (-1)) ++ List.replicate (n + 1 - i) (Value.int .i8 0)).length = n + 1 := by simp; omega
        obtain ⟨v1, q1⟩ : ∃ v, wr.cell? ⟨b15, i, none⟩ = some v := ⟨_, by simp only [World.cell?, e2]; rw [List.getElem?_toArray, List.getElem?_eq_getElem (by rw [hl15]; exact hlt)]; rfl⟩
        have f1 : wr.frozen? ⟨b15, i, none⟩ = false := by simp only [World.frozen?, e2]; simp
        have hP1 : (wr.setCell ⟨b15, i, none⟩ (.int .i8 (-1))).heap[b18]? = wr.heap[b18]? := Below.heap_setCell _ _ _ _ hne.symm
        obtain ⟨v2, q2⟩ : ∃ v, (wr.setCell ⟨b15, i, none⟩ (.int .i8 (-1))).cell? ⟨b18, i, none⟩ = some v := ⟨_, by simp only [World.cell?, hP1, e3]; rw [List.getElem?_toArray, List.getElem?_eq_getElem (by rw [hl15]; exact hlt)]; rfl⟩
        have f2 : (wr.setCell ⟨b15, i, none⟩ (.int .i8 (-1))).frozen? ⟨b18, i, none⟩ = false := by simp only [World.frozen?, hP1, e3]; simp
        have HST : Hid (∀ W : World, (∀ k, k ≠ b15 → k ≠ b18 → W.heap[k]? = wr.heap[k]?) → W.cell? ⟨sb, 7, none⟩ = some (.slice (some ⟨b15, 0, none⟩) (n + 1) (n + 1)) ∧ W.cell? ⟨sb, 8, none⟩ = some (.slice (some ⟨b18, 0, none⟩) (n + 1) (n + 1))) := fun W hW => by
          have := (hW sb hn15.symm hn18.symm).trans (e1 sb hn15.symm hn18.symm)
          exact ⟨(World.cell?_of_block (a := ⟨sb, 7, none⟩) this).trans y7, (World.cell?_of_block (a := ⟨sb, 8, none⟩) this).trans y8⟩
        have hwrap : IntKind.i64.wrap ((i : Int) + 1) = (i : Int) + 1 := by rw [IntKind.wrap_i64]; omega
        have dn : (i : Int) < (n : Int) + 1 := by omega
        have HSET : Hid ((List.replicate i (Value.int .i8 (-1)) ++ List.replicate (n + 1 - i) (Value.int .i8 0)).set i (Value.int .i8 (-1)) = List.replicate (i + 1) (Value.int .i8 (-1)) ++ List.replicate (n + 1 - (i + 1)) (Value.int .i8 0)) := by
          show _ = _
          have e : n + 1 - i = (n + 1 - (i + 1)) + 1 := by omega
          rw [List.set_append_right _ _ (by simp), e, List.replicate_succ, List.replicate_succ']
          simp
        clear e1 e2 e3 e4 hP1 V0 x15 x18 y7 y8 hl15
        go_wp2_with fail
        refine wp_region_noPanic ?_
        refine wp_region_held_drew (S := fun W => W.cell? ⟨sb, 7, none⟩ = some (.slice (some ⟨b15, 0, none⟩) (n + 1) (n + 1)) ∧ W.cell? ⟨sb, 8, none⟩ = some (.slice (some ⟨b18, 0, none⟩) (n + 1) (n + 1))) (by kernel_rfl) ?_ (fun hHeld => ?_)
        · (first | exact HST.out _ (fun k h1 h2 => rfl) | exact HST.out _ (fun k h1 h2 => Below.heap_setCell _ _ _ _ h1) | exact HST.out _ (fun k h1 h2 => (Below.heap_setCell _ _ _ _ h2).trans (Below.heap_setCell _ _ _ _ h1)))
        refine wpAnyH_take (i := 0) (oi := _) (v := ?_) rfl (by kernel_rfl) (by kernel_rfl) (by kernel_rfl) (fun _ _ _ h => h) (Or.inl ⟨by rfl, ?_⟩) (by assumption) ?_
        rotate_left 1
        · intro w hSw; (try dsimp only at hSw); go_simp; (try with_reducible rfl)
        try simp only [Act.put, List.getElem_toArray, List.getElem_cons_zero, List.setIfInBounds_toArray, List.set_cons_zero, List.set_cons_succ]
        refine wpAnyH_take (i := 1) (oi := _) (v := ?_) rfl (by kernel_rfl) (by kernel_rfl) (by kernel_rfl) (fun _ _ _ h => h) (Or.inl ⟨by rfl, ?_⟩) (by assumption) ?_
        rotate_left 1
        · intro w hSw; (try dsimp only at hSw); go_simp; (try with_reducible rfl)
        try simp only [Act.put, List.getElem_toArray, List.getElem_cons_succ, List.getElem_cons_zero, List.setIfInBounds_toArray, List.set_cons_zero, List.set_cons_succ]
        refine wpAnyH_take (i := 2) (oi := _) (v := ?_) rfl (by kernel_rfl) (by kernel_rfl) (by kernel_rfl) (fun _ _ _ h => h) (Or.inl ⟨by rfl, ?_⟩) (by assumption) ?_
        rotate_left 1
        · intro w hSw; (try dsimp only at hSw); go_simp; (try with_reducible rfl)
        try simp only [Act.put, List.getElem_toArray, List.getElem_cons_succ, List.getElem_cons_zero, List.setIfInBounds_toArray, List.set_cons_zero, List.set_cons_succ]
        refine wpAnyH_take (i := 3) (oi := _) (v := ?_) rfl (by kernel_rfl) (by kernel_rfl) (by kernel_rfl) (fun _ _ _ h => h) (Or.inl ⟨by rfl, ?_⟩) (by assumption) ?_
        rotate_left 1
        · intro w hSw; (try dsimp only at hSw); go_simp; (try with_reducible rfl)
        try simp only [Act.put, List.getElem_toArray, List.getElem_cons_succ, List.getElem_cons_zero, List.setIfInBounds_toArray, List.set_cons_zero, List.set_cons_succ]
        refine wpAnyH_take (i := 4) (oi := _) (v := ?_) rfl (by kernel_rfl) (by kernel_rfl) (by kernel_rfl) (fun _ _ _ h => h) (Or.inl ⟨by rfl, ?_⟩) (by assumption) ?_
        rotate_left 1
        · intro w hSw; (try dsimp only at hSw); go_simp; (try with_reducible rfl)
        try simp only [Act.put, List.getElem_toArray, List.getElem_cons_succ, List.getElem_cons_zero, List.setIfInBounds_toArray, List.set_cons_zero, List.set_cons_succ]
        refine wpAnyH_take (i := 5) (oi := _) (v := ?_) rfl (by kernel_rfl) (by kernel_rfl) (by kernel_rfl) (fun _ _ _ h => h) (Or.inl ⟨by rfl, ?_⟩) (by assumption) ?_
        rotate_left 1
        · intro w hSw; (try dsimp only at hSw); go_simp; (try with_reducible rfl)
        try simp only [Act.put, List.getElem_toArray, List.getElem_cons_succ, List.getElem_cons_zero, List.setIfInBounds_toArray, List.set_cons_zero, List.set_cons_succ]
        refine wpAnyH_take (i := 6) (oi := _) (v := ?_) rfl (by kernel_rfl) (by kernel_rfl) (by kernel_rfl) (fun _ _ _ h => h) (Or.inl ⟨by rfl, ?_⟩) (by assumption) ?_
        rotate_left 1
        · intro w hSw; (try dsimp only at hSw); go_simp; (try with_reducible rfl)
        try simp only [Act.put, List.getElem_toArray, List.getElem_cons_succ, List.getElem_cons_zero, List.setIfInBounds_toArray, List.set_cons_zero, List.set_cons_succ]
        refine wpAnyH_take (i := 7) (oi := _) (v := ?_) rfl (by kernel_rfl) (by kernel_rfl) (by kernel_rfl) (fun _ _ _ h => h) (Or.inl ⟨by rfl, ?_⟩) (by assumption) ?_
        rotate_left 1
        · intro w hSw; (try dsimp only at hSw); go_simp; (try with_reducible rfl)
        try simp only [Act.put, List.getElem_toArray, List.getElem_cons_succ, List.getElem_cons_zero, List.setIfInBounds_toArray, List.set_cons_zero, List.set_cons_succ]
        refine wpAnyH_take (i := 8) (oi := _) (v := ?_) rfl (by kernel_rfl) (by kernel_rfl) (by kernel_rfl) (fun _ _ _ h => h) (Or.inl ⟨by rfl, ?_⟩) (by assumption) ?_
        rotate_left 1
        · intro w hSw; (try dsimp only at hSw); go_simp; (try with_reducible rfl)
        try simp only [Act.put, List.getElem_toArray, List.getElem_cons_succ, List.getElem_cons_zero, List.setIfInBounds_toArray, List.set_cons_zero, List.set_cons_succ]
        refine wpAnyH_take (i := 9) (oi := _) (v := ?_) rfl (by kernel_rfl) (by kernel_rfl) (by kernel_rfl) (fun _ _ _ h => h) (Or.inl ⟨by rfl, ?_⟩) (by assumption) ?_
        rotate_left 1
        · intro w hSw; (try dsimp only at hSw); go_simp; (try with_reducible rfl)
        try simp only [Act.put, List.getElem_toArray, List.getElem_cons_succ, List.getElem_cons_zero, List.setIfInBounds_toArray, List.set_cons_zero, List.set_cons_succ]
        refine wpAnyH_take (i := 10) (oi := _) (v := ?_) rfl (by kernel_rfl) (by kernel_rfl) (by kernel_rfl) (fun _ _ _ h => h) (Or.inl ⟨by rfl, ?_⟩) (by assumption) ?_
        rotate_left 1
        · intro w hSw; (try dsimp only at hSw); go_simp; (try with_reducible rfl)
        try simp only [Act.put, List.getElem_toArray, List.getElem_cons_succ, List.getElem_cons_zero, List.setIfInBounds_toArray, List.set_cons_zero, List.set_cons_succ]
        refine wpAnyH_ready (rs := [11]) (by kernel_rfl) (by simp) ?_
        refine AllReadyH.cons rfl (fun K hK => ?_) AllReadyH.nil
        try simp only [List.getElem_toArray, List.getElem_cons_succ, List.getElem_cons_zero]
        go_simp
        refine hK.out _ _ ?_ (fun hHeld => ?_)
        · (first | exact HST.out _ (fun k h1 h2 => rfl) | exact HST.out _ (fun k h1 h2 => Below.heap_setCell _ _ _ _ h1) | exact HST.out _ (fun k h1 h2 => (Below.heap_setCell _ _ _ _ h2).trans (Below.heap_setCell _ _ _ _ h1)))
        clear hK K
        try simp only [Act.put, List.getElem_toArray, List.getElem_cons_succ, List.getElem_cons_zero, List.setIfInBounds_toArray, List.set_cons_zero, List.set_cons_succ]
        refine wpAnyH_take (i := 12) (oi := _) (v := ?_) rfl (by kernel_rfl) (by kernel_rfl) (by kernel_rfl) (fun _ _ _ h => h) (Or.inl ⟨by rfl, ?_⟩) (by assumption) ?_
        rotate_left 1
        · intro w hSw; (try dsimp only at hSw); go_simp; (try with_reducible rfl)
        try simp only [Act.put, List.getElem_toArray, List.getElem_cons_succ, List.getElem_cons_zero, List.setIfInBounds_toArray, List.set_cons_zero, List.set_cons_succ]
        refine wpAnyH_ready (rs := [13]) (by kernel_rfl) (by simp) ?_
        refine AllReadyH.cons rfl (fun K hK => ?_) AllReadyH.nil
        try simp only [List.getElem_toArray, List.getElem_cons_succ, List.getElem_cons_zero]
        go_simp
        refine hK.out _ _ ?_ (fun hHeld => ?_)
        · (first | exact HST.out _ (fun k h1 h2 => rfl) | exact HST.out _ (fun k h1 h2 => Below.heap_setCell _ _ _ _ h1) | exact HST.out _ (fun k h1 h2 => (Below.heap_setCell _ _ _ _ h2).trans (Below.heap_setCell _ _ _ _ h1)))
        clear hK K
        try simp only [Act.put, List.getElem_toArray, List.getElem_cons_succ, List.getElem_cons_zero, List.setIfInBounds_toArray, List.set_cons_zero, List.set_cons_succ]
        all_goals refine wpAnyH_done (by kernel_rfl) (NoPanic.normal ?_) _
        try simp only [Act.put, List.getElem_toArray, List.getElem_cons_succ, List.getElem_cons_zero, List.setIfInBounds_toArray, List.set_cons_succ, List.set_cons_zero]
        go_wp2_with fail
        refine ⟨⟨i + 1, by omega, by simp, ?_⟩, by simp [intOf]; omega⟩
        obtain ⟨e1, e2, e3, e4⟩ := HV.out
        refine ⟨fun k h1 h2 => ?_, ?_, ?_, ?_⟩
        · exact ((Below.heap_setCell _ _ _ _ h2).trans (Below.heap_setCell _ _ _ _ h1)).trans (e1 k h1 h2)
        · rw [← HSET.out]
          exact (Below.heap_setCell _ _ _ _ hne).trans (setCell_cells e2 i _)
        · rw [← HSET.out]
          exact setCell_cells ((Below.heap_setCell _ _ _ _ hne.symm).trans e3) i _
        · exact ((e4.setCell (p := ⟨b15, i, none⟩) (Or.inl rfl) _).setCell (p := ⟨b18, i, none⟩) (Or.inr rfl) _).drew
      · have di : decide ((i : Int) < (n : Int) + 1) = false := decide_eq_false (by omega)
        have hie : i = n + 1 := by omega
        clear V0 x15 x18 y7 y8
        go_wp2_with fail
        go_ret
        obtain ⟨e1, e2, e3, e4⟩ := HV.out
        rw [hie] at e2 e3
        simp only [Nat.sub_self, List.replicate_zero, List.append_nil] at e2 e3
        obtain ⟨A, g1, g2, g3⟩ := newMem hn HNS.out HSO.out hsz HSB.out (W := wr) (by rw [H15.out, H18.out]; exact e1) (by rw [H15.out]; exact e2) (by rw [H18.out]; exact e3)
        refine ⟨sb, A, rfl, g1, g2, g3, HNS.out.below.trans ⟨e4.os, e4.tape, e4.output, e4.size, fun k hk => e4.block k (Nat.lt_of_lt_of_le hk HNS.out.below.size) (fun h => ?_)⟩⟩
        have q1 := HB15.out
        have q2 := HB18.out
        omega

end Go.Proofs.YtlehlgipbhfioaaGreat
