/- Package sat: newOrder. Package sat: newSearch. -/
import Derived.Test.YtlehlgipbhfioaaGreatP21
namespace Go.Proofs.YtlehlgipbhfioaaGreat
open Go.RowKit Go.Maps

theorem madeCells_one (z : Value) (n : Nat) : madeCells #[z] n = (List.replicate n z).toArray := by
  apply Array.ext
  · simp [madeCells]
  · intro i h1 h2
    simp [madeCells, Nat.mod_one]

theorem infoU64 : (Tryz.prog.info? 268).map (fun i => (i.zero, i.size, i.bytes)) = some (some (.int .u64 0), 1, 8) := by kernel_rfl
theorem infoVar : (Tryz.prog.info? 237).map (fun i => (i.zero, i.size, i.bytes)) = some (some (.int .i32 0), 1, 4) := by kernel_rfl
theorem make_u64s (w : World) (n : Nat) (hn : n ≤ 1048577) : (Instr.makeSlice 267 (.int .i64 (n : Int)) (.int .i64 (n : Int))).run Tryz.prog w = .ok (.slice (some ⟨w.heap.size, 0, none⟩) n n) (w.alloc (.cells (List.replicate n (.int .u64 0)).toArray 268)) := by
  obtain ⟨i0, hi0, hz0, hz1, hz2⟩ := info_parts infoU64
  have hmk := run_make (P := Tryz.prog) w 267 268 i0 _ Tryz.underlying267 hi0 hz0 .i64 .i64 (n : Int) (n : Int) (by omega) (Int.le_refl _) (by rw [hz2]; omega) (by omega)
  rw [hz1] at hmk
  simp only [Int.toNat_natCast, Nat.mul_one] at hmk
  rw [← madeCells_one]
  exact hmk
theorem make_vars (w : World) (n : Nat) (hn : n ≤ 1048577) : (Instr.makeSlice 189 (.int .i64 (n : Int)) (.int .i64 (n : Int))).run Tryz.prog w = .ok (.slice (some ⟨w.heap.size, 0, none⟩) n n) (w.alloc (.cells (List.replicate n (.int .i32 0)).toArray 237)) := by
  obtain ⟨i0, hi0, hz0, hz1, hz2⟩ := info_parts infoVar
  have hmk := run_make (P := Tryz.prog) w 189 237 i0 _ Tryz.underlying189 hi0 hz0 .i64 .i64 (n : Int) (n : Int) (by omega) (Int.le_refl _) (by rw [hz2]; omega) (by omega)
  rw [hz1] at hmk
  simp only [Int.toNat_natCast, Nat.mul_one] at hmk
  rw [← madeCells_one]
  exact hmk
theorem make_intsS (w : World) (n : Nat) (hn : n ≤ 1048577) : (Instr.makeSlice 39 (.int .i64 (n : Int)) (.int .i64 (n : Int))).run Tryz.prog w = .ok (.slice (some ⟨w.heap.size, 0, none⟩) n n) (w.alloc (.cells (List.replicate n (.int .i64 0)).toArray 3)) := by
  obtain ⟨i0, hi0, hz0, hz1, hz2⟩ := info_parts infoIntS
  have hmk := run_make (P := Tryz.prog) w 39 3 i0 _ Tryz.underlying39 hi0 hz0 .i64 .i64 (n : Int) (n : Int) (by omega) (Int.le_refl _) (by rw [hz2]; omega) (by omega)
  rw [hz1] at hmk
  simp only [Int.toNat_natCast, Nat.mul_one] at hmk
  rw [← madeCells_one]
  exact hmk

/-- An order, and what its heap and places hold. -/
structure OrdAt (w W : World) (n ob hb pb cb : Nat) (hs ps : List Value) : Prop where
  o : W.heap[ob]? = some (.cells #[.slice (some ⟨cb, 0, none⟩) (n + 1) (n + 1), .slice (some ⟨hb, 0, none⟩) (n + 1) (n + 1), .slice (some ⟨pb, 0, none⟩) (n + 1) (n + 1), .int .u64 1024] 270)
  h : W.heap[hb]? = some (.cells hs.toArray 237)
  p : W.heap[pb]? = some (.cells ps.toArray 3)
  c : W.heap[cb]? = some (.cells (List.replicate (n + 1) (.int .u64 0)).toArray 268)
  hl : hs.length = n + 1
  pl : ps.length = n + 1
  ne : ob ≠ hb ∧ ob ≠ pb ∧ ob ≠ cb ∧ hb ≠ pb ∧ hb ≠ cb ∧ pb ≠ cb
  new : w.heap.size ≤ ob ∧ w.heap.size ≤ hb ∧ w.heap.size ≤ pb ∧ w.heap.size ≤ cb
  below : Below w.heap.size w W

theorem OrdAt.drew {w W : World} {n ob hb pb cb : Nat} {hs ps : List Value} (h : OrdAt w W n ob hb pb cb hs ps) (m : Nat) : OrdAt w (W.drewN m) n ob hb pb cb hs ps :=
  ⟨h.o, h.h, h.p, h.c, h.hl, h.pl, h.ne, h.new, ⟨h.below.os, h.below.tape, h.below.output, h.below.size, h.below.block⟩⟩

theorem four_blocks (w : World) (O0 O1 O2 O3 : Obj) : ((((w.alloc O0).alloc O1).alloc O2).alloc O3).heap[w.heap.size]? = some O0 ∧ ((((w.alloc O0).alloc O1).alloc O2).alloc O3).heap[w.heap.size + 1]? = some O1 ∧ ((((w.alloc O0).alloc O1).alloc O2).alloc O3).heap[w.heap.size + 1 + 1]? = some O2 ∧ ((((w.alloc O0).alloc O1).alloc O2).alloc O3).heap[w.heap.size + 1 + 1 + 1]? = some O3 ∧ Below w.heap.size w ((((w.alloc O0).alloc O1).alloc O2).alloc O3) := by
  have z0 : (w.alloc O0).heap.size = w.heap.size + 1 := by simp
  have z1 : ((w.alloc O0).alloc O1).heap.size = w.heap.size + 1 + 1 := by simp
  have z2 : (((w.alloc O0).alloc O1).alloc O2).heap.size = w.heap.size + 1 + 1 + 1 := by simp
  refine ⟨?_, ?_, ?_, ?_, (((Below.alloc (Below.alloc ((Below.refl _ _).alloc (Nat.le_refl _) O0) (by omega) O1) (by omega) O2)).alloc (by omega) O3)⟩
  · rw [Below.heap_alloc _ _ _ (by omega), Below.heap_alloc _ _ _ (by omega), Below.heap_alloc _ _ _ (by omega)]
    exact heap_alloc_new w O0
  · rw [Below.heap_alloc _ _ _ (by omega), Below.heap_alloc _ _ _ (by omega), ← z0]
    exact heap_alloc_new _ O1
  · rw [Below.heap_alloc _ _ _ (by omega), ← z1]
    exact heap_alloc_new _ O2
  · rw [← z2]
    exact heap_alloc_new _ O3

theorem range_set (f : Nat → Value) (z : Value) {i m : Nat} (h : i < m) : ((List.range i).map f ++ List.replicate (m - i) z).set i (f i) = (List.range (i + 1)).map f ++ List.replicate (m - (i + 1)) z := by
  have e : m - i = (m - (i + 1)) + 1 := by omega
  rw [List.set_append_right _ _ (by simp), e, List.replicate_succ, List.range_succ, List.map_append]
  simp

/-- A place is filled in. -/
theorem OrdAt.set {w W : World} {n ob hb pb cb : Nat} {hs ps : List Value} (h : OrdAt w W n ob hb pb cb hs ps) (i : Nat) (x y : Value) :
    OrdAt w ((W.setCell ⟨hb, i, none⟩ x).setCell ⟨pb, i, none⟩ y) n ob hb pb cb (hs.set i x) (ps.set i y) := by
  obtain ⟨n1, n2, n3, n4, n5, n6⟩ := h.ne
  refine ⟨?_, ?_, ?_, ?_, by simp [h.hl], by simp [h.pl], h.ne, h.new, ?_⟩
  · rw [Below.heap_setCell _ _ _ _ n2, Below.heap_setCell _ _ _ _ n1]; exact h.o
  · rw [Below.heap_setCell _ _ _ _ n4]
    unfold World.setCell
    simp [Array.getElem?_modify, h.h]
  · have := h.p
    rw [← Below.heap_setCell W ⟨hb, i, none⟩ x pb n4.symm] at this
    generalize W.setCell ⟨hb, i, none⟩ x = W1 at *
    unfold World.setCell
    simp [Array.getElem?_modify, this]
  · rw [Below.heap_setCell _ _ _ _ n6.symm, Below.heap_setCell _ _ _ _ n5.symm]; exact h.c
  · exact (h.below.setCell (p := ⟨hb, i, none⟩) h.new.2.1 _).setCell (p := ⟨pb, i, none⟩) h.new.2.2.1 _

set_option maxRecDepth 100000 in
set_option maxHeartbeats 1000000 in
theorem newOrder_in (w : World) (n : Nat) (hn : n ≤ 2000) :
    Calls Tryz.prog 123 #[.int .i64 (n : Int)] w fun e w' => ∃ ob hb pb cb : Nat, e = .returned (.pointer (some ⟨ob, 0, none⟩)) ∧ OrdAt w w' n ob hb pb cb ((List.range (n + 1)).map i32) ((List.range (n + 1)).map i64) := by
  have hwrap : IntKind.i64.wrap ((n : Int) + 1) = (n : Int) + 1 := by rw [IntKind.wrap_i64]; omega
  have m1 : ∀ W : World, _ := fun W => by
    have q := make_u64s W (n + 1) (by omega)
    rw [show ((n + 1 : Nat) : Int) = (n : Int) + 1 from by simp] at q
    exact q
  have m2 : ∀ W : World, _ := fun W => by
    have q := make_vars W (n + 1) (by omega)
    rw [show ((n + 1 : Nat) : Int) = (n : Int) + 1 from by simp] at q
    exact q
  have m3 : ∀ W : World, _ := fun W => by
    have q := make_intsS W (n + 1) (by omega)
    rw [show ((n + 1 : Nat) : Int) = (n : Int) + 1 from by simp] at q
    exact q
  go_enter Tryz.func123, Tryz.ntmps123
  go_wp2_with fail
  go_cut [3] from 5 to 15 (fun v3 wx => ∃ ob hb pb cb : Nat, v3 = .pointer (some ⟨ob, 0, none⟩) ∧ OrdAt w wx n ob hb pb cb (List.replicate (n + 1) (.int .i32 0)) (List.replicate (n + 1) (.int .i64 0)))
  case first =>
    go_region_law (fail)
    all_goals
      try simp only [Act.put, List.getElem_toArray, List.getElem_cons_succ, List.getElem_cons_zero, List.setIfInBounds_toArray, List.set_cons_succ, List.set_cons_zero]
      go_wp2_with fail
      go_meet
      case rel =>
        refine ⟨_, _, _, _, rfl, OrdAt.drew ⟨(four_blocks w _ _ _ _).2.2.2.1, ?_, ?_, ?_, by simp, by simp, ⟨by omega, by omega, by omega, by omega, by omega, by omega⟩, ⟨by omega, by omega, by omega, by omega⟩, (four_blocks w _ _ _ _).2.2.2.2⟩ 1⟩
        all_goals
          rw [List.toArray_replicate]
          first
          | exact (four_blocks w _ _ _ _).1
          | exact (four_blocks w _ _ _ _).2.1
          | exact (four_blocks w _ _ _ _).2.2.1
  case rest =>
    obtain ⟨ob, hb, pb, cb, rfl, V0⟩ := hcut
    clear m1 m2 m3 hwrap
    have o1 : wc.cell? ⟨ob, 1, none⟩ = some (.slice (some ⟨hb, 0, none⟩) (n + 1) (n + 1)) := by simp [World.cell?, V0.o]
    apply_assumption
    go_wp2_with fail
    go_loopw [21] (fun t21 W => ∃ i : Nat, i ≤ n + 1 ∧ t21 = .int .i64 (i : Int) ∧ OrdAt w W n ob hb pb cb ((List.range i).map i32 ++ List.replicate (n + 1 - i) (.int .i32 0)) ((List.range i).map i64 ++ List.replicate (n + 1 - i) (.int .i64 0))) (fun t21 _ => n + 1 - (intOf t21).toNat)
    case atStart => exact ⟨0, by omega, rfl, V0⟩
    case round =>
      obtain ⟨i, hi, rfl, V1⟩ := hrel
      by_cases hlt : i < n + 1
      · have di : decide ((i : Int) < (n : Int) + 1) = true := decide_eq_true (by omega)
        have hhl : ((List.range i).map i32 ++ List.replicate (n + 1 - i) (Value.int .i32 0)).length = n + 1 := V1.hl
        have hpl : ((List.range i).map i64 ++ List.replicate (n + 1 - i) (Value.int .i64 0)).length = n + 1 := V1.pl
        obtain ⟨v1, q1⟩ : ∃ v, wr.cell? ⟨hb, i, none⟩ = some v := ⟨_, by simp only [World.cell?, V1.h]; rw [List.getElem?_toArray, List.getElem?_eq_getElem (by rw [hhl]; exact hlt)]; rfl⟩
        have f1 : wr.frozen? ⟨hb, i, none⟩ = false := by simp [World.frozen?, V1.h]
        have hbp : hb ≠ pb := V1.ne.2.2.2.1
        have hP1 : (wr.setCell ⟨hb, i, none⟩ (.int .i32 (i : Int))).heap[pb]? = wr.heap[pb]? := Below.heap_setCell _ _ _ _ hbp.symm
        obtain ⟨v2, q2⟩ : ∃ v, (wr.setCell ⟨hb, i, none⟩ (.int .i32 (i : Int))).cell? ⟨pb, i, none⟩ = some v := ⟨_, by simp only [World.cell?, hP1, V1.p]; rw [List.getElem?_toArray, List.getElem?_eq_getElem (by rw [hpl]; exact hlt)]; rfl⟩
        have f2 : (wr.setCell ⟨hb, i, none⟩ (.int .i32 (i : Int))).frozen? ⟨pb, i, none⟩ = false := by simp only [World.frozen?, hP1, V1.p]; simp
        have HST : Hid (∀ W : World, (∀ k, k ≠ hb → k ≠ pb → W.heap[k]? = wr.heap[k]?) → W.cell? ⟨ob, 1, none⟩ = some (.slice (some ⟨hb, 0, none⟩) (n + 1) (n + 1)) ∧ W.cell? ⟨ob, 2, none⟩ = some (.slice (some ⟨pb, 0, none⟩) (n + 1) (n + 1))) := fun W hW => by
          have := hW ob V1.ne.1 V1.ne.2.1
          constructor
          · simp [World.cell?, this, V1.o]
          · simp [World.cell?, this, V1.o]
        have hw32 : IntKind.i32.wrap (i : Int) = (i : Int) := by rw [IntKind.wrap_i32]; omega
        have hwrap : IntKind.i64.wrap ((i : Int) + 1) = (i : Int) + 1 := by rw [IntKind.wrap_i64]; omega
        have dn : (i : Int) < (n : Int) + 1 := by omega
        have HV : Hid _ := V1
        clear V1 V0 o1 hP1
        go_wp2_with fail
        refine wp_region_noPanic ?_
        refine wp_region_held_drew (S := fun W => W.cell? ⟨ob, 1, none⟩ = some (.slice (some ⟨hb, 0, none⟩) (n + 1) (n + 1)) ∧ W.cell? ⟨ob, 2, none⟩ = some (.slice (some ⟨pb, 0, none⟩) (n + 1) (n + 1))) (by kernel_rfl) ?_ (fun hHeld => ?_)
        · (first | exact HST.out _ (fun k h1 h2 => rfl) | exact HST.out _ (fun k h1 h2 => Below.heap_setCell _ _ _ _ h1) | exact HST.out _ (fun k h1 h2 => (Below.heap_setCell _ _ _ _ h2).trans (Below.heap_setCell _ _ _ _ h1)))
        refine wpAnyH_take (i := 0) (oi := _) (v := ?_) rfl (by kernel_rfl) (by kernel_rfl) (by kernel_rfl) (fun _ _ _ h => h) (Or.inl ⟨by rfl, ?_⟩) (by assumption) ?_
        rotate_left 1
        · intro w hSw; (try dsimp only at hSw); go_simp; (try with_reducible rfl)
        try simp only [Act.put, List.getElem_toArray, List.getElem_cons_zero, List.setIfInBounds_toArray, List.set_cons_zero, List.set_cons_succ]
        refine wpAnyH_take (i := 1) (oi := _) (v := ?_) rfl (by kernel_rfl) (by kernel_rfl) (by kernel_rfl) (fun _ _ _ h => h) (Or.inl ⟨by rfl, ?_⟩) (by assumption) ?_
        rotate_left 1
        · intro w hSw; (try dsimp only at hSw); go_simp; (try with_reducible rfl)
        try simp only [Act.put, List.getElem_toArray, List.getElem_cons_succ, List.getElem_cons_zero, List.setIfInBounds_toArray, List.set_cons_zero, List.set_cons_succ]
        refine wpAnyH_take (i := 2) (oi := _) (v := ?_) rfl (by kernel_rfl) (by kernel_rfl) (by kernel_rfl) (fun _ _ _ h => h) (Or.inl ⟨by rfl, ?_⟩) (by assumption) ?_
        rotate_left 1
        · intro w hSw; (try dsimp only at hSw); go_simp; (try with_reducible rfl)
        try simp only [Act.put, List.getElem_toArray, List.getElem_cons_succ, List.getElem_cons_zero, List.setIfInBounds_toArray, List.set_cons_zero, List.set_cons_succ]
        refine wpAnyH_take (i := 3) (oi := _) (v := ?_) rfl (by kernel_rfl) (by kernel_rfl) (by kernel_rfl) (fun _ _ _ h => h) (Or.inl ⟨by rfl, ?_⟩) (by assumption) ?_
        rotate_left 1
        · intro w hSw; (try dsimp only at hSw); go_simp; (try with_reducible rfl)
        try simp only [Act.put, List.getElem_toArray, List.getElem_cons_succ, List.getElem_cons_zero, List.setIfInBounds_toArray, List.set_cons_zero, List.set_cons_succ]
        refine wpAnyH_take (i := 4) (oi := _) (v := ?_) rfl (by kernel_rfl) (by kernel_rfl) (by kernel_rfl) (fun _ _ _ h => h) (Or.inl ⟨by rfl, ?_⟩) (by assumption) ?_
        rotate_left 1
        · intro w hSw; (try dsimp only at hSw); go_simp; (try with_reducible rfl)
        try simp only [Act.put, List.getElem_toArray, List.getElem_cons_succ, List.getElem_cons_zero, List.setIfInBounds_toArray, List.set_cons_zero, List.set_cons_succ]
        refine wpAnyH_take (i := 5) (oi := _) (v := ?_) rfl (by kernel_rfl) (by kernel_rfl) (by kernel_rfl) (fun _ _ _ h => h) (Or.inl ⟨by rfl, ?_⟩) (by assumption) ?_
        rotate_left 1
        · intro w hSw; (try dsimp only at hSw); go_simp; (try with_reducible rfl)
        try simp only [Act.put, List.getElem_toArray, List.getElem_cons_succ, List.getElem_cons_zero, List.setIfInBounds_toArray, List.set_cons_zero, List.set_cons_succ]
        refine wpAnyH_take (i := 6) (oi := _) (v := ?_) rfl (by kernel_rfl) (by kernel_rfl) (by kernel_rfl) (fun _ _ _ h => h) (Or.inl ⟨by rfl, ?_⟩) (by assumption) ?_
        rotate_left 1
        · intro w hSw; (try dsimp only at hSw); go_simp; (try with_reducible rfl)
        try simp only [Act.put, List.getElem_toArray, List.getElem_cons_succ, List.getElem_cons_zero, List.setIfInBounds_toArray, List.set_cons_zero, List.set_cons_succ]
        refine wpAnyH_take (i := 7) (oi := _) (v := ?_) rfl (by kernel_rfl) (by kernel_rfl) (by kernel_rfl) (fun _ _ _ h => h) (Or.inl ⟨by rfl, ?_⟩) (by assumption) ?_
        rotate_left 1
        · intro w hSw; (try dsimp only at hSw); go_simp; (try with_reducible rfl)
        try simp only [Act.put, List.getElem_toArray, List.getElem_cons_succ, List.getElem_cons_zero, List.setIfInBounds_toArray, List.set_cons_zero, List.set_cons_succ]
        refine wpAnyH_take (i := 8) (oi := _) (v := ?_) rfl (by kernel_rfl) (by kernel_rfl) (by kernel_rfl) (fun _ _ _ h => h) (Or.inl ⟨by rfl, ?_⟩) (by assumption) ?_
        rotate_left 1
        · intro w hSw; (try dsimp only at hSw); go_simp; (try with_reducible rfl)
        try simp only [Act.put, List.getElem_toArray, List.getElem_cons_succ, List.getElem_cons_zero, List.setIfInBounds_toArray, List.set_cons_zero, List.set_cons_succ]
        refine wpAnyH_take (i := 9) (oi := _) (v := ?_) rfl (by kernel_rfl) (by kernel_rfl) (by kernel_rfl) (fun _ _ _ h => h) (Or.inl ⟨by rfl, ?_⟩) (by assumption) ?_
        rotate_left 1
        · intro w hSw; (try dsimp only at hSw); go_simp; (try with_reducible rfl)
        try simp only [Act.put, List.getElem_toArray, List.getElem_cons_succ, List.getElem_cons_zero, List.setIfInBounds_toArray, List.set_cons_zero, List.set_cons_succ]
        refine wpAnyH_take (i := 10) (oi := _) (v := ?_) rfl (by kernel_rfl) (by kernel_rfl) (by kernel_rfl) (fun _ _ _ h => h) (Or.inl ⟨by rfl, ?_⟩) (by assumption) ?_
        rotate_left 1
        · intro w hSw; (try dsimp only at hSw); go_simp; (try with_reducible rfl)
        try simp only [Act.put, List.getElem_toArray, List.getElem_cons_succ, List.getElem_cons_zero, List.setIfInBounds_toArray, List.set_cons_zero, List.set_cons_succ]
        refine wpAnyH_take (i := 11) (oi := _) (v := ?_) rfl (by kernel_rfl) (by kernel_rfl) (by kernel_rfl) (fun _ _ _ h => h) (Or.inl ⟨by rfl, ?_⟩) (by assumption) ?_
        rotate_left 1
        · intro w hSw; (try dsimp only at hSw); go_simp; (try with_reducible rfl)
        try simp only [Act.put, List.getElem_toArray, List.getElem_cons_succ, List.getElem_cons_zero, List.setIfInBounds_toArray, List.set_cons_zero, List.set_cons_succ]
        refine wpAnyH_take (i := 12) (oi := _) (v := ?_) rfl (by kernel_rfl) (by kernel_rfl) (by kernel_rfl) (fun _ _ _ h => h) (Or.inl ⟨by rfl, ?_⟩) (by assumption) ?_
        rotate_left 1
        · intro w hSw; (try dsimp only at hSw); go_simp; (try with_reducible rfl)
        try simp only [Act.put, List.getElem_toArray, List.getElem_cons_succ, List.getElem_cons_zero, List.setIfInBounds_toArray, List.set_cons_zero, List.set_cons_succ]
        refine wpAnyH_take (i := 13) (oi := _) (v := ?_) rfl (by kernel_rfl) (by kernel_rfl) (by kernel_rfl) (fun _ _ _ h => h) (Or.inl ⟨by rfl, ?_⟩) (by assumption) ?_
        rotate_left 1
        · intro w hSw; (try dsimp only at hSw); go_simp; (try with_reducible rfl)
        try simp only [Act.put, List.getElem_toArray, List.getElem_cons_succ, List.getElem_cons_zero, List.setIfInBounds_toArray, List.set_cons_zero, List.set_cons_succ]
        refine wpAnyH_ready (rs := [14]) (by kernel_rfl) (by simp) ?_
        refine AllReadyH.cons rfl (fun K hK => ?_) AllReadyH.nil
        try simp only [List.getElem_toArray, List.getElem_cons_succ, List.getElem_cons_zero]
        go_simp
        refine hK.out _ _ ?_ (fun hHeld => ?_)
        · (first | exact HST.out _ (fun k h1 h2 => rfl) | exact HST.out _ (fun k h1 h2 => Below.heap_setCell _ _ _ _ h1) | exact HST.out _ (fun k h1 h2 => (Below.heap_setCell _ _ _ _ h2).trans (Below.heap_setCell _ _ _ _ h1)))
        clear hK K
        try simp only [Act.put, List.getElem_toArray, List.getElem_cons_succ, List.getElem_cons_zero, List.setIfInBounds_toArray, List.set_cons_zero, List.set_cons_succ]
        refine wpAnyH_take (i := 15) (oi := _) (v := ?_) rfl (by kernel_rfl) (by kernel_rfl) (by kernel_rfl) (fun _ _ _ h => h) (Or.inl ⟨by rfl, ?_⟩) (by assumption) ?_
        rotate_left 1
        · intro w hSw; (try dsimp only at hSw); go_simp; (try with_reducible rfl)
        try simp only [Act.put, List.getElem_toArray, List.getElem_cons_succ, List.getElem_cons_zero, List.setIfInBounds_toArray, List.set_cons_zero, List.set_cons_succ]
        refine wpAnyH_ready (rs := [16]) (by kernel_rfl) (by simp) ?_
        refine AllReadyH.cons rfl (fun K hK => ?_) AllReadyH.nil
        try simp only [List.getElem_toArray, List.getElem_cons_succ, List.getElem_cons_zero]
        go_simp
        refine hK.out _ _ ?_ (fun hHeld => ?_)
        · (first | exact HST.out _ (fun k h1 h2 => rfl) | exact HST.out _ (fun k h1 h2 => Below.heap_setCell _ _ _ _ h1) | exact HST.out _ (fun k h1 h2 => (Below.heap_setCell _ _ _ _ h2).trans (Below.heap_setCell _ _ _ _ h1)))
        clear hK K
        try simp only [Act.put, List.getElem_toArray, List.getElem_cons_succ, List.getElem_cons_zero, List.setIfInBounds_toArray, List.set_cons_zero, List.set_cons_succ]
        all_goals refine wpAnyH_done (by kernel_rfl) (NoPanic.normal ?_) _
        try simp only [Act.put, List.getElem_toArray, List.getElem_cons_succ, List.getElem_cons_zero, List.setIfInBounds_toArray, List.set_cons_succ, List.set_cons_zero]
        go_wp2_with fail
        refine ⟨⟨i + 1, by omega, by simp, ?_⟩, by simp [intOf]; omega⟩
        have := (HV.out.set i (i32 i) (i64 i)).drew 1
        rw [range_set i32 _ hlt, range_set i64 _ hlt] at this
        exact this
      · have di : decide ((i : Int) < (n : Int) + 1) = false := decide_eq_false (by omega)
        have hie : i = n + 1 := by omega
        have HV : Hid _ := V1
        clear V1 V0 o1
        go_wp2_with fail
        go_ret
        have := HV.out
        rw [hie] at this
        simp only [Nat.sub_self, List.replicate_zero, List.append_nil] at this
        exact ⟨ob, hb, pb, cb, rfl, this⟩

end Go.Proofs.YtlehlgipbhfioaaGreat

namespace Go.Proofs.YtlehlgipbhfioaaGreat
open Go.RowKit Go.Maps

/-- Those of todo that are not in L have come up. -/
abbrev markB (b : Array Bool) (todo L : List Nat) : Array Bool := b.mapIdx fun j x => x || (todo.contains j && !L.contains j)
theorem markB_step {b : Array Bool} {todo L : List Nat} {i : Nat} (hn : L.Nodup) (ht : i ∈ todo) : (markB b todo L).setIfInBounds i true = markB b todo (L.erase i) := by
  have hg : ∀ (L : List Nat) (j : Nat) (h : j < (markB b todo L).size), (markB b todo L)[j] = (b[j]'(by simpa [markB] using h) || (todo.contains j && !L.contains j)) := fun L j h => by
    exact Array.getElem_mapIdx ..
  have hsz : ∀ L, (markB b todo L).size = b.size := fun L => by simp [markB]
  apply Array.ext
  · rw [Array.size_setIfInBounds, hsz, hsz]
  · intro j h1 h2
    have h3 : j < (markB b todo L).size := by rw [hsz]; rw [hsz] at h2; exact h2
    rw [Array.getElem_setIfInBounds h3, hg, hg]
    by_cases e : i = j
    · subst e
      rw [if_pos rfl]
      have : (L.erase i).contains i = false := by
        rw [Bool.eq_false_iff]
        intro hc
        have hm := List.contains_iff_mem.1 hc
        exact ((List.Nodup.mem_erase_iff hn).1 hm).1 rfl
      rw [this]
      simp [ht]
    · rw [if_neg e]
      have : (L.erase i).contains j = L.contains j := by
        rw [Bool.eq_iff_iff]
        simp only [List.contains_iff_mem]
        rw [List.Nodup.mem_erase_iff hn]
        exact ⟨fun h => h.2, fun h => ⟨fun e2 => e e2.symm, h⟩⟩
      rw [this]

def subsL : List Nat → List (List Nat)
  | [] => [[]]
  | x :: xs => subsL xs ++ (subsL xs).map (x :: ·)
theorem mem_subsL : ∀ {todo L : List Nat}, L.Sublist todo → L ∈ subsL todo
  | [], L, h => by cases h; simp [subsL]
  | x :: xs, L, h => by
    rw [subsL, List.mem_append]
    cases h with
    | cons _ h => exact Or.inl (mem_subsL h)
    | cons_cons _ h => exact Or.inr (List.mem_map.2 ⟨_, mem_subsL h, rfl⟩)

/-- Operations that may come up in whichever order: an invariant over those that have not come up. -/
theorem wpAny_many {P : Program} {ops : Array Oper} {Q : Exit → Act → World → Prop} {md : Region.Mode} {b : Array Bool} {todo : List Nat} (hnd : todo.Nodup)
    (hr : (subsL todo).all (fun L => L.isEmpty || decide (Region.ready md ops (markB b todo L) = L)) = true) {J : List Nat → Act → World → Prop} {fuel : Nat}
    (hs : ∀ L a w, L.Sublist todo → J L a w → ∀ i ∈ L, wpOp P ops Q i (fun a' w' => J (L.erase i) a' w') a w)
    (he : ∀ a w, J [] a w → wpAny P md ops Q fuel (markB b todo []) a w) :
    ∀ (k : Nat) (L : List Nat) (a : Act) (w : World), L.length = k → L.Sublist todo → J L a w → wpAny P md ops Q (k + fuel) (markB b todo L) a w
  | 0, L, a, w, hk, _, hJ => by
    have : L = [] := List.eq_nil_of_length_eq_zero hk
    subst this
    rw [Nat.zero_add]
    exact he a w hJ
  | k + 1, L, a, w, hk, hL, hJ => by
    have hne : L ≠ [] := fun e => by rw [e] at hk; simp at hk
    have hready : Region.ready md ops (markB b todo L) = L := by
      have := List.all_eq_true.1 hr L (mem_subsL hL)
      simpa [hne] using this
    rw [show k + 1 + fuel = (k + fuel) + 1 from by omega]
    refine wpAny_all hready hne (fun i hi => ?_)
    have hLn : L.Nodup := hnd.sublist hL
    rw [markB_step hLn (hL.subset hi)]
    refine wpOp_mono (fun a' w' hJ' => ?_) (hs L a w hL hJ i hi)
    exact wpAny_many hnd hr hs he k (L.erase i) a' w' (by rw [List.length_erase_of_mem hi]; omega) ((List.erase_sublist ..).trans hL) hJ'

theorem infoTruth : (Tryz.prog.info? 184).map (fun i => (i.zero, i.size, i.bytes)) = some (some (.int .i8 0), 1, 1) := by kernel_rfl
theorem infoWs : (Tryz.prog.info? 272).map (fun i => (i.zero, i.size, i.bytes)) = some (some (.slice none 0 0), 1, 24) := by kernel_rfl
theorem infoSrc : (Tryz.prog.info? 306).map (fun i => (i.zero, i.size, i.bytes)) = some (some (.agg #[.int .i64 0, .pointer none]), 2, 16) := by kernel_rfl
theorem infoBoolS : (Tryz.prog.info? 4).map (fun i => (i.zero, i.size, i.bytes)) = some (some (.bool false), 1, 1) := by kernel_rfl
theorem make_truths (w : World) (n : Nat) (hn : n ≤ 1048577) : (Instr.makeSlice 185 (.int .i64 (n : Int)) (.int .i64 (n : Int))).run Tryz.prog w = .ok (.slice (some ⟨w.heap.size, 0, none⟩) n n) (w.alloc (.cells (List.replicate n (.int .i8 0)).toArray 184)) := by
  obtain ⟨i0, hi0, hz0, hz1, hz2⟩ := info_parts infoTruth
  have hmk := run_make (P := Tryz.prog) w 185 184 i0 _ Tryz.underlying185 hi0 hz0 .i64 .i64 (n : Int) (n : Int) (by omega) (Int.le_refl _) (by rw [hz2]; omega) (by omega)
  rw [hz1] at hmk
  simp only [Int.toNat_natCast, Nat.mul_one] at hmk
  rw [← madeCells_one]
  exact hmk
theorem make_wss (w : World) (n : Nat) (hn : n ≤ 1048577) : (Instr.makeSlice 186 (.int .i64 (n : Int)) (.int .i64 (n : Int))).run Tryz.prog w = .ok (.slice (some ⟨w.heap.size, 0, none⟩) n n) (w.alloc (.cells (List.replicate n (.slice none 0 0)).toArray 272)) := by
  obtain ⟨i0, hi0, hz0, hz1, hz2⟩ := info_parts infoWs
  have hmk := run_make (P := Tryz.prog) w 186 272 i0 _ Tryz.underlying186 hi0 hz0 .i64 .i64 (n : Int) (n : Int) (by omega) (Int.le_refl _) (by rw [hz2]; omega) (by omega)
  rw [hz1] at hmk
  simp only [Int.toNat_natCast, Nat.mul_one] at hmk
  rw [← madeCells_one]
  exact hmk
theorem make_srcs (w : World) (n : Nat) (hn : n ≤ 1048577) : (Instr.makeSlice 187 (.int .i64 (n : Int)) (.int .i64 (n : Int))).run Tryz.prog w = .ok (.slice (some ⟨w.heap.size, 0, none⟩) n n) (w.alloc (.cells (madeCells #[.int .i64 0, .pointer none] (n * 2)) 306)) := by
  obtain ⟨i0, hi0, hz0, hz1, hz2⟩ := info_parts infoSrc
  have hmk := run_make (P := Tryz.prog) w 187 306 i0 _ Tryz.underlying187 hi0 hz0 .i64 .i64 (n : Int) (n : Int) (by omega) (Int.le_refl _) (by rw [hz2]; omega) (by omega)
  rw [hz1] at hmk
  simp only [Int.toNat_natCast] at hmk
  exact hmk
theorem make_boolsS (w : World) (n : Nat) (hn : n ≤ 1048577) : (Instr.makeSlice 120 (.int .i64 (n : Int)) (.int .i64 (n : Int))).run Tryz.prog w = .ok (.slice (some ⟨w.heap.size, 0, none⟩) n n) (w.alloc (.cells (List.replicate n (.bool false)).toArray 4)) := by
  obtain ⟨i0, hi0, hz0, hz1, hz2⟩ := info_parts infoBoolS
  have hmk := run_make (P := Tryz.prog) w 120 4 i0 _ Tryz.underlying120 hi0 hz0 .i64 .i64 (n : Int) (n : Int) (by omega) (Int.le_refl _) (by rw [hz2]; omega) (by omega)
  rw [hz1] at hmk
  simp only [Int.toNat_natCast, Nat.mul_one] at hmk
  rw [← madeCells_one]
  exact hmk

/-- What the rows of a new search hold, by the operation that makes them. -/
def objN (n : Nat) : Nat → Obj
  | 3 => .cells (List.replicate (2 * n + 2) (.int .i8 0)).toArray 184
  | 7 => .cells (List.replicate (2 * n + 2) (.slice none 0 0)).toArray 272
  | 10 => .cells (madeCells #[.int .i64 0, .pointer none] ((n + 1) * 2)) 306
  | 21 => .cells (List.replicate (n + 1) (.bool false)).toArray 4
  | 24 => .cells (List.replicate (n + 1) (.int .i64 0)).toArray 3
  | _ => .cells (List.replicate (n + 1) (.int .i8 0)).toArray 184
def lenN (n : Nat) : Nat → Nat
  | 3 => 2 * n + 2
  | 7 => 2 * n + 2
  | _ => n + 1
def valN (n : Nat) (B : Nat → Nat) (L : List Nat) (i : Nat) : Value := if i ∈ L then undef else if i = 12 then .pointer (some ⟨B 12, 0, none⟩) else .slice (some ⟨B i, 0, none⟩) (lenN n i) (lenN n i)

/-- Which rows are there. -/
def Dn (L : List Nat) (i : Nat) : Prop := (i ∈ [3, 7, 10, 15, 18, 21, 24] ∧ i ∉ L) ∨ ((i = 12 ∨ i = 100 ∨ i = 101 ∨ i = 102) ∧ 12 ∉ L)
def objD (n : Nat) (B : Nat → Nat) : Nat → Obj
  | 12 => .cells #[.slice (some ⟨B 102, 0, none⟩) (n + 1) (n + 1), .slice (some ⟨B 100, 0, none⟩) (n + 1) (n + 1), .slice (some ⟨B 101, 0, none⟩) (n + 1) (n + 1), .int .u64 1024] 270
  | 100 => .cells ((List.range (n + 1)).map i32).toArray 237
  | 101 => .cells ((List.range (n + 1)).map i64).toArray 3
  | 102 => .cells (List.replicate (n + 1) (.int .u64 0)).toArray 268
  | i => objN n i
structure NS (w W : World) (n : Nat) (L : List Nat) (B : Nat → Nat) : Prop where
  has : ∀ i, Dn L i → W.heap[B i]? = some (objD n B i) ∧ w.heap.size ≤ B i
  inj : ∀ i j, Dn L i → Dn L j → B i = B j → i = j
  below : Below w.heap.size w W

theorem objD_make (n : Nat) (B : Nat → Nat) {i : Nat} (hi : i ∈ [3, 7, 10, 15, 18, 21, 24]) : objD n B i = objN n i := by
  simp at hi
  rcases hi with rfl | rfl | rfl | rfl | rfl | rfl | rfl <;> rfl
theorem objD_congr (n : Nat) {B B' : Nat → Nat} (h : ∀ j, j = 100 ∨ j = 101 ∨ j = 102 → B' j = B j) (i : Nat) : objD n B' i = objD n B i := by
  unfold objD
  split
  · rw [h 100 (by simp), h 101 (by simp), h 102 (by simp)]
  · rfl
  · rfl
  · rfl
  · rfl

theorem NS.make {w W : World} {n : Nat} {L : List Nat} {B : Nat → Nat} (h : NS w W n L B) (hn : L.Nodup) {i : Nat} (hi : i ∈ [3, 7, 10, 15, 18, 21, 24]) : NS w (W.alloc (objN n i)) n (L.erase i) (fun j => if j = i then W.heap.size else B j) := by
  have hi100 : i < 100 := by simp at hi; omega
  have hi12 : i ≠ 12 := by simp at hi; omega
  have hob : ∀ j, objD n (fun j => if j = i then W.heap.size else B j) j = objD n B j := fun j => objD_congr n (fun k hk => if_neg (by omega)) j
  have old : ∀ j, Dn (L.erase i) j → j ≠ i → Dn L j := fun j hj hne => by
    rcases hj with ⟨h1, h2⟩ | ⟨h1, h2⟩
    · exact Or.inl ⟨h1, fun hm => h2 ((List.Nodup.mem_erase_iff hn).2 ⟨hne, hm⟩)⟩
    · exact Or.inr ⟨h1, fun hm => h2 ((List.Nodup.mem_erase_iff hn).2 ⟨fun e => hi12 e.symm, hm⟩)⟩
  have lt : ∀ j, Dn L j → B j < W.heap.size := fun j hj => (Array.getElem?_eq_some_iff.1 (h.has j hj).1).1
  refine ⟨fun j hj => ?_, fun j k hj hk e => ?_, h.below.alloc h.below.size _⟩
  · rw [hob]
    by_cases e : j = i
    · subst e
      rw [if_pos rfl, objD_make n B hi]
      exact ⟨heap_alloc_new _ _, h.below.size⟩
    · rw [if_neg e]
      have := h.has j (old j hj e)
      exact ⟨(Below.heap_alloc _ _ _ (lt j (old j hj e))).trans this.1, this.2⟩
  · by_cases e1 : j = i
    · by_cases e2 : k = i
      · rw [e1, e2]
      · simp only [if_pos e1, if_neg e2] at e
        have := lt k (old k hk e2)
        omega
    · by_cases e2 : k = i
      · simp only [if_neg e1, if_pos e2] at e
        have := lt j (old j hj e1)
        omega
      · simp only [if_neg e1, if_neg e2] at e
        exact h.inj j k (old j hj e1) (old k hk e2) e

theorem NS.order {w W W' : World} {n : Nat} {L : List Nat} {B : Nat → Nat} (h : NS w W n L B) (hn : L.Nodup) {ob hb pb cb : Nat} (hO : OrdAt W W' n ob hb pb cb ((List.range (n + 1)).map i32) ((List.range (n + 1)).map i64)) :
    NS w W' n (L.erase 12) (fun j => if j = 12 then ob else if j = 100 then hb else if j = 101 then pb else if j = 102 then cb else B j) := by
  have old : ∀ j, Dn (L.erase 12) j → j ≠ 12 → j ≠ 100 → j ≠ 101 → j ≠ 102 → j ∈ [3, 7, 10, 15, 18, 21, 24] ∧ Dn L j := fun j hj h12 h1 h2 h3 => by
    rcases hj with ⟨g1, g2⟩ | ⟨g1, g2⟩
    · exact ⟨g1, Or.inl ⟨g1, fun hm => g2 ((List.Nodup.mem_erase_iff hn).2 ⟨h12, hm⟩)⟩⟩
    · omega
  have lt : ∀ j, Dn L j → B j < W.heap.size := fun j hj => (Array.getElem?_eq_some_iff.1 (h.has j hj).1).1
  have hz := h.below.size
  obtain ⟨n1, n2, n3, n4, n5, n6⟩ := hO.ne
  obtain ⟨z1, z2, z3, z4⟩ := hO.new
  refine ⟨fun j hj => ?_, fun j k hj hk e => ?_, ?_⟩
  · by_cases e1 : j = 12
    · subst e1; exact ⟨hO.o, by simp only [if_true]; omega⟩
    by_cases e2 : j = 100
    · subst e2; exact ⟨hO.h, by simp; omega⟩
    by_cases e3 : j = 101
    · subst e3; exact ⟨hO.p, by simp; omega⟩
    by_cases e4 : j = 102
    · subst e4; exact ⟨hO.c, by simp; omega⟩
    obtain ⟨g1, g2⟩ := old j hj e1 e2 e3 e4
    have := h.has j g2
    rw [objD_make n _ g1] at this ⊢
    simp only [if_neg e1, if_neg e2, if_neg e3, if_neg e4]
    exact ⟨(hO.below.block _ (lt j g2)).trans this.1, this.2⟩
  · have key : ∀ j, Dn (L.erase 12) j → (j = 12 ∨ j = 100 ∨ j = 101 ∨ j = 102) ∨ (j ∈ [3, 7, 10, 15, 18, 21, 24] ∧ Dn L j ∧ j ≠ 12 ∧ j ≠ 100 ∧ j ≠ 101 ∧ j ≠ 102 ∧ B j < W.heap.size) := fun j hj => by
      by_cases e1 : j = 12 ∨ j = 100 ∨ j = 101 ∨ j = 102
      · exact Or.inl e1
      · have h5 : j ≠ 12 ∧ j ≠ 100 ∧ j ≠ 101 ∧ j ≠ 102 := by omega
        obtain ⟨g1, g2⟩ := old j hj h5.1 h5.2.1 h5.2.2.1 h5.2.2.2
        exact Or.inr ⟨g1, g2, h5.1, h5.2.1, h5.2.2.1, h5.2.2.2, lt j g2⟩
    rcases key j hj with q | ⟨_, q1, q2, q3, q4, q5, q6⟩ <;> rcases key k hk with r | ⟨_, r1, r2, r3, r4, r5, r6⟩
    · rcases q with rfl | rfl | rfl | rfl <;> rcases r with rfl | rfl | rfl | rfl <;> simp at e <;> omega
    · simp only [if_neg r2, if_neg r3, if_neg r4, if_neg r5] at e
      rcases q with rfl | rfl | rfl | rfl <;> simp at e <;> omega
    · simp only [if_neg q2, if_neg q3, if_neg q4, if_neg q5] at e
      rcases r with rfl | rfl | rfl | rfl <;> simp at e <;> omega
    · simp only [if_neg r2, if_neg r3, if_neg r4, if_neg r5, if_neg q2, if_neg q3, if_neg q4, if_neg q5] at e
      exact h.inj j k q1 r1 e
  · exact h.below.trans ⟨hO.below.os, hO.below.tape, hO.below.output, hO.below.size, fun k hk => hO.below.block k (by omega)⟩

end Go.Proofs.YtlehlgipbhfioaaGreat
