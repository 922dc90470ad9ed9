/- Package sat: slices.Sort at literals, up to twelve. Package sat: slices.Sort at literals, up to twelve; Compact. Package sat: slices.Compact at literals: the kit's contract, laid here. Package sat: slices.Sort of a clause whose greatest literal stands first and whose others rise: the pivot. Package sat: slices.Sort of a clause whose greatest literal stands first and whose others rise: insertion, partition. Package sat: slices.Sort of a clause whose greatest literal stands first and whose others rise: partialInsertionSort. Package sat: slices.Sort of a clause whose greatest literal stands first and whose others rise: partitionOrdered. math/bits.Len of a small number but nought is not nought. -/
import Derived.Test.YtlehlgipbhfioaaGreatP06
import Derived.Shelf.SlicesE.Compact
import Derived.CellFam
import Derived.Lib.BitFns
namespace Go.Proofs.YtlehlgipbhfioaaGreat
open Go.RowKit Go.Maps

set_option maxRecDepth 100000 in
set_option maxHeartbeats 400000 in
theorem sNaN_in (w : World) (x : Int) : Calls Tryz.prog 240 #[.int .i32 x] w fun e w' => e = .returned (.bool false) ∧ w = w' := by
  go_enter Tryz.func240, Tryz.ntmps240
  go_wp2_with fail
  go_ret
  exact ⟨by simp, rfl⟩

set_option maxRecDepth 100000 in
set_option maxHeartbeats 400000 in
theorem sLess_in (w : World) (x y : Int) : Calls Tryz.prog 207 #[.int .i32 x, .int .i32 y] w fun e w' => e = .returned (.bool (decide (x < y))) ∧ w = w' := by
  have N1 := sNaN_in w x
  have N2 := sNaN_in w y
  go_enter Tryz.func207, Tryz.ntmps207
  go_wp2_with (first | (go_at_call 240; refine N1.mono ?_; rintro e w3 ⟨rfl, rfl⟩) | (go_at_call 240; refine N2.mono ?_; rintro e w3 ⟨rfl, rfl⟩))
  go_ret
  exact ⟨rfl, rfl⟩

/-- A row of literals. -/
def RowL (W : World) (g : Nat) (xs : List Nat) : Prop := W.heap[g]? = some (.cells (xs.map i32).toArray 192)
theorem RowL.cell {W : World} {g : Nat} {xs : List Nat} (h : RowL W g xs) {i x : Nat} (hi : xs[i]? = some x) : W.cell? ⟨g, i, none⟩ = some (.int .i32 (x : Int)) := by
  unfold RowL at h
  simp [World.cell?, h, hi, i32]
theorem RowL.frozen {W : World} {g : Nat} {xs : List Nat} (h : RowL W g xs) (i : Nat) : W.frozen? ⟨g, i, none⟩ = false := by
  unfold RowL at h
  simp [World.frozen?, h]
theorem RowL.set {W : World} {g : Nat} {xs : List Nat} (h : RowL W g xs) (i x : Nat) : RowL (W.setCell ⟨g, i, none⟩ (.int .i32 (x : Int))) g (xs.set i x) := by
  unfold RowL at h ⊢
  rw [List.map_set]
  exact setCell_cells h i (i32 x)

/-- Where an element is on its way down. -/
def InsAt (W : World) (g n i j : Nat) (xs0 : List Nat) : Prop :=
  ∃ (P S R : List Nat) (x : Nat), RowL W g (P ++ x :: S ++ R) ∧ P.length = j ∧ P.length + S.length = i ∧ (P ++ x :: S ++ R).length = n ∧ (P ++ S).Pairwise (· ≤ ·) ∧ (∀ y ∈ S, x < y) ∧ (P ++ x :: S ++ R).Perm xs0

theorem cast_lt {a b : Nat} (h : a < b) : (a : Int) < (b : Int) := by omega
theorem cast_lt1 {a b : Nat} (h : a + 1 < b) : (a : Int) + 1 < (b : Int) := by omega
theorem cast_pos (a : Nat) : (0 : Int) < (a : Int) + 1 := by omega
theorem wrap_nat {a : Nat} (h : a ≤ 1048576) : wrap64 (a : Int) = (a : Int) := by unfold wrap64; omega
theorem wrap_nat0 {a : Nat} (h : a ≤ 1048576) : IntKind.i64.wrap (a : Int) = (a : Int) := by rw [IntKind.wrap_i64]; omega
theorem wrap_nat1 {a : Nat} (h : a ≤ 1048576) : IntKind.i64.wrap ((a : Int) + 1) = (a : Int) + 1 := by rw [IntKind.wrap_i64]; omega

/-- The element and the one ahead of it. -/
theorem InsAt.two {W : World} {g n i j : Nat} {xs : List Nat} (h : InsAt W g n i (j + 1) xs) : ∃ p x : Nat, j + 1 < n ∧ W.cell? ⟨g, j, none⟩ = some (.int .i32 (p : Int)) ∧ W.cell? ⟨g, j + 1, none⟩ = some (.int .i32 (x : Int)) ∧
    W.frozen? ⟨g, j, none⟩ = false ∧ W.frozen? ⟨g, j + 1, none⟩ = false ∧
    (x < p → ∀ m, InsAt (((W.drewN m).setCell ⟨g, j + 1, none⟩ (.int .i32 (p : Int))).setCell ⟨g, j, none⟩ (.int .i32 (x : Int))) g n i j xs) ∧
    (¬ x < p → ∃ Q R, RowL W g (Q ++ R) ∧ Q.length = i + 1 ∧ Q.Pairwise (· ≤ ·) ∧ (Q ++ R).Perm xs) := by
  obtain ⟨P0, S, R, x, h1, h2, h3, h4, h5, h6, h7⟩ := h
  obtain ⟨P, p, rfl⟩ : ∃ P p, P0 = P ++ [p] := by
    have hne : P0 ≠ [] := fun e => by rw [e] at h2; simp at h2
    exact ⟨P0.dropLast, P0.getLast hne, (List.dropLast_concat_getLast hne).symm⟩
  have hPl : P.length = j := by simp at h2; exact h2
  have exs : P ++ [p] ++ x :: S ++ R = P ++ p :: x :: (S ++ R) := by simp
  have h4' := h4
  have h1' := h1
  rw [exs] at h1 h4
  have gp : (P ++ p :: x :: (S ++ R))[j]? = some p := by rw [List.getElem?_append_right (by omega)]; simp [hPl]
  have gx : (P ++ p :: x :: (S ++ R))[j + 1]? = some x := by rw [List.getElem?_append_right (by omega)]; simp [hPl]
  refine ⟨p, x, by simp at h4; omega, h1.cell gp, h1.cell gx, h1.frozen _, h1.frozen _, fun hxp m => ?_, fun hxp => ?_⟩
  · have hr : RowL (W.drewN m) g (P ++ p :: x :: (S ++ R)) := h1
    have hr2 := (hr.set (j + 1) p).set j x
    have e : ((P ++ p :: x :: (S ++ R)).set (j + 1) p).set j x = P ++ x :: (p :: S) ++ R := by
      rw [List.set_append_right _ _ (by omega), List.set_append_right _ _ (by omega)]
      have e1 : j + 1 - P.length = 1 := by omega
      have e2 : j - P.length = 0 := by omega
      rw [e1, e2]
      simp
    rw [e] at hr2
    have hperm : (P ++ x :: (p :: S) ++ R).Perm (P ++ [p] ++ x :: S ++ R) := by
      simp only [List.append_assoc, List.cons_append, List.nil_append]
      exact List.Perm.append_left P (List.Perm.swap p x (S ++ R))
    refine ⟨P, p :: S, R, x, hr2, hPl, by simp at h3 ⊢; omega, ?_, by simpa using h5, fun y hy => ?_, hperm.trans h7⟩
    · rw [hperm.length_eq]; exact h4'
    · rcases List.mem_cons.1 hy with rfl | hy
      · exact hxp
      · exact h6 y hy
  · refine ⟨P ++ [p] ++ x :: S, R, h1', by simp at h3 ⊢; omega, ?_, h7⟩
    rw [List.pairwise_append] at h5 ⊢
    obtain ⟨q1, q2, q3⟩ := h5
    have hle : ∀ a ∈ P ++ [p], a ≤ x := fun a ha => by
      rcases List.mem_append.1 ha with ha | ha
      · rw [List.pairwise_append] at q1
        have := q1.2.2 a ha p (by simp)
        omega
      · simp at ha; omega
    refine ⟨q1, List.pairwise_cons.2 ⟨fun y hy => Nat.le_of_lt (h6 y hy), q2⟩, fun a ha b hb => ?_⟩
    rcases List.mem_cons.1 hb with rfl | hb
    · exact hle a ha
    · exact q3 a ha b hb

theorem InsAt.drew {W : World} {g n i j : Nat} {xs : List Nat} (h : InsAt W g n i j xs) (m : Nat) : InsAt (W.drewN m) g n i j xs := h

set_option maxRecDepth 100000 in
set_option maxHeartbeats 1000000 in
theorem sInsS_in (w : World) (g : Nat) (xs : List Nat) (c : Nat) (h : RowL w g xs) (hn : xs.length ≤ 1048576) (hc : xs.length ≤ c) :
    Calls Tryz.prog 201 #[.slice (some ⟨g, 0, none⟩) xs.length c, .int .i64 0, .int .i64 (xs.length : Int)] w fun e w' => e = .returned (.tuple #[]) ∧ ∃ ys, RowL w' g ys ∧ ys.Perm xs ∧ ys.Pairwise (· ≤ ·) ∧ Kept (fun k => k = g) w w' := by
  have V0 : Hid (∃ Q R, RowL w g (Q ++ R) ∧ Q.length = min 1 xs.length ∧ Q.Pairwise (· ≤ ·) ∧ (Q ++ R).Perm xs ∧ Kept (fun k => k = g) w w) := by
    cases xs with
    | nil => exact ⟨[], [], h, rfl, List.Pairwise.nil, List.Perm.refl _, Kept.refl _ _⟩
    | cons x r => exact ⟨[x], r, h, by simp, by simp, List.Perm.refl _, Kept.refl _ _⟩
  clear h
  generalize hln : xs.length = n at *
  go_enter Tryz.func201, Tryz.ntmps201
  go_wp2_with fail
  go_loopw [6] (fun t6 W => ∃ i : Nat, 1 ≤ i ∧ t6 = .int .i64 (i : Int) ∧ Hid (∃ Q R, RowL W g (Q ++ R) ∧ Q.length = min i n ∧ Q.Pairwise (· ≤ ·) ∧ (Q ++ R).Perm xs ∧ Kept (fun k => k = g) w W)) (fun t6 _ => n - (intOf t6).toNat)
  case atStart => exact ⟨1, by omega, rfl, V0⟩
  case round =>
    obtain ⟨i, hi1, rfl, HV⟩ := hrel
    by_cases hin : i < n
    · have di : decide ((i : Int) < (n : Int)) = true := decide_eq_true (by omega)
      have hwrap : IntKind.i64.wrap ((i : Int) + 1) = (i : Int) + 1 := by rw [IntKind.wrap_i64]; omega
      have V1 : Hid (InsAt wr g n i i xs ∧ Kept (fun k => k = g) w wr) := by
        obtain ⟨Q, R, h1, h2, h3, h4, h5⟩ := HV.out
        have hl := h4.length_eq
        rw [List.length_append, hln] at hl
        cases R with
        | nil => simp at hl; omega
        | cons x R => exact ⟨⟨Q, [], R, x, by simpa using h1, by omega, by simp; omega, by simp at hl ⊢; omega, by simpa using h3, by simp, by simpa using h4⟩, h5⟩
      clear V0 HV
      go_wp2_with fail
      go_loopw [7] (fun t7 W => ∃ j : Nat, j ≤ i ∧ t7 = .int .i64 (j : Int) ∧ Hid (InsAt W g n i j xs ∧ Kept (fun k => k = g) w W)) (fun t7 _ => (intOf t7).toNat)
      case atStart => exact ⟨i, Nat.le_refl _, rfl, V1⟩
      case round =>
        obtain ⟨j, hji, rfl, HI⟩ := hrel
        cases j with
        | zero =>
          have HO : Hid (∃ Q R, RowL wr g (Q ++ R) ∧ Q.length = min (i + 1) n ∧ Q.Pairwise (· ≤ ·) ∧ (Q ++ R).Perm xs ∧ Kept (fun k => k = g) w wr) := by
            obtain ⟨⟨P, S, R, x, h1, h2, h3, h4, h5, h6, h7⟩, h8⟩ := HI.out
            have : P = [] := List.eq_nil_of_length_eq_zero h2
            subst this
            exact ⟨x :: S, R, h1, by simp at h3 ⊢; omega, List.pairwise_cons.2 ⟨fun y hy => Nat.le_of_lt (h6 y hy), by simpa using h5⟩, h7, h8⟩
          clear HI V1
          go_wp2_with fail
          go_quiet (fail)
          go_wp2_with fail
          obtain ⟨Q, R, q1, q2, q3, q4, q5⟩ := HO.out
          exact ⟨⟨i + 1, by omega, by simp, Q, R, q1, q2, q3, q4, q5.drewN _⟩, by simp [intOf]; omega⟩
        | succ j =>
          obtain ⟨p, x, hjn, cp, cx, fp, fx, hyes, hno⟩ := InsAt.two HI.out.1
          have HK : Hid _ := HI.out.2
          have HY : Hid _ := hyes
          have HN : Hid _ := hno
          have LS := fun W : World => sLess_in W (x : Int) (p : Int)
          have hsub := wrap_nat (a := j) (Nat.le_trans (Nat.le_of_lt (Nat.lt_of_succ_lt hjn)) hn)
          have hsub2 := wrap_nat0 (a := j) (Nat.le_trans (Nat.le_of_lt (Nat.lt_of_succ_lt hjn)) hn)
          have d1 := cast_lt (Nat.lt_of_succ_lt hjn)
          have d2 := cast_lt1 hjn
          have d3 := cast_pos j
          have d4 : (0 : Int) ≤ (j : Int) + 1 := Int.le_of_lt d3
          clear HI V1 hyes hno
          by_cases hxp : x < p
          · have dx : decide ((x : Int) < (p : Int)) = true := decide_eq_true (cast_lt hxp)
            have fx2 : (wr.setCell ⟨g, j + 1, none⟩ (.int .i32 (p : Int))).frozen? ⟨g, j, none⟩ = false := (World.frozen?_setCell _ _ _ _).trans fp
            have cp2 : (wr.setCell ⟨g, j + 1, none⟩ (.int .i32 (p : Int))).cell? ⟨g, j, none⟩ = some (.int .i32 (p : Int)) := by
              rw [World.cell?_setCell_other _ _ _ _ (by intro e; cases e)]
              exact cp
            go_wp2_with fail
            go_quiet ((go_at_call 207; exact Calls.quiet_of_same ((LS _).mono fun _ _ x => ⟨x.1, x.2.symm⟩)))
            go_wp2_with fail
            refine wp_region_noPanic ?_
            refine wp_region_held_drew (S := fun _ => True) (by kernel_rfl) ?_ (fun hHeld => ?_)
            · exact trivial
            refine wpAnyH_take (i := 0) (oi := _) (v := ?_) rfl (by kernel_rfl) (by kernel_rfl) (by kernel_rfl) (fun _ _ _ h => h) (Or.inl ⟨by rfl, ?_⟩) (by assumption) ?_
            rotate_left 1
            · intro w hSw; (try dsimp only at hSw); go_simp; (try with_reducible rfl)
            try simp only [Act.put, List.getElem_toArray, List.getElem_cons_zero, List.setIfInBounds_toArray, List.set_cons_zero, List.set_cons_succ]
            refine wpAnyH_take (i := 1) (oi := _) (v := ?_) rfl (by kernel_rfl) (by kernel_rfl) (by kernel_rfl) (fun _ _ _ h => h) (Or.inl ⟨by rfl, ?_⟩) (by assumption) ?_
            rotate_left 1
            · intro w hSw; (try dsimp only at hSw); go_simp; (try with_reducible rfl)
            try simp only [Act.put, List.getElem_toArray, List.getElem_cons_succ, List.getElem_cons_zero, List.setIfInBounds_toArray, List.set_cons_zero, List.set_cons_succ]
            refine wpAnyH_take (i := 2) (oi := _) (v := ?_) rfl (by kernel_rfl) (by kernel_rfl) (by kernel_rfl) (fun _ _ _ h => h) (Or.inl ⟨by rfl, ?_⟩) (by assumption) ?_
            rotate_left 1
            · intro w hSw; (try dsimp only at hSw); go_simp; (try with_reducible rfl)
            try simp only [Act.put, List.getElem_toArray, List.getElem_cons_succ, List.getElem_cons_zero, List.setIfInBounds_toArray, List.set_cons_zero, List.set_cons_succ]
            refine wpAnyH_take (i := 3) (oi := _) (v := ?_) rfl (by kernel_rfl) (by kernel_rfl) (by kernel_rfl) (fun _ _ _ h => h) (Or.inl ⟨by rfl, ?_⟩) (by assumption) ?_
            rotate_left 1
            · intro w hSw; (try dsimp only at hSw); go_simp; (try with_reducible rfl)
            try simp only [Act.put, List.getElem_toArray, List.getElem_cons_succ, List.getElem_cons_zero, List.setIfInBounds_toArray, List.set_cons_zero, List.set_cons_succ]
            refine wpAnyH_take (i := 4) (oi := _) (v := ?_) rfl (by kernel_rfl) (by kernel_rfl) (by kernel_rfl) (fun _ _ _ h => h) (Or.inl ⟨by rfl, ?_⟩) (by assumption) ?_
            rotate_left 1
            · intro w hSw; (try dsimp only at hSw); go_simp; (try with_reducible rfl)
            try simp only [Act.put, List.getElem_toArray, List.getElem_cons_succ, List.getElem_cons_zero, List.setIfInBounds_toArray, List.set_cons_zero, List.set_cons_succ]
            refine wpAnyH_take (i := 5) (oi := _) (v := ?_) rfl (by kernel_rfl) (by kernel_rfl) (by kernel_rfl) (fun _ _ _ h => h) (Or.inl ⟨by rfl, ?_⟩) (by assumption) ?_
            rotate_left 1
            · intro w hSw; (try dsimp only at hSw); go_simp; (try with_reducible rfl)
            try simp only [Act.put, List.getElem_toArray, List.getElem_cons_succ, List.getElem_cons_zero, List.setIfInBounds_toArray, List.set_cons_zero, List.set_cons_succ]
            refine wpAnyH_take (i := 6) (oi := _) (v := ?_) rfl (by kernel_rfl) (by kernel_rfl) (by kernel_rfl) (fun _ _ _ h => h) (Or.inl ⟨by rfl, ?_⟩) (by assumption) ?_
            rotate_left 1
            · intro w hSw; (try dsimp only at hSw); go_simp; (try with_reducible rfl)
            try simp only [Act.put, List.getElem_toArray, List.getElem_cons_succ, List.getElem_cons_zero, List.setIfInBounds_toArray, List.set_cons_zero, List.set_cons_succ]
            refine wpAnyH_take (i := 7) (oi := _) (v := ?_) rfl (by kernel_rfl) (by kernel_rfl) (by kernel_rfl) (fun _ _ _ h => h) (Or.inl ⟨by rfl, ?_⟩) (by assumption) ?_
            rotate_left 1
            · intro w hSw; (try dsimp only at hSw); go_simp; (try with_reducible rfl)
            try simp only [Act.put, List.getElem_toArray, List.getElem_cons_succ, List.getElem_cons_zero, List.setIfInBounds_toArray, List.set_cons_zero, List.set_cons_succ]
            refine wpAnyH_take (i := 8) (oi := _) (v := ?_) rfl (by kernel_rfl) (by kernel_rfl) (by kernel_rfl) (fun _ _ _ h => h) (Or.inl ⟨by rfl, ?_⟩) (by assumption) ?_
            rotate_left 1
            · intro w hSw; (try dsimp only at hSw); go_simp; (try with_reducible rfl)
            try simp only [Act.put, List.getElem_toArray, List.getElem_cons_succ, List.getElem_cons_zero, List.setIfInBounds_toArray, List.set_cons_zero, List.set_cons_succ]
            refine wpAnyH_take (i := 10) (oi := _) (v := ?_) rfl (by kernel_rfl) (by kernel_rfl) (by kernel_rfl) (fun _ _ _ h => h) (Or.inl ⟨by rfl, ?_⟩) (by assumption) ?_
            rotate_left 1
            · intro w hSw; (try dsimp only at hSw); go_simp; (try with_reducible rfl)
            try simp only [Act.put, List.getElem_toArray, List.getElem_cons_succ, List.getElem_cons_zero, List.setIfInBounds_toArray, List.set_cons_zero, List.set_cons_succ]
            refine wpAnyH_take (i := 11) (oi := _) (v := ?_) rfl (by kernel_rfl) (by kernel_rfl) (by kernel_rfl) (fun _ _ _ h => h) (Or.inl ⟨by rfl, ?_⟩) (by assumption) ?_
            rotate_left 1
            · intro w hSw; (try dsimp only at hSw); go_simp; (try with_reducible rfl)
            try simp only [Act.put, List.getElem_toArray, List.getElem_cons_succ, List.getElem_cons_zero, List.setIfInBounds_toArray, List.set_cons_zero, List.set_cons_succ]
            refine wpAnyH_take (i := 12) (oi := _) (v := ?_) rfl (by kernel_rfl) (by kernel_rfl) (by kernel_rfl) (fun _ _ _ h => h) (Or.inl ⟨by rfl, ?_⟩) (by assumption) ?_
            rotate_left 1
            · intro w hSw; (try dsimp only at hSw); go_simp; (try with_reducible rfl)
            try simp only [Act.put, List.getElem_toArray, List.getElem_cons_succ, List.getElem_cons_zero, List.setIfInBounds_toArray, List.set_cons_zero, List.set_cons_succ]
            refine wpAnyH_ready (rs := [9, 13]) (by kernel_rfl) (by simp) ?_
            refine AllReadyH.cons rfl (fun K hK => ?_) (AllReadyH.cons rfl (fun K hK => ?_) AllReadyH.nil)
            try simp only [List.getElem_toArray, List.getElem_cons_succ, List.getElem_cons_zero]
            go_simp
            refine hK.out _ _ ?_ (fun hHeld => ?_)
            · exact trivial
            clear hK K
            try simp only [Act.put, List.getElem_toArray, List.getElem_cons_succ, List.getElem_cons_zero, List.setIfInBounds_toArray, List.set_cons_zero, List.set_cons_succ]
            refine wpAnyH_ready (rs := [13]) (by kernel_rfl) (by simp) ?_
            refine AllReadyH.cons rfl (fun K hK => ?_) AllReadyH.nil
            try simp only [List.getElem_toArray, List.getElem_cons_succ, List.getElem_cons_zero]
            go_simp
            refine hK.out _ _ ?_ (fun hHeld => ?_)
            · exact trivial
            clear hK K
            try simp only [Act.put, List.getElem_toArray, List.getElem_cons_succ, List.getElem_cons_zero, List.setIfInBounds_toArray, List.set_cons_zero, List.set_cons_succ]
            refine wpAnyH_take (i := 14) (oi := _) (v := ?_) rfl (by kernel_rfl) (by kernel_rfl) (by kernel_rfl) (fun _ _ _ h => h) (Or.inl ⟨by rfl, ?_⟩) (by assumption) ?_
            rotate_left 1
            · intro w hSw; (try dsimp only at hSw); go_simp; (try with_reducible rfl)
            try simp only [Act.put, List.getElem_toArray, List.getElem_cons_succ, List.getElem_cons_zero, List.setIfInBounds_toArray, List.set_cons_zero, List.set_cons_succ]
            refine wpAnyH_ready (rs := [15]) (by kernel_rfl) (by simp) ?_
            refine AllReadyH.cons rfl (fun K hK => ?_) AllReadyH.nil
            try simp only [List.getElem_toArray, List.getElem_cons_succ, List.getElem_cons_zero]
            go_simp
            refine hK.out _ _ ?_ (fun hHeld => ?_)
            · exact trivial
            clear hK K
            try simp only [Act.put, List.getElem_toArray, List.getElem_cons_succ, List.getElem_cons_zero, List.setIfInBounds_toArray, List.set_cons_zero, List.set_cons_succ]
            refine wpAnyH_take (i := 16) (oi := _) (v := ?_) rfl (by kernel_rfl) (by kernel_rfl) (by kernel_rfl) (fun _ _ _ h => h) (Or.inl ⟨by rfl, ?_⟩) (by assumption) ?_
            rotate_left 1
            · intro w hSw; (try dsimp only at hSw); go_simp; (try with_reducible rfl)
            try simp only [Act.put, List.getElem_toArray, List.getElem_cons_succ, List.getElem_cons_zero, List.setIfInBounds_toArray, List.set_cons_zero, List.set_cons_succ]
            refine wpAnyH_ready (rs := [17]) (by kernel_rfl) (by simp) ?_
            refine AllReadyH.cons rfl (fun K hK => ?_) AllReadyH.nil
            try simp only [List.getElem_toArray, List.getElem_cons_succ, List.getElem_cons_zero]
            go_simp
            refine hK.out _ _ ?_ (fun hHeld => ?_)
            · exact trivial
            clear hK K
            try simp only [Act.put, List.getElem_toArray, List.getElem_cons_succ, List.getElem_cons_zero, List.setIfInBounds_toArray, List.set_cons_zero, List.set_cons_succ]
            rotate_left 1
            try simp only [List.getElem_toArray, List.getElem_cons_succ, List.getElem_cons_zero]
            go_simp
            refine hK.out _ _ ?_ (fun hHeld => ?_)
            · exact trivial
            clear hK K
            try simp only [Act.put, List.getElem_toArray, List.getElem_cons_succ, List.getElem_cons_zero, List.setIfInBounds_toArray, List.set_cons_zero, List.set_cons_succ]
            refine wpAnyH_ready (rs := [9]) (by kernel_rfl) (by simp) ?_
            refine AllReadyH.cons rfl (fun K hK => ?_) AllReadyH.nil
            try simp only [List.getElem_toArray, List.getElem_cons_succ, List.getElem_cons_zero]
            go_simp
            refine hK.out _ _ ?_ (fun hHeld => ?_)
            · exact trivial
            clear hK K
            try simp only [Act.put, List.getElem_toArray, List.getElem_cons_succ, List.getElem_cons_zero, List.setIfInBounds_toArray, List.set_cons_zero, List.set_cons_succ]
            refine wpAnyH_take (i := 14) (oi := _) (v := ?_) rfl (by kernel_rfl) (by kernel_rfl) (by kernel_rfl) (fun _ _ _ h => h) (Or.inl ⟨by rfl, ?_⟩) (by assumption) ?_
            rotate_left 1
            · intro w hSw; (try dsimp only at hSw); go_simp; (try with_reducible rfl)
            try simp only [Act.put, List.getElem_toArray, List.getElem_cons_succ, List.getElem_cons_zero, List.setIfInBounds_toArray, List.set_cons_zero, List.set_cons_succ]
            refine wpAnyH_ready (rs := [15]) (by kernel_rfl) (by simp) ?_
            refine AllReadyH.cons rfl (fun K hK => ?_) AllReadyH.nil
            try simp only [List.getElem_toArray, List.getElem_cons_succ, List.getElem_cons_zero]
            go_simp
            refine hK.out _ _ ?_ (fun hHeld => ?_)
            · exact trivial
            clear hK K
            try simp only [Act.put, List.getElem_toArray, List.getElem_cons_succ, List.getElem_cons_zero, List.setIfInBounds_toArray, List.set_cons_zero, List.set_cons_succ]
            refine wpAnyH_take (i := 16) (oi := _) (v := ?_) rfl (by kernel_rfl) (by kernel_rfl) (by kernel_rfl) (fun _ _ _ h => h) (Or.inl ⟨by rfl, ?_⟩) (by assumption) ?_
            rotate_left 1
            · intro w hSw; (try dsimp only at hSw); go_simp; (try with_reducible rfl)
            try simp only [Act.put, List.getElem_toArray, List.getElem_cons_succ, List.getElem_cons_zero, List.setIfInBounds_toArray, List.set_cons_zero, List.set_cons_succ]
            refine wpAnyH_ready (rs := [17]) (by kernel_rfl) (by simp) ?_
            refine AllReadyH.cons rfl (fun K hK => ?_) AllReadyH.nil
            try simp only [List.getElem_toArray, List.getElem_cons_succ, List.getElem_cons_zero]
            go_simp
            refine hK.out _ _ ?_ (fun hHeld => ?_)
            · exact trivial
            clear hK K
            try simp only [Act.put, List.getElem_toArray, List.getElem_cons_succ, List.getElem_cons_zero, List.setIfInBounds_toArray, List.set_cons_zero, List.set_cons_succ]
            rotate_left 1
            all_goals refine wpAnyH_done (by kernel_rfl) (NoPanic.normal ?_) _
            all_goals
              try simp only [Act.put, List.getElem_toArray, List.getElem_cons_succ, List.getElem_cons_zero, List.setIfInBounds_toArray, List.set_cons_succ, List.set_cons_zero]
              go_wp2_with fail
              refine ⟨⟨j, by omega, by simp, HY.out hxp (nq + 1), ?_⟩, by simp [intOf]⟩
              exact ((HK.out.drewN (nq + 1)).setCell (p := ⟨g, j + 1, none⟩) rfl _).setCell (p := ⟨g, j, none⟩) rfl _
          · have dx : decide ((x : Int) < (p : Int)) = false := decide_eq_false (fun h => hxp (by omega))
            go_wp2_with fail
            go_quiet ((go_at_call 207; exact Calls.quiet_of_same ((LS _).mono fun _ _ x => ⟨x.1, x.2.symm⟩)))
            go_wp2_with fail
            obtain ⟨Q, R, q1, q2, q3, q4⟩ := HN.out hxp
            exact ⟨⟨i + 1, by omega, by simp, Q, R, q1, by rw [q2]; omega, q3, q4, HK.out.drewN _⟩, by simp [intOf]; omega⟩
    · have di : decide ((i : Int) < (n : Int)) = false := decide_eq_false (by omega)
      clear V0
      go_wp2_with fail
      refine ⟨rfl, .tuple #[], by simp [results, Tryz.results201], rfl, ?_⟩
      obtain ⟨Q, R, h1, h2, h3, h4, h5⟩ := HV.out
      have hl := h4.length_eq
      rw [List.length_append, hln] at hl
      have : R = [] := List.eq_nil_of_length_eq_zero (by omega)
      subst this
      rw [List.append_nil] at h1 h4
      exact ⟨Q, h1, h4, h3, h5⟩

end Go.Proofs.YtlehlgipbhfioaaGreat

namespace Go.Proofs.YtlehlgipbhfioaaGreat
open Go.RowKit Go.Maps

set_option maxRecDepth 100000 in
set_option maxHeartbeats 1000000 in
theorem len64_in (w : World) (x : Nat) (hx : x ≤ 12) : Calls Tryz.prog 192 #[.int .u64 (x : Int)] w fun e w' => ∃ k : Int, e = .returned (.int .i64 k) ∧ w = w' := by
  have h : x = 0 ∨ x = 1 ∨ x = 2 ∨ x = 3 ∨ x = 4 ∨ x = 5 ∨ x = 6 ∨ x = 7 ∨ x = 8 ∨ x = 9 ∨ x = 10 ∨ x = 11 ∨ x = 12 := by omega
  rcases h with rfl | rfl | rfl | rfl | rfl | rfl | rfl | rfl | rfl | rfl | rfl | rfl | rfl
  all_goals
    go_enter Tryz.func192, Tryz.ntmps192
    go_wp2_with fail
    go_ret
    exact ⟨_, rfl, rfl⟩

set_option maxRecDepth 100000 in
set_option maxHeartbeats 1000000 in
theorem len_in (w : World) (x : Nat) (hx : x ≤ 12) : Calls Tryz.prog 145 #[.int .u64 (x : Int)] w fun e w' => ∃ k : Int, e = .returned (.int .i64 k) ∧ w = w' := by
  have L := len64_in w x hx
  have h1 : IntKind.u64.wrap (x : Int) = (x : Int) := by rw [IntKind.wrap_u64]; omega
  go_enter Tryz.func145, Tryz.ntmps145
  go_wp2_with (first | (go_at_call 192; refine L.mono ?_; rintro e w3 ⟨k, rfl, rfl⟩))
  go_ret
  exact ⟨_, rfl, rfl⟩

set_option maxRecDepth 100000 in
set_option maxHeartbeats 1000000 in
theorem sPdq_in (w : World) (g : Nat) (xs : List Nat) (c : Nat) (h : RowL w g xs) (hn : xs.length ≤ 12) (hc : xs.length ≤ c) (lim : Int) :
    Calls Tryz.prog 162 #[.slice (some ⟨g, 0, none⟩) xs.length c, .int .i64 0, .int .i64 (xs.length : Int), .int .i64 lim] w fun e w' => e = .returned (.tuple #[]) ∧ ∃ ys, RowL w' g ys ∧ ys.Perm xs ∧ ys.Pairwise (· ≤ ·) ∧ Kept (fun k => k = g) w w' := by
  have IN := sInsS_in w g xs c h (by omega) hc
  have d1 : decide ((xs.length : Int) ≤ 12) = true := decide_eq_true (by omega)
  have hw0 := wrap_nat0 (a := xs.length) (by omega)
  have hw1 := wrap_nat (a := xs.length) (by omega)
  clear h
  generalize xs.length = n at *
  go_enter Tryz.func162, Tryz.ntmps162
  go_wp2_with fail
  go_loopw [1, 2, 3, 8, 9] (fun t1 t2 _ _ _ W => t1 = .int .i64 0 ∧ t2 = .int .i64 (n : Int) ∧ W = w) (fun _ _ _ _ _ _ => 0)
  case atStart => exact ⟨rfl, rfl, rfl⟩
  case round =>
    obtain ⟨rfl, rfl, rfl⟩ := hrel
    go_wp2_with (first | (go_at_call 201; refine IN.mono ?_; rintro e w3 ⟨rfl, HY⟩))
    exact ⟨rfl, .tuple #[], by simp [results, Tryz.results162], rfl, HY⟩

set_option maxRecDepth 100000 in
set_option maxHeartbeats 1000000 in
theorem sSort_in (w : World) (g : Nat) (xs : List Nat) (c : Nat) (h : RowL w g xs) (hn : xs.length ≤ 12) (hc : xs.length ≤ c) :
    Calls Tryz.prog 126 #[.slice (some ⟨g, 0, none⟩) xs.length c] w fun e w' => e = .returned (.tuple #[]) ∧ ∃ ys, RowL w' g ys ∧ ys.Perm xs ∧ ys.Pairwise (· ≤ ·) ∧ Kept (fun k => k = g) w w' := by
  have PD := fun (m : Nat) (lim : Int) => sPdq_in (w.drewN m) g xs c h hn hc lim
  have LE := fun (m : Nat) => len_in (w.drewN m) xs.length hn
  have h1 : IntKind.u64.wrap (xs.length : Int) = (xs.length : Int) := by rw [IntKind.wrap_u64]; omega
  have HPD : Hid _ := PD
  have HLE : Hid _ := LE
  clear h PD LE
  generalize xs.length = n at *
  go_enter Tryz.func126, Tryz.ntmps126
  go_wp2_with (first | (go_at_call 162; refine (HPD.out 0 _).mono ?_; rintro e w3 ⟨rfl, HY⟩) | (go_at_call 145; refine (HLE.out 0).mono ?_; rintro e w3 ⟨k, rfl, rfl⟩))
  exact ⟨rfl, .tuple #[], by simp [results, Tryz.results126], rfl, HY⟩

end Go.Proofs.YtlehlgipbhfioaaGreat

namespace Go.Proofs
open Go.Shelf
def Tryz.laysCm_ren : Go.Shelf.Ren := ⟨fun | 43 => 127 | n => n, fun | 0 => 0 | 3 => 3 | 4 => 4 | 22 => 178 | 23 => 192 | n => n, fun | n => n⟩
theorem Tryz.laysCm : Go.Proofs.SlLaysE.n43 Tryz.prog Tryz.laysCm_ren := {
  mixed := by kernel_rfl
  f43 := ⟨Tryz.f127.name, by kernel_rfl, Tryz.func127.trans (congrArg some (by kernel_rfl))⟩
  t0 := Tryz.underlying0
  a0 := Tryz.isAgg0
  z0 := Tryz.sizeOf0
  v0 := Tryz.zeroValue0
  t3 := Tryz.underlying3
  a3 := Tryz.isAgg3
  z3 := Tryz.sizeOf3
  v3 := Tryz.zeroValue3
  t4 := Tryz.underlying4
  a4 := Tryz.isAgg4
  z4 := Tryz.sizeOf4
  v4 := Tryz.zeroValue4
  t22 := Tryz.underlying178
  a22 := Tryz.isAgg178
  z22 := Tryz.sizeOf178
  v22 := Tryz.zeroValue178
  a23 := Tryz.isAgg192
  z23 := Tryz.sizeOf192 }
end Go.Proofs
namespace Go.Proofs.YtlehlgipbhfioaaGreat
open Go.RowKit Go.Maps Go.Sort Go.Lib

theorem sCompact0 (g cap : Nat) (d : Array Int) (w : World) (hH : Holds (Value.int .i32) w g 0 d) (hsz : d.size ≤ 9223372036854775807) (hcap : d.size ≤ cap) :
    Calls Tryz.prog 127 #[.slice (some ⟨g, 0, none⟩) d.size cap] w fun e w' => e = .returned (.slice (some ⟨g, 0, none⟩) (compactUpTo d d.size).length cap) ∧ ∃ q, w' = putRow (Value.int .i32) (Sort.ahead w q) g 0 (compactUpTo d d.size ++ List.replicate (d.size - (compactUpTo d d.size).length) 0).toArray :=
  AnyE.slices_Compact Tryz.laysCm (Value.int .i32) (fun _ => rfl) (EqlAt.intD _ _ .i32) (NeqAt.intD _ _ .i32) 0 Tryz.zeroValue192 g 0 cap d w hH hsz hcap

end Go.Proofs.YtlehlgipbhfioaaGreat

namespace Go.Proofs.YtlehlgipbhfioaaGreat
open Go.RowKit Go.Maps

/-- A row of literals, by places. -/
def RowG (W : World) (g n : Nat) (G : Nat → Nat) : Prop := W.heap[g]? = some (.cells ((List.range n).map fun t => i32 (G t)).toArray 192)
theorem RowG.cell {W : World} {g n : Nat} {G : Nat → Nat} (h : RowG W g n G) (t : Nat) (ht : t < n) : W.cell? ⟨g, t, none⟩ = some (.int .i32 (G t : Int)) := by
  unfold RowG at h
  simp only [World.cell?, h]
  simp [ht, i32]
theorem RowG.frozen {W : World} {g n : Nat} {G : Nat → Nat} (h : RowG W g n G) (t : Nat) : W.frozen? ⟨g, t, none⟩ = false := by
  unfold RowG at h
  simp only [World.frozen?, h]
  simp
theorem RowG.drew {W : World} {g n : Nat} {G : Nat → Nat} (h : RowG W g n G) (m : Nat) : RowG (W.drewN m) g n G := h
theorem RowG.below {W W' : World} {g n : Nat} {G : Nat → Nat} (h : RowG W g n G) (hB : Below W.heap.size W W') : RowG W' g n G := (hB.block g (Array.getElem?_eq_some_iff.1 h).1).trans h
theorem RowG.congr {W : World} {g n : Nat} {G H : Nat → Nat} (h : RowG W g n G) (e : ∀ t, t < n → H t = G t) : RowG W g n H := by
  unfold RowG at h ⊢
  rw [h]
  congr 3
  refine List.map_congr_left fun t ht => ?_
  rw [e t (by simpa using ht)]
theorem RowG.set {W : World} {g n : Nat} {G : Nat → Nat} (h : RowG W g n G) (i x : Nat) : RowG (W.setCell ⟨g, i, none⟩ (.int .i32 (x : Int))) g n (fun t => if t = i then x else G t) := by
  have h2 : RowL W g ((List.range n).map G) := by
    unfold RowG at h
    unfold RowL
    rw [h, List.map_map]
    rfl
  have := h2.set i x
  unfold RowL at this
  unfold RowG
  rw [this]
  congr 3
  refine List.ext_getElem? fun t => ?_
  rw [List.getElem?_map, List.getElem?_set, List.getElem?_map]
  by_cases hti : t = i
  · subst hti
    by_cases htn : t < n
    · simp [htn]
    · simp [htn]
  · rw [if_neg (fun e => hti e.symm)]
    by_cases htn : t < n
    · simp [htn, hti]
    · simp [htn]

set_option maxHeartbeats 400000 in
theorem ord2_in (w : World) (g n c a b : Nat) (sw : Option Addr) (G : Nat → Nat) (h : RowG w g n G) (ha : a < n) (hb : b < n) (hab : G a ≤ G b) :
    Calls Tryz.prog 252 #[.slice (some ⟨g, 0, none⟩) n c, .int .i64 (a : Int), .int .i64 (b : Int), .pointer sw] w fun e w' => e = .returned (.tuple #[.int .i64 (a : Int), .int .i64 (b : Int)]) ∧ ∃ m, w' = w.drewN m := by
  have c1 := h.cell a ha
  have c2 := h.cell b hb
  have LS := fun W : World => sLess_in W (G b : Int) (G a : Int)
  have d : decide ((G b : Int) < (G a : Int)) = false := decide_eq_false (by omega)
  have d1 := cast_lt ha
  have d2 := cast_lt hb
  clear h ha hb
  generalize G a = x at *
  generalize G b = y at *
  go_enter Tryz.func252, Tryz.ntmps252
  go_wp2_with fail
  go_quiet ((go_at_call 207; exact Calls.quiet_of_same ((LS _).mono fun _ _ x => ⟨x.1, x.2.symm⟩)))
  go_wp2_with fail
  exact ⟨rfl, .tuple #[.int .i64 (a : Int), .int .i64 (b : Int)], by simp [results, Tryz.results252], rfl, _, rfl⟩

set_option maxHeartbeats 400000 in
theorem med_in (w : World) (g n c a b d : Nat) (sw : Option Addr) (G : Nat → Nat) (h : RowG w g n G) (ha : a < n) (hb : b < n) (hd : d < n) (hab : G a ≤ G b) (hbd : G b ≤ G d) :
    Calls Tryz.prog 239 #[.slice (some ⟨g, 0, none⟩) n c, .int .i64 (a : Int), .int .i64 (b : Int), .int .i64 (d : Int), .pointer sw] w fun e w' => e = .returned (.int .i64 (b : Int)) ∧ ∃ m, w' = w.drewN m := by
  have O1 : ∀ m, _ := fun m => ord2_in (w.drewN m) g n c a b sw G (h.drew m) ha hb hab
  have O2 : ∀ m, _ := fun m => ord2_in (w.drewN m) g n c b d sw G (h.drew m) hb hd hbd
  have H1 : Hid _ := O1
  have H2 : Hid _ := O2
  clear h hab hbd ha hb hd O1 O2
  go_enter Tryz.func239, Tryz.ntmps239
  go_wp2_with (first | (go_at_call 252; refine (H1.out 0).mono ?_; rintro e w1 ⟨rfl, m1, rfl⟩; refine Aside.out ?_))
  delta Aside
  apply_assumption
  go_wp2_with (first | (go_at_call 252; refine (H2.out m1).mono ?_; rintro e w2 ⟨rfl, m2, rfl⟩; refine Aside.out ?_))
  delta Aside
  apply_assumption
  go_wp2_with (first | (go_at_call 252; refine (H1.out (m1 + m2)).mono ?_; rintro e w3 ⟨rfl, m3, rfl⟩))
  go_ret
  exact ⟨rfl, m1 + m2 + m3, by simp⟩

set_option maxHeartbeats 400000 in
theorem medA_in (w : World) (g n c a : Nat) (sw : Option Addr) (G : Nat → Nat) (h : RowG w g n G) (ha : a + 2 < n) (hn : n ≤ 1048576) (h1 : G a ≤ G (a + 1)) (h2 : G (a + 1) ≤ G (a + 2)) :
    Calls Tryz.prog 238 #[.slice (some ⟨g, 0, none⟩) n c, .int .i64 ((a + 1 : Nat) : Int), .pointer sw] w fun e w' => e = .returned (.int .i64 ((a + 1 : Nat) : Int)) ∧ ∃ m, w' = w.drewN m := by
  have M := med_in w g n c a (a + 1) (a + 2) sw G h (by omega) (by omega) ha h1 h2
  have hw1 : IntKind.i64.wrap (((a + 1 : Nat) : Int) - 1) = (a : Int) := by rw [IntKind.wrap_i64]; omega
  have hw2 : IntKind.i64.wrap (((a + 1 : Nat) : Int) + 1) = ((a + 2 : Nat) : Int) := by rw [IntKind.wrap_i64]; omega
  generalize ((a + 1 : Nat) : Int) = p at *
  generalize ((a + 2 : Nat) : Int) = q at *
  clear h ha h1 h2
  go_enter Tryz.func238, Tryz.ntmps238
  go_wp2_with (first | (go_at_call 239; refine M.mono ?_; rintro e w1 ⟨rfl, m1, rfl⟩))
  go_ret
  exact ⟨rfl, m1, rfl⟩

theorem medP_in (w : World) (g n c p : Nat) (sw : Option Addr) (G : Nat → Nat) (h : RowG w g n G) (hp : 1 ≤ p) (ha : p + 1 < n) (hn : n ≤ 1048576) (h1 : G (p - 1) ≤ G p) (h2 : G p ≤ G (p + 1)) :
    Calls Tryz.prog 238 #[.slice (some ⟨g, 0, none⟩) n c, .int .i64 (p : Int), .pointer sw] w fun e w' => e = .returned (.int .i64 (p : Int)) ∧ ∃ m, w' = w.drewN m := by
  obtain ⟨a, rfl⟩ : ∃ a, p = a + 1 := ⟨p - 1, by omega⟩
  exact medA_in w g n c a sw G h (by omega) hn h1 h2
set_option maxRecDepth 100000 in
set_option maxHeartbeats 1000000 in
/-- The pivot of a range whose elements rise, but for the first. -/
theorem choose_in (w : World) (g n c a b : Nat) (G : Nat → Nat) (h : RowG w g n G) (hab : a + 13 ≤ b) (hb : b ≤ n) (hn : n ≤ 1000000) (hr : ∀ s t, a < s → s ≤ t → t < b → G s ≤ G t) :
    Calls Tryz.prog 204 #[.slice (some ⟨g, 0, none⟩) n c, .int .i64 (a : Int), .int .i64 (b : Int)] w fun e w' => e = .returned (.tuple #[.int .i64 ((a + (b - a) / 4 * 2 : Nat) : Int), .int .i64 1]) ∧ Below w.heap.size w w' := by
  obtain ⟨I, hI⟩ : ∃ I : Nat, I = a + (b - a) / 4 * 1 := ⟨_, rfl⟩
  obtain ⟨J, hJ⟩ : ∃ J : Nat, J = a + (b - a) / 4 * 2 := ⟨_, rfl⟩
  obtain ⟨K, hK⟩ : ∃ K : Nat, K = a + (b - a) / 4 * 3 := ⟨_, rfl⟩
  have eI : ((a : Int) + ((b : Int) - (a : Int)) / 4) = (I : Int) := by omega
  have eJ : ((a : Int) + ((b : Int) - (a : Int)) / 4 * 2) = (J : Int) := by omega
  have eK : ((a : Int) + ((b : Int) - (a : Int)) / 4 * 3) = (K : Int) := by omega
  rw [← hJ]
  have h0 : ∀ m, RowG ((w.alloc (.cells #[.int .i64 0] 3)).drewN m) g n G := fun m => RowG.drew (h.below ((Below.refl w.heap.size w).alloc (Nat.le_refl _) _)) m
  have hB : Hid (∀ m, Below w.heap.size w ((w.alloc (.cells #[.int .i64 0] 3)).drewN m)) := fun m => ((Below.refl w.heap.size w).alloc (Nat.le_refl _) _).trans ⟨rfl, rfl, rfl, Nat.le_refl _, fun _ _ => rfl⟩
  have M1 : Hid (∀ m, _) := fun m => medP_in ((w.alloc (.cells #[.int .i64 0] 3)).drewN m) g n c I (some ⟨w.heap.size, 0, none⟩) G (h0 m) (by omega) (by omega) (by omega) (hr _ _ (by omega) (by omega) (by omega)) (hr _ _ (by omega) (by omega) (by omega))
  have M2 : Hid (∀ m, _) := fun m => medP_in ((w.alloc (.cells #[.int .i64 0] 3)).drewN m) g n c J (some ⟨w.heap.size, 0, none⟩) G (h0 m) (by omega) (by omega) (by omega) (hr _ _ (by omega) (by omega) (by omega)) (hr _ _ (by omega) (by omega) (by omega))
  have M3 : Hid (∀ m, _) := fun m => medP_in ((w.alloc (.cells #[.int .i64 0] 3)).drewN m) g n c K (some ⟨w.heap.size, 0, none⟩) G (h0 m) (by omega) (by omega) (by omega) (hr _ _ (by omega) (by omega) (by omega)) (hr _ _ (by omega) (by omega) (by omega))
  have M4 : Hid (∀ m, _) := fun m => med_in ((w.alloc (.cells #[.int .i64 0] 3)).drewN m) g n c I J K (some ⟨w.heap.size, 0, none⟩) G (h0 m) (by omega) (by omega) (by omega) (hr _ _ (by omega) (by omega) (by omega)) (hr _ _ (by omega) (by omega) (by omega))
  have c0 : (w.alloc (.cells #[.int .i64 0] 3)).cell? ⟨w.heap.size, 0, none⟩ = some (.int .i64 0) := by simp
  have h8 : (8 : Int) ≤ (b : Int) - (a : Int) := by omega
  have hwl : IntKind.i64.wrap ((b : Int) - (a : Int)) = (b : Int) - (a : Int) := by rw [IntKind.wrap_i64]; omega
  clear h h0 hI hJ hK hr
  by_cases h50 : (50 : Int) ≤ (b : Int) - (a : Int)
  · go_enter Tryz.func204, Tryz.ntmps204
    go_wp2_with (first | (go_at_call 238; refine (M1.out 0).mono ?_; rintro e w1 ⟨rfl, m1, rfl⟩; refine Aside.out ?_))
    delta Aside
    apply_assumption
    go_wp2_with (first | (go_at_call 238; refine (M2.out m1).mono ?_; rintro e w1 ⟨rfl, m2, rfl⟩; refine Aside.out ?_))
    delta Aside
    apply_assumption
    go_wp2_with (first | (go_at_call 238; refine (M3.out (m1 + m2)).mono ?_; rintro e w1 ⟨rfl, m3, rfl⟩; refine Aside.out ?_))
    delta Aside
    apply_assumption
    go_wp2_with (first | (go_at_call 239; refine (M4.out (m1 + m2 + m3)).mono ?_; rintro e w1 ⟨rfl, m4, rfl⟩))
    exact ⟨rfl, .tuple #[.int .i64 (J : Int), .int .i64 1], by simp [results, Tryz.results204], rfl, (hB.out 0).trans ⟨rfl, rfl, rfl, Nat.le_refl _, fun _ _ => rfl⟩⟩
  · go_enter Tryz.func204, Tryz.ntmps204
    go_wp2_with (first | (go_at_call 239; refine (M4.out 0).mono ?_; rintro e w1 ⟨rfl, m4, rfl⟩))
    exact ⟨rfl, .tuple #[.int .i64 (J : Int), .int .i64 1], by simp [results, Tryz.results204], rfl, (hB.out 0).trans ⟨rfl, rfl, rfl, Nat.le_refl _, fun _ _ => rfl⟩⟩
end Go.Proofs.YtlehlgipbhfioaaGreat

namespace Go.Proofs.YtlehlgipbhfioaaGreat
open Go.RowKit Go.Maps

/-- The greatest is put behind the others. -/
def rotG (a b : Nat) (G : Nat → Nat) : Nat → Nat := fun t => if a ≤ t ∧ t + 1 < b then G (t + 1) else if a ≤ t ∧ t + 1 = b then G a else G t
/-- The greatest stands first, the others rise. -/
structure ShG (a b : Nat) (G : Nat → Nat) : Prop where
  up : ∀ s t, a < s → s < t → t < b → G s < G t
  top : ∀ t, a < t → t < b → G t < G a
theorem RowG.kept {W W' : World} {g n : Nat} {G : Nat → Nat} (h : RowG W g n G) (hk : W'.heap[g]? = W.heap[g]?) : RowG W' g n G := hk.trans h

set_option maxRecDepth 100000 in
set_option maxHeartbeats 1000000 in
/-- Insertion: each but the first is put ahead of the greatest. -/
theorem insR_in (w : World) (g n c a b : Nat) (G : Nat → Nat) (h : RowG w g n G) (hab : a ≤ b) (hb : b ≤ n) (hn : n ≤ 1000000) (hs : ShG a b G) :
    Calls Tryz.prog 201 #[.slice (some ⟨g, 0, none⟩) n c, .int .i64 (a : Int), .int .i64 (b : Int)] w fun e w' => e = .returned (.tuple #[]) ∧ RowG w' g n (rotG a b G) ∧ Kept (fun k => k = g) w w' := by
  have V0 : Hid (RowG w g n (rotG a (min (a + 1) b) G) ∧ Kept (fun k => k = g) w w) := by
    refine ⟨h.congr fun t ht => ?_, Kept.refl _ _⟩
    unfold rotG
    by_cases e : a + 1 ≤ b
    · rw [Nat.min_eq_left e]
      by_cases e2 : t = a
      · subst e2; simp
      · rw [if_neg (by omega), if_neg (by omega)]
    · rw [Nat.min_eq_right (by omega), if_neg (by omega), if_neg (by omega)]
  have HS : Hid (ShG a b G) := hs
  clear h hs
  go_enter Tryz.func201, Tryz.ntmps201
  go_wp2_with fail
  go_loopw [6] (fun t6 W => ∃ i : Nat, a + 1 ≤ i ∧ i ≤ b + 1 ∧ t6 = .int .i64 (i : Int) ∧ Hid (RowG W g n (rotG a (min i b) G) ∧ Kept (fun k => k = g) w W)) (fun t6 _ => b + 1 - (intOf t6).toNat)
  case atStart => exact ⟨a + 1, Nat.le_refl _, by omega, by go_num, V0⟩
  case round =>
    obtain ⟨i, hi1, hi2, rfl, HV⟩ := hrel
    clear V0
    by_cases hin : i < b
    · have di : decide ((i : Int) < (b : Int)) = true := decide_eq_true (by omega)
      have hwrap : IntKind.i64.wrap ((i : Int) + 1) = (i : Int) + 1 := by rw [IntKind.wrap_i64]; omega
      obtain ⟨k, rfl⟩ : ∃ k, i = k + 1 := ⟨i - 1, by omega⟩
      have V1 : Hid (RowG wr g n (rotG a (k + 1) G) ∧ Kept (fun k => k = g) w wr) := by
        have := HV.out
        rw [Nat.min_eq_left (Nat.le_of_lt hin)] at this
        exact this
      clear HV
      have hak : a ≤ k := by omega
      have hkn : k + 1 < n := by omega
      clear hi1
      go_wp2_with fail
      go_loopw [7] (fun t7 W => (t7 = .int .i64 ((k : Int) + 1) ∧ Hid (RowG W g n (rotG a (k + 1) G) ∧ Kept (fun k => k = g) w W)) ∨ (t7 = .int .i64 (k : Int) ∧ Hid (RowG W g n (rotG a (k + 2) G) ∧ Kept (fun k => k = g) w W))) (fun t7 _ => (intOf t7).toNat)
      case atStart => exact Or.inl ⟨by go_num, V1⟩
      case round =>
        clear V1
        rcases hrel with ⟨rfl, HI⟩ | ⟨rfl, HI⟩
        · have cx := HI.out.1.cell (k + 1) hkn
          have cp := HI.out.1.cell k (by omega)
          have fx := HI.out.1.frozen (k + 1)
          have fp := HI.out.1.frozen k
          have ex : rotG a (k + 1) G (k + 1) = G (k + 1) := by unfold rotG; rw [if_neg (by omega), if_neg (by omega)]
          have ep : rotG a (k + 1) G k = G a := by unfold rotG; rw [if_neg (by omega), if_pos (by omega)]
          rw [ex] at cx
          rw [ep] at cp
          have hlt : G (k + 1) < G a := HS.out.top (k + 1) (by omega) hin
          have HF : Hid (∀ m, RowG (((wr.drewN m).setCell ⟨g, k + 1, none⟩ (.int .i32 (G a : Int))).setCell ⟨g, k, none⟩ (.int .i32 (G (k + 1) : Int))) g n (rotG a (k + 2) G) ∧ Kept (fun k => k = g) w (((wr.drewN m).setCell ⟨g, k + 1, none⟩ (.int .i32 (G a : Int))).setCell ⟨g, k, none⟩ (.int .i32 (G (k + 1) : Int)))) := fun m => by
            refine ⟨(((HI.out.1.drew m).set (k + 1) (G a)).set k (G (k + 1))).congr fun t ht => ?_, Kept.setCell (Kept.setCell (HI.out.2.drewN m) (p := ⟨g, k + 1, none⟩) rfl _) (p := ⟨g, k, none⟩) rfl _⟩
            unfold rotG
            by_cases e1 : t = k
            · subst e1; rw [if_pos (by omega), if_pos rfl]
            · by_cases e2 : t = k + 1
              · subst e2; rw [if_neg (by omega), if_pos (by omega), if_neg e1, if_pos rfl]
              · rw [if_neg e1, if_neg e2]
                by_cases e3 : a ≤ t ∧ t + 1 < k + 1
                · rw [if_pos (by omega), if_pos e3]
                · rw [if_neg (by omega), if_neg (by omega), if_neg e3, if_neg (by omega)]
          have LS := fun W : World => sLess_in W (G (k + 1) : Int) (G a : Int)
          have dx : decide ((G (k + 1) : Int) < (G a : Int)) = true := decide_eq_true (by omega)
          have da : decide ((a : Int) < (k : Int) + 1) = true := decide_eq_true (by omega)
          have hkw : IntKind.i64.wrap ((k : Int) + 1 - 1) = (k : Int) := by rw [IntKind.wrap_i64]; omega
          clear HI ex ep
          generalize G (k + 1) = x at *
          generalize G a = y at *
          go_wp2_with fail
          go_quiet ((go_at_call 207; exact Calls.quiet_of_same ((LS _).mono fun _ _ x => ⟨x.1, x.2.symm⟩)))
          go_wp2_with fail
          go_region
          all_goals go_wp2_with fail
          exact ⟨Or.inr ⟨rfl, HF.out _⟩, by simp [intOf]⟩
        · have HO : Hid (∀ m, RowG (wr.drewN m) g n (rotG a (min (k + 1 + 1) b) G) ∧ Kept (fun k => k = g) w (wr.drewN m)) := fun m => by
            rw [Nat.min_eq_left (by omega)]
            exact ⟨HI.out.1.drew m, HI.out.2.drewN m⟩
          by_cases hka : a < k
          · have cx := HI.out.1.cell k (by omega)
            have cp := HI.out.1.cell (k - 1) (by omega)
            have ex : rotG a (k + 2) G k = G (k + 1) := by unfold rotG; rw [if_pos (by omega)]
            have ep : rotG a (k + 2) G (k - 1) = G k := by unfold rotG; rw [if_pos (by omega), Nat.sub_add_cancel (by omega)]
            rw [ex] at cx
            rw [ep] at cp
            have hlt : G k < G (k + 1) := HS.out.up k (k + 1) hka (by omega) hin
            have LS := fun W : World => sLess_in W (G (k + 1) : Int) (G k : Int)
            have dx : decide ((G (k + 1) : Int) < (G k : Int)) = false := decide_eq_false (by omega)
            obtain ⟨q, rfl⟩ : ∃ q, k = q + 1 := ⟨k - 1, by omega⟩
            rw [Nat.add_sub_cancel] at cp
            have da : decide ((a : Int) < (q : Int) + 1) = true := decide_eq_true (by omega)
            have hkw : IntKind.i64.wrap ((q : Int) + 1 - 1) = (q : Int) := by rw [IntKind.wrap_i64]; omega
            have hq : q + 1 < n := by omega
            clear HI ex ep hka
            simp only [Int.natCast_add, Int.cast_ofNat_Int]
            generalize G (q + 1 + 1) = x at *
            generalize G (q + 1) = y at *
            go_wp2_with fail
            go_quiet ((go_at_call 207; exact Calls.quiet_of_same ((LS _).mono fun _ _ x => ⟨x.1, x.2.symm⟩)))
            go_wp2_with fail
            exact ⟨⟨q + 1 + 1 + 1, by omega, by omega, by simp, HO.out _⟩, by simp [intOf]; omega⟩
          · have da : decide ((a : Int) < (k : Int)) = false := decide_eq_false (by omega)
            clear HI
            go_wp2_with fail
            go_quiet (fail)
            go_wp2_with fail
            exact ⟨⟨k + 1 + 1, by omega, by omega, by simp, HO.out _⟩, by simp [intOf]; omega⟩
    · have di : decide ((i : Int) < (b : Int)) = false := decide_eq_false (by omega)
      have HF : Hid (RowG wr g n (rotG a b G) ∧ Kept (fun k => k = g) w wr) := by
        have := HV.out
        rw [Nat.min_eq_right (by omega)] at this
        exact this
      clear HV
      go_wp2_with fail
      go_end0
      exact ⟨rfl, HF.out⟩
end Go.Proofs.YtlehlgipbhfioaaGreat

namespace Go.Proofs.YtlehlgipbhfioaaGreat
open Go.RowKit Go.Maps

set_option maxRecDepth 100000 in
set_option maxHeartbeats 1000000 in
/-- It does not try where there are few. -/
theorem partI_no (w : World) (g n c a b : Nat) (G : Nat → Nat) (h : RowG w g n G) (hab : a + 2 ≤ b) (hb : b ≤ n) (hn : n ≤ 1000000) (hs : ShG a b G) (h50 : b < a + 50) :
    Calls Tryz.prog 206 #[.slice (some ⟨g, 0, none⟩) n c, .int .i64 (a : Int), .int .i64 (b : Int)] w fun e w' => e = .returned (.bool false) ∧ ∃ m, w' = w.drewN m := by
  have cx := h.cell (a + 1) (by omega)
  have cp := h.cell a (by omega)
  have hlt : G (a + 1) < G a := hs.top (a + 1) (by omega) (by omega)
  have LS := fun W : World => sLess_in W (G (a + 1) : Int) (G a : Int)
  have dx : decide ((G (a + 1) : Int) < (G a : Int)) = true := decide_eq_true (by omega)
  have hw1 : IntKind.i64.wrap ((a : Int) + 1) = (a : Int) + 1 := wrap_nat1 (by omega)
  have hw2 : IntKind.i64.wrap ((a : Int) + 1 - 1) = (a : Int) := by rw [IntKind.wrap_i64]; omega
  have hw3 : IntKind.i64.wrap ((b : Int) - (a : Int)) = (b : Int) - (a : Int) := by rw [IntKind.wrap_i64]; omega
  have db : decide ((a : Int) + 1 < (b : Int)) = true := decide_eq_true (by omega)
  have de : ((a : Int) + 1 == (b : Int)) = false := by simp; omega
  have d5 : decide ((b : Int) - (a : Int) < 50) = true := decide_eq_true (by omega)
  have han : a + 1 < n := by omega
  clear h hs
  generalize G (a + 1) = x at *
  generalize G a = y at *
  go_enter Tryz.func206, Tryz.ntmps206
  go_wp2_with fail
  go_loopw [7, 8] (fun t7 t8 W => t7 = .int .i64 ((a : Int) + 1) ∧ t8 = .int .i64 0 ∧ W = w) (fun _ _ _ => 0)
  case atStart => exact ⟨by simp, rfl, rfl⟩
  case round =>
    obtain ⟨rfl, rfl, rfl⟩ := hrel
    go_wp2_with fail
    go_loopw [7] (fun t7 W => t7 = .int .i64 ((a : Int) + 1) ∧ W = wr) (fun _ _ => 0)
    case atStart => exact ⟨rfl, rfl⟩
    case round =>
      obtain ⟨rfl, rfl⟩ := hrel
      go_wp2_with fail
      go_quiet ((go_at_call 207; exact Calls.quiet_of_same ((LS _).mono fun _ _ x => ⟨x.1, x.2.symm⟩)))
      go_wp2_with fail
      go_ret
      exact ⟨rfl, _, rfl⟩

theorem rot_old {a b : Nat} (G : Nat → Nat) {t : Nat} (h : b ≤ t) : rotG a b G t = G t := by
  unfold rotG
  rw [if_neg (by omega), if_neg (by omega)]
theorem rot_top {a b : Nat} (G : Nat → Nat) (h : a < b) : rotG a b G (b - 1) = G a := by
  unfold rotG
  rw [if_neg (by omega), if_pos (by omega)]
theorem rot_low {a b : Nat} (G : Nat → Nat) {t : Nat} (h : a ≤ t) (h2 : t + 1 < b) : rotG a b G t = G (t + 1) := by
  unfold rotG
  rw [if_pos (by omega)]
/-- One more is put ahead of the greatest. -/
theorem rot_swap {W : World} {g n a k : Nat} {G : Nat → Nat} (h : RowG W g n (rotG a (k + 1) G)) (hak : a ≤ k) (x y : Nat) (hx : x = G (k + 1)) (hy : y = G a) (m : Nat) :
    RowG (((W.drewN m).setCell ⟨g, k + 1, none⟩ (.int .i32 (y : Int))).setCell ⟨g, k, none⟩ (.int .i32 (x : Int))) g n (rotG a (k + 2) G) := by
  subst hx hy
  refine (((h.drew m).set (k + 1) (G a)).set k (G (k + 1))).congr fun t ht => ?_
  unfold rotG
  by_cases e1 : t = k
  · subst e1; rw [if_pos (by omega), if_pos rfl]
  · by_cases e2 : t = k + 1
    · subst e2; rw [if_neg (by omega), if_pos (by omega), if_neg e1, if_pos rfl]
    · rw [if_neg e1, if_neg e2]
      by_cases e3 : a ≤ t ∧ t + 1 < k + 1
      · rw [if_pos (by omega), if_pos e3]
      · rw [if_neg (by omega), if_neg (by omega), if_neg e3, if_neg (by omega)]
theorem rot_one (a : Nat) (G : Nat → Nat) (t : Nat) : rotG a (a + 1) G t = G t := by
  unfold rotG
  by_cases e2 : t = a
  · subst e2; simp
  · rw [if_neg (by omega), if_neg (by omega)]

theorem rot_rise {a b : Nat} {G : Nat → Nat} (h : ShG a b G) {k : Nat} (hk : a ≤ k) (hb : k + 1 < b) : rotG a b G k ≤ rotG a b G (k + 1) := by
  rw [rot_low G hk hb]
  by_cases e : k + 2 < b
  · rw [rot_low G (by omega) (by omega)]
    exact Nat.le_of_lt (h.up (k + 1) (k + 2) (by omega) (by omega) (by omega))
  · have e2 : k + 1 = b - 1 := by omega
    rw [e2, rot_top G (by omega)]
    exact Nat.le_of_lt (h.top (b - 1) (by omega) (by omega))

set_option maxRecDepth 100000 in
set_option maxHeartbeats 1000000 in
/-- Where there are many, it sorts them at once. -/
theorem partI_yes (w : World) (g n c a b : Nat) (G : Nat → Nat) (h : RowG w g n G) (hb : b ≤ n) (hn : n ≤ 1000000) (hs : ShG a b G) (h50 : a + 50 ≤ b) :
    Calls Tryz.prog 206 #[.slice (some ⟨g, 0, none⟩) n c, .int .i64 (a : Int), .int .i64 (b : Int)] w fun e w' => e = .returned (.bool true) ∧ RowG w' g n (rotG a b G) ∧ Kept (fun k => k = g) w w' := by
  have hw1 : IntKind.i64.wrap ((a : Int) + 1) = (a : Int) + 1 := wrap_nat1 (by omega)
  have HR0 : Hid (RowG w g n (rotG a (a + 1) G) ∧ Kept (fun k => k = g) w w) := ⟨h.congr fun t _ => rot_one a G t, Kept.refl _ _⟩
  have HS : Hid (ShG a b G) := hs
  obtain ⟨y, hy⟩ : ∃ y, y = G a := ⟨_, rfl⟩
  have HY : Hid _ := hy
  clear h hs hy
  go_enter Tryz.func206, Tryz.ntmps206
  go_wp2_with fail
  go_loopw [7, 8] (fun t7 t8 W => t7 = .int .i64 ((a : Int) + 1) ∧ ((t8 = .int .i64 0 ∧ Hid (RowG W g n (rotG a (a + 1) G) ∧ Kept (fun k => k = g) w W)) ∨ (t8 = .int .i64 1 ∧ Hid (RowG W g n (rotG a b G) ∧ Kept (fun k => k = g) w W)))) (fun _ t8 _ => 2 - (intOf t8).toNat)
  case atStart => exact ⟨by simp, Or.inl ⟨rfl, HR0⟩⟩
  case round =>
    clear HR0
    obtain ⟨rfl, ⟨rfl, HQ⟩ | ⟨rfl, HQ⟩⟩ := hrel
    · have hw2 : IntKind.i64.wrap ((a : Int) + 1 - 1) = (a : Int) := by rw [IntKind.wrap_i64]; omega
      have hw3 : IntKind.i64.wrap ((b : Int) - (a : Int)) = (b : Int) - (a : Int) := by rw [IntKind.wrap_i64]; omega
      have hw4 : IntKind.i64.wrap ((a : Int) + 1 - (a : Int)) = 1 := by rw [IntKind.wrap_i64]; omega
      have hw5 : IntKind.i64.wrap ((b : Int) - ((a : Int) + 1)) = (b : Int) - ((a : Int) + 1) := by rw [IntKind.wrap_i64]; omega
      have db : decide ((a : Int) + 1 < (b : Int)) = true := decide_eq_true (by omega)
      have de : ((a : Int) + 1 == (b : Int)) = false := by simp; omega
      have d5 : decide ((b : Int) - (a : Int) < 50) = false := decide_eq_false (by omega)
      have han : a + 1 < n := by omega
      go_wp2_with fail
      go_loopw [7] (fun t7 W => t7 = .int .i64 ((a : Int) + 1) ∧ Hid (RowG W g n (rotG a (a + 1) G) ∧ Kept (fun k => k = g) w W)) (fun _ _ => 0)
      case atStart => exact ⟨rfl, HQ⟩
      case round =>
        obtain ⟨rfl, HQ2⟩ := hrel
        clear HQ
        have cx := HQ2.out.1.cell (a + 1) (by omega)
        have cp := HQ2.out.1.cell a (by omega)
        rw [rot_old G (Nat.le_refl _)] at cx
        rw [rot_one, ← HY.out] at cp
        have hlt : G (a + 1) < y := by rw [HY.out]; exact HS.out.top (a + 1) (by omega) (by omega)
        have fx := HQ2.out.1.frozen (a + 1)
        have fp := HQ2.out.1.frozen a
        have LS := fun W : World => sLess_in W (G (a + 1) : Int) (y : Int)
        have dx : decide ((G (a + 1) : Int) < (y : Int)) = true := decide_eq_true (by omega)
        have HF : Hid (∀ m, RowG (((wr.drewN m).setCell ⟨g, a + 1, none⟩ (.int .i32 (y : Int))).setCell ⟨g, a, none⟩ (.int .i32 (G (a + 1) : Int))) g n (rotG a (a + 2) G) ∧ Kept (fun k => k = g) w (((wr.drewN m).setCell ⟨g, a + 1, none⟩ (.int .i32 (y : Int))).setCell ⟨g, a, none⟩ (.int .i32 (G (a + 1) : Int)))) := fun m => ⟨rot_swap (k := a) HQ2.out.1 (Nat.le_refl a) (G (a + 1)) y rfl HY.out m, Kept.setCell (S := fun k => k = g) (Kept.setCell (S := fun k => k = g) (HQ2.out.2.drewN m) (p := ⟨g, a + 1, none⟩) rfl _) (p := ⟨g, a, none⟩) rfl _⟩
        generalize G (a + 1) = x at *
        clear HQ2
        go_wp2_with fail
        go_quiet ((go_at_call 207; exact Calls.quiet_of_same ((LS _).mono fun _ _ x => ⟨x.1, x.2.symm⟩)))
        go_wp2_with fail
        go_region
        all_goals go_wp2_with fail
        have HK : Hid _ := HF.out (nq + 1)
        generalize ((wr.drewN (nq + 1)).setCell ⟨g, a + 1, none⟩ (.int .i32 (y : Int))).setCell ⟨g, a, none⟩ (.int .i32 (x : Int)) = w2 at *
        clear cx cp fx fp LS dx HF
        go_loopw [10] (fun t10 W => ∃ j : Nat, a + 2 ≤ j ∧ j ≤ b ∧ t10 = .int .i64 (j : Int) ∧ Hid (RowG W g n (rotG a j G) ∧ Kept (fun k => k = g) w W)) (fun t10 _ => b - (intOf t10).toNat)
        case atStart => exact ⟨a + 2, Nat.le_refl _, by omega, by go_num, HK⟩
        case round =>
          obtain ⟨j, hj1, hj2, rfl, HJ⟩ := hrel
          clear HK
          by_cases hjb : j < b
          · obtain ⟨k, rfl⟩ : ∃ k, j = k + 1 := ⟨j - 1, by omega⟩
            have cx := HJ.out.1.cell (k + 1) (by omega)
            have cp := HJ.out.1.cell k (by omega)
            have et := rot_top (b := k + 1) G (show a < k + 1 by omega)
            rw [Nat.add_sub_cancel] at et
            rw [rot_old G (Nat.le_refl _)] at cx
            rw [et, ← HY.out] at cp
            have hlt2 : G (k + 1) < y := by rw [HY.out]; exact HS.out.top (k + 1) (by omega) hjb
            have fx := HJ.out.1.frozen (k + 1)
            have fp := HJ.out.1.frozen k
            have LS := fun W : World => sLess_in W (G (k + 1) : Int) (y : Int)
            have dx : decide ((G (k + 1) : Int) < (y : Int)) = true := decide_eq_true (by omega)
            have hkw : IntKind.i64.wrap ((k : Int) + 1 - 1) = (k : Int) := by rw [IntKind.wrap_i64]; omega
            have hkw2 : IntKind.i64.wrap ((k : Int) + 1 + 1) = (k : Int) + 1 + 1 := by rw [IntKind.wrap_i64]; omega
            have dkb : decide ((k : Int) + 1 < (b : Int)) = true := decide_eq_true (by omega)
            have HF2 : Hid (∀ m, RowG (((wr.drewN m).setCell ⟨g, k + 1, none⟩ (.int .i32 (y : Int))).setCell ⟨g, k, none⟩ (.int .i32 (G (k + 1) : Int))) g n (rotG a (k + 2) G) ∧ Kept (fun k => k = g) w (((wr.drewN m).setCell ⟨g, k + 1, none⟩ (.int .i32 (y : Int))).setCell ⟨g, k, none⟩ (.int .i32 (G (k + 1) : Int)))) := fun m => ⟨rot_swap HJ.out.1 (by omega) (G (k + 1)) y rfl HY.out m, Kept.setCell (S := fun k => k = g) (Kept.setCell (S := fun k => k = g) (HJ.out.2.drewN m) (p := ⟨g, k + 1, none⟩) rfl _) (p := ⟨g, k, none⟩) rfl _⟩
            have hkn : k + 1 < n := by omega
            generalize G (k + 1) = z at *
            clear HJ et
            simp only [Int.natCast_add, Int.cast_ofNat_Int]
            go_wp2_with fail
            go_quiet ((go_at_call 207; exact Calls.quiet_of_same ((LS _).mono fun _ _ x => ⟨x.1, x.2.symm⟩)))
            go_wp2_with fail
            go_region
            all_goals go_wp2_with fail
            exact ⟨⟨k + 2, by omega, by omega, by go_num, HF2.out _⟩, by simp [intOf]; omega⟩
          · have djb : decide ((j : Int) < (b : Int)) = false := decide_eq_false (by omega)
            obtain rfl : j = b := by omega
            go_wp2_with fail
            exact ⟨⟨rfl, Or.inr ⟨rfl, HJ⟩⟩, by simp [intOf]⟩
    · have db : decide ((a : Int) + 1 < (b : Int)) = true := decide_eq_true (by omega)
      have dq : decide ((b : Int) < (b : Int)) = false := decide_eq_false (by omega)
      go_wp2_with fail
      go_loopw [7] (fun t7 W => ∃ j : Nat, a + 1 ≤ j ∧ j ≤ b ∧ t7 = .int .i64 (j : Int) ∧ Hid (RowG W g n (rotG a b G) ∧ Kept (fun k => k = g) w W)) (fun t7 _ => b - (intOf t7).toNat)
      case atStart => exact ⟨a + 1, Nat.le_refl _, by omega, by go_num, HQ⟩
      case round =>
        obtain ⟨j, hj1, hj2, rfl, HJ⟩ := hrel
        clear HQ
        by_cases hjb : j < b
        · obtain ⟨k, rfl⟩ : ∃ k, j = k + 1 := ⟨j - 1, by omega⟩
          have cx := HJ.out.1.cell (k + 1) (by omega)
          have cp := HJ.out.1.cell k (by omega)
          have hge : rotG a b G k ≤ rotG a b G (k + 1) := rot_rise HS.out (by omega) hjb
          have LS := fun W : World => sLess_in W (rotG a b G (k + 1) : Int) (rotG a b G k : Int)
          have dx : decide ((rotG a b G (k + 1) : Int) < (rotG a b G k : Int)) = false := decide_eq_false (by omega)
          have hkw : IntKind.i64.wrap ((k : Int) + 1 - 1) = (k : Int) := by rw [IntKind.wrap_i64]; omega
          have hkw2 : IntKind.i64.wrap ((k : Int) + 1 + 1) = (k : Int) + 1 + 1 := by rw [IntKind.wrap_i64]; omega
          have dkb : decide ((k : Int) + 1 < (b : Int)) = true := decide_eq_true (by omega)
          have hkn : k + 1 < n := by omega
          have HJ2 : Hid (∀ m, RowG (wr.drewN m) g n (rotG a b G) ∧ Kept (fun k => k = g) w (wr.drewN m)) := fun m => ⟨HJ.out.1.drew m, HJ.out.2.drewN m⟩
          clear HJ hge
          generalize rotG a b G (k + 1) = z at cx LS dx
          generalize rotG a b G k = y2 at cp LS dx
          have dx2 : (!decide (z < y2)) = true := by
            have := of_decide_eq_false dx
            rw [decide_eq_false (by omega)]; rfl
          simp only [Int.natCast_add, Int.cast_ofNat_Int]
          go_wp2_with fail
          go_quiet ((go_at_call 207; exact Calls.quiet_of_same ((LS _).mono fun _ _ x => ⟨x.1, x.2.symm⟩)))
          go_wp2_with fail
          exact ⟨⟨k + 2, by omega, by omega, by go_num, HJ2.out _⟩, by simp [intOf]; omega⟩
        · have djb : decide ((j : Int) < (b : Int)) = false := decide_eq_false (by omega)
          obtain rfl : j = b := by omega
          have deq : ((j : Int) == (j : Int)) = true := by simp
          have HJ2 : Hid (∀ m, RowG (wr.drewN m) g n (rotG a j G) ∧ Kept (fun k => k = g) w (wr.drewN m)) := fun m => ⟨HJ.out.1.drew m, HJ.out.2.drewN m⟩
          clear HJ
          go_wp2_with fail
          go_quiet (fail)
          go_wp2_with fail
          go_ret
          exact ⟨rfl, HJ2.out _⟩
end Go.Proofs.YtlehlgipbhfioaaGreat

namespace Go.Proofs.YtlehlgipbhfioaaGreat
open Go.RowKit Go.Maps

/-- The pivot's literal stands first, the greatest in its place. -/
def prtA (a p : Nat) (G : Nat → Nat) (t : Nat) : Nat := if t = p then G a else if t = a then G p else G t
def prtB (a p : Nat) (G : Nat → Nat) (t : Nat) : Nat := if t = a then G (p - 1) else if t = p - 1 then G p else if t = p then G a else G t

set_option maxRecDepth 100000 in
set_option maxHeartbeats 1000000 in
/-- What is less than the pivot stands ahead already. -/
theorem partn_in (w : World) (g n c a b p : Nat) (G : Nat → Nat) (h : RowG w g n G) (hap : a + 2 ≤ p) (hpb : p < b) (hb : b ≤ n) (hn : n ≤ 1000000) (hs : ShG a b G) :
    Calls Tryz.prog 209 #[.slice (some ⟨g, 0, none⟩) n c, .int .i64 (a : Int), .int .i64 (b : Int), .int .i64 (p : Int)] w fun e w' => e = .returned (.tuple #[.int .i64 ((p - 1 : Nat) : Int), .bool true]) ∧ RowG w' g n (prtB a p G) ∧ Kept (fun k => k = g) w w' := by
  have HS : Hid (ShG a b G) := hs
  have ca := h.cell a (by omega)
  have cp := h.cell p (by omega)
  have fa := h.frozen a
  have fp := h.frozen p
  have HF : Hid (∀ m, RowG (((w.drewN m).setCell ⟨g, a, none⟩ (.int .i32 (G p : Int))).setCell ⟨g, p, none⟩ (.int .i32 (G a : Int))) g n (prtA a p G) ∧ Kept (fun k => k = g) w (((w.drewN m).setCell ⟨g, a, none⟩ (.int .i32 (G p : Int))).setCell ⟨g, p, none⟩ (.int .i32 (G a : Int)))) := fun m => ⟨((h.drew m).set a (G p)).set p (G a), Kept.setCell (S := fun k => k = g) (Kept.setCell (S := fun k => k = g) ((Kept.refl _ _).drewN m) (p := ⟨g, a, none⟩) rfl _) (p := ⟨g, p, none⟩) rfl _⟩
  have han : a < n := by omega
  have hpn : p < n := by omega
  have hw1 : IntKind.i64.wrap ((a : Int) + 1) = (a : Int) + 1 := wrap_nat1 (by omega)
  have hw2 : IntKind.i64.wrap ((b : Int) - 1) = (b : Int) - 1 := by rw [IntKind.wrap_i64]; omega
  clear h hs
  obtain ⟨x, hx⟩ : ∃ x, x = G a := ⟨_, rfl⟩
  obtain ⟨y, hy⟩ : ∃ y, y = G p := ⟨_, rfl⟩
  rw [← hx, ← hy] at HF
  rw [← hx] at ca
  rw [← hy] at cp
  have HX : Hid (x = G a ∧ y = G p) := ⟨hx, hy⟩
  clear hx hy
  go_enter Tryz.func209, Tryz.ntmps209
  go_wp2_with fail
  go_region
  all_goals go_wp2_with fail
  have HK : Hid (RowG (((w.setCell ⟨g, a, none⟩ (.int .i32 (y : Int))).setCell ⟨g, p, none⟩ (.int .i32 (x : Int))).drew) g n (prtA a p G) ∧ Kept (fun k => k = g) w (((w.setCell ⟨g, a, none⟩ (.int .i32 (y : Int))).setCell ⟨g, p, none⟩ (.int .i32 (x : Int))).drew)) := ⟨(HF.out 0).1.drew 1, (HF.out 0).2.drewN 1⟩
  generalize (((w.setCell ⟨g, a, none⟩ (.int .i32 (y : Int))).setCell ⟨g, p, none⟩ (.int .i32 (x : Int))).drew) = w2 at *
  clear ca cp fa fp HF
  go_loopw [10] (fun t10 W => ∃ i : Nat, a + 1 ≤ i ∧ i ≤ p ∧ t10 = .int .i64 (i : Int) ∧ Hid (RowG W g n (prtA a p G) ∧ Kept (fun k => k = g) w W)) (fun t10 _ => p - (intOf t10).toNat)
  case atStart => exact ⟨a + 1, Nat.le_refl _, by omega, by go_num, HK⟩
  case round =>
    obtain ⟨i, hi1, hi2, rfl, HI⟩ := hrel
    clear HK
    have ca := HI.out.1.cell a han
    have ea : prtA a p G a = y := by unfold prtA; rw [if_neg (by omega), if_pos rfl, HX.out.2]
    rw [ea] at ca
    by_cases hip : i < p
    · have ci := HI.out.1.cell i (by omega)
      have ei : prtA a p G i = G i := by unfold prtA; rw [if_neg (by omega), if_neg (by omega)]
      rw [ei] at ci
      have hlt : G i < y := by rw [HX.out.2]; exact HS.out.up i p (by omega) hip hpb
      have LS := fun W : World => sLess_in W (G i : Int) (y : Int)
      have dx : decide ((G i : Int) < (y : Int)) = true := decide_eq_true (by omega)
      have dx2 : decide (G i < y) = true := decide_eq_true hlt
      have dib : decide ((i : Int) ≤ (b : Int) - 1) = true := decide_eq_true (by omega)
      have hwi : IntKind.i64.wrap ((i : Int) + 1) = (i : Int) + 1 := by rw [IntKind.wrap_i64]; omega
      have hin : i < n := by omega
      have HJ2 : Hid (∀ m, RowG (wr.drewN m) g n (prtA a p G) ∧ Kept (fun k => k = g) w (wr.drewN m)) := fun m => ⟨HI.out.1.drew m, HI.out.2.drewN m⟩
      clear HI ei ea
      generalize G i = z at *
      go_wp2_with fail
      go_quiet ((go_at_call 207; exact Calls.quiet_of_same ((LS _).mono fun _ _ x => ⟨x.1, x.2.symm⟩)))
      go_wp2_with fail
      exact ⟨⟨i + 1, by omega, by omega, by go_num, HJ2.out _⟩, by simp [intOf]; omega⟩
    · obtain rfl : i = p := by omega
      have ci := HI.out.1.cell i (by omega)
      have ei : prtA a i G i = x := by unfold prtA; rw [if_pos rfl, HX.out.1]
      rw [ei] at ci
      have hlt : y < x := by rw [HX.out.2, HX.out.1]; exact HS.out.top i (by omega) hpb
      have LS := fun W : World => sLess_in W (x : Int) (y : Int)
      have dx : decide ((x : Int) < (y : Int)) = false := decide_eq_false (by omega)
      have dx2 : decide (x < y) = false := decide_eq_false (by omega)
      have dib : decide ((i : Int) ≤ (b : Int) - 1) = true := decide_eq_true (by omega)
      have HJ2 : Hid (∀ m, RowG (wr.drewN m) g n (prtA a i G) ∧ Kept (fun k => k = g) w (wr.drewN m)) := fun m => ⟨HI.out.1.drew m, HI.out.2.drewN m⟩
      clear HI ei ea
      go_wp2_with fail
      go_quiet ((go_at_call 207; exact Calls.quiet_of_same ((LS _).mono fun _ _ x => ⟨x.1, x.2.symm⟩)))
      go_wp2_with fail
      have HK : Hid _ := HJ2.out nq
      generalize wr.drewN nq = w3 at *
      clear HJ2 ca ci LS dx dx2 dib
      go_loopw [11] (fun t11 W => ∃ j : Nat, i ≤ j + 1 ∧ j + 1 ≤ b ∧ t11 = .int .i64 (j : Int) ∧ Hid (RowG W g n (prtA a i G) ∧ Kept (fun k => k = g) w W)) (fun t11 _ => (intOf t11).toNat)
      case atStart => exact ⟨b - 1, by omega, by omega, by go_num, HK⟩
      case round =>
        obtain ⟨j, hj1, hj2, rfl, HJ⟩ := hrel
        clear HK
        have ca := HJ.out.1.cell a han
        have ea : prtA a i G a = y := by unfold prtA; rw [if_neg (by omega), if_pos rfl, HX.out.2]
        rw [ea] at ca
        by_cases hij : i ≤ j
        · have cj := HJ.out.1.cell j (by omega)
          obtain ⟨z, ez⟩ : ∃ z, z = prtA a i G j := ⟨_, rfl⟩
          rw [← ez] at cj
          have hge : y ≤ z := by
            rw [ez, HX.out.2]; unfold prtA
            by_cases e : j = i
            · rw [if_pos e, ← HX.out.1, ← HX.out.2]; omega
            · rw [if_neg e, if_neg (by omega)]; exact Nat.le_of_lt (HS.out.up i j (by omega) (by omega) (by omega))
          have LS := fun W : World => sLess_in W (z : Int) (y : Int)
          have dx : decide ((z : Int) < (y : Int)) = false := decide_eq_false (by omega)
          have dx2 : (!decide (z < y)) = true := by rw [decide_eq_false (by omega)]; rfl
          have dij : decide ((i : Int) ≤ (j : Int)) = true := decide_eq_true (by omega)
          have hwj : IntKind.i64.wrap ((j : Int) - 1) = (j : Int) - 1 := by rw [IntKind.wrap_i64]; omega
          have hjn : j < n := by omega
          have HJ2 : Hid (∀ m, RowG (wr.drewN m) g n (prtA a i G) ∧ Kept (fun k => k = g) w (wr.drewN m)) := fun m => ⟨HJ.out.1.drew m, HJ.out.2.drewN m⟩
          clear HJ ea ez
          go_wp2_with fail
          go_quiet ((go_at_call 207; exact Calls.quiet_of_same ((LS _).mono fun _ _ x => ⟨x.1, x.2.symm⟩)))
          go_wp2_with fail
          exact ⟨⟨j - 1, by omega, by omega, by go_num, HJ2.out _⟩, by simp [intOf]; omega⟩
        · obtain rfl : i = j + 1 := by omega
          have cj := HJ.out.1.cell j (by omega)
          have ej : prtA a (j + 1) G j = G j := by unfold prtA; rw [if_neg (by omega), if_neg (by omega)]
          rw [ej] at cj
          have fa := fun m => (HJ.out.1.drew m).frozen a
          have fj := fun m => (HJ.out.1.drew m).frozen j
          have dij : decide ((j : Int) + 1 ≤ (j : Int)) = false := decide_eq_false (by omega)
          have dji : decide ((j : Int) < (j : Int) + 1) = true := decide_eq_true (by omega)
          have hjn : j < n := by omega
          have HF : Hid (∀ m, RowG (((wr.drewN m).setCell ⟨g, j, none⟩ (.int .i32 (y : Int))).setCell ⟨g, a, none⟩ (.int .i32 (G j : Int))) g n (prtB a (j + 1) G) ∧ Kept (fun k => k = g) w (((wr.drewN m).setCell ⟨g, j, none⟩ (.int .i32 (y : Int))).setCell ⟨g, a, none⟩ (.int .i32 (G j : Int)))) := fun m => by
            refine ⟨(((HJ.out.1.drew m).set j y).set a (G j)).congr fun t ht => ?_, Kept.setCell (S := fun k => k = g) (Kept.setCell (S := fun k => k = g) (HJ.out.2.drewN m) (p := ⟨g, j, none⟩) rfl _) (p := ⟨g, a, none⟩) rfl _⟩
            unfold prtB prtA
            rw [Nat.add_sub_cancel]
            by_cases e1 : t = a
            · rw [if_pos e1, if_pos e1]
            · rw [if_neg e1, if_neg e1]
              by_cases e2 : t = j
              · rw [if_pos e2, if_pos e2, HX.out.2]
              · rw [if_neg e2, if_neg e2]
                by_cases e3 : t = j + 1
                · rw [if_pos e3, if_pos e3]
                · rw [if_neg e3, if_neg e3, if_neg e1]
          clear HJ ea ej
          generalize G j = z at *
          simp only [Int.natCast_add, Int.cast_ofNat_Int]
          go_wp2_with fail
          go_quiet (fail)
          go_wp2_with fail
          go_region
          all_goals go_wp2_with fail
          go_ret2
          exact ⟨by simp, HF.out _⟩
end Go.Proofs.YtlehlgipbhfioaaGreat

namespace Go.Proofs.YtlehlgipbhfioaaGreat
open Go.RowKit Go.Maps

theorem tab_all : (List.range 256).all (fun x => x == 0 || (if h : x < Lib.len8tab.size then decide (1 ≤ Lib.len8tab[x].toNat) && decide (Lib.len8tab[x].toNat ≤ 8) else false)) = true := by decide +kernel
theorem tab_size : Lib.len8tab.size = 256 := by decide +kernel
theorem tab_gen (s : type_of% Lib.len8tab) (hz : s.size = 256) (ha : (List.range 256).all (fun x => x == 0 || (if h : x < s.size then decide (1 ≤ s[x].toNat) && decide (s[x].toNat ≤ 8) else false)) = true) (x : Nat) (h : x < s.size) (h1 : 1 ≤ x) : 1 ≤ s[x].toNat ∧ s[x].toNat ≤ 8 := by
  have := List.all_eq_true.1 ha x (by rw [hz] at h; simpa using h)
  rw [dif_pos h] at this
  simp only [Bool.or_eq_true, Bool.and_eq_true, decide_eq_true_eq, beq_iff_eq] at this
  omega
theorem tab_pos (x : Nat) (h : x < Lib.len8tab.size) (h1 : 1 ≤ x) : 1 ≤ Lib.len8tab[x].toNat ∧ Lib.len8tab[x].toNat ≤ 8 := tab_gen Lib.len8tab tab_size tab_all x h h1

set_option maxRecDepth 100000 in
set_option maxHeartbeats 1000000 in
theorem len64_pos (w : World) (x : Nat) (h1 : 13 ≤ x) (hx : x ≤ 1000) : Calls Tryz.prog 192 #[.int .u64 (x : Int)] w fun e w' => ∃ k : Nat, e = .returned (.int .i64 (k : Int)) ∧ 1 ≤ k ∧ k ≤ 100 ∧ w = w' := by
  have d1 : decide ((x : Int) ≥ 4294967296) = false := decide_eq_false (by omega)
  have d2 : decide ((x : Int) ≥ 65536) = false := decide_eq_false (by omega)
  have TS := tab_size
  by_cases h : 256 ≤ x
  · have d3 : decide ((x : Int) ≥ 256) = true := decide_eq_true (by omega)
    go_enter Tryz.func192, Tryz.ntmps192
    go_wp2_with fail
    all_goals first
      | (exfalso; omega)
      | (have T := tab_pos (x / 256) (by omega) (by omega)
         generalize Lib.len8tab[x / 256].toNat = k at T
         go_ret
         refine ⟨8 + k, ?_, by omega, by omega, rfl⟩
         have e : wrap64 (8 + wrap64 (k : Int)) = ((8 + k : Nat) : Int) := by
           unfold wrap64
           omega
         rw [e]
         rfl)
  · have d3 : decide ((x : Int) ≥ 256) = false := decide_eq_false (by omega)
    go_enter Tryz.func192, Tryz.ntmps192
    go_wp2_with fail
    all_goals first
      | (exfalso; omega)
      | (have T := tab_pos x (by omega) (by omega)
         generalize Lib.len8tab[x].toNat = k at T
         go_ret
         refine ⟨k, ?_, by omega, by omega, rfl⟩
         have e : wrap64 (wrap64 (k : Int)) = (k : Int) := by
           unfold wrap64
           omega
         rw [e]
         rfl)

set_option maxRecDepth 100000 in
set_option maxHeartbeats 1000000 in
theorem len_pos (w : World) (x : Nat) (h0 : 13 ≤ x) (hx : x ≤ 1000) : Calls Tryz.prog 145 #[.int .u64 (x : Int)] w fun e w' => ∃ k : Nat, e = .returned (.int .i64 (k : Int)) ∧ 1 ≤ k ∧ k ≤ 100 ∧ w = w' := by
  have L := len64_pos w x h0 hx
  have h1 : IntKind.u64.wrap (x : Int) = (x : Int) := by rw [IntKind.wrap_u64]; omega
  go_enter Tryz.func145, Tryz.ntmps145
  go_wp2_with (first | (go_at_call 192; refine L.mono ?_; rintro e w3 ⟨k, rfl, hk1, hk2, rfl⟩))
  go_ret
  exact ⟨_, rfl, hk1, hk2, rfl⟩
end Go.Proofs.YtlehlgipbhfioaaGreat
