/- Package sat: add; above, swap, down, pop. -/
import Derived.Test.YtlehlgipbhfioaaGreatP17
namespace Go.Proofs.YtlehlgipbhfioaaGreat
open Go.RowKit Go.Maps

/-- A clause that lies in memory already is taken in. -/
def Sv.add2 (s : Sv) (c : Nat) : Sv := match s.lits c with
  | [] => { s with fin := true }
  | [l] => s.addFact l
  | _ => s.watch c

set_option maxRecDepth 100000 in
set_option maxHeartbeats 1000000 in
theorem sAddAll_in (w : World) (A : Ad) (s : Sv) (h : Mem w A s) (hF : Fit s) (sb : Nat) (hsb : A.blk .search = some sb) (c cb : Nat) (hcb : A.blk (.clause c) = some cb) (hcl : s.cl.length ≤ 4398046511100) :
    Calls Tryz.prog 84 #[.pointer (some ⟨sb, 0, none⟩), .pointer (some ⟨cb, 0, none⟩)] w fun e w' => e = .returned (.tuple #[]) ∧ ∃ A', Step w w' A A' (s.add2 c) ∧ ∀ r, r ≠ .trail → (∀ l, r ≠ .win l) → A'.blk r = A.blk r ∧ A'.sp r = A.sp r := by
  obtain ⟨rb, hrb⟩ := (h.rows c).2 ((h.cls c).1 ⟨_, hcb⟩)
  have k0 := h.cell hcb (i := 0) rfl
  simp only [Ad.slv, hrb] at k0
  have hll := hF.lits_le c
  have hsm := h.small
  generalize hcap : (s.lits c).length + (A.sp (.crow c)).length / 1 = cap at k0
  clear hcap
  match hl : s.lits c with
  | [] =>
    rw [hl] at k0
    simp only [List.length_nil] at k0
    have c13 := h.cell hsb (i := 13) rfl
    have hc13 : ∃ v13, w.cell? ⟨sb, 13, none⟩ = some v13 := ⟨_, c13⟩
    obtain ⟨v13, c13⟩ := hc13
    have f13 := h.frozen hsb 13
    have HM : Hid _ := h
    clear h hF
    have e : s.add2 c = { s with fin := true } := by unfold Sv.add2; rw [hl]
    go_enter Tryz.func84, Tryz.ntmps84
    go_wp2_with fail
    refine ⟨rfl, .tuple #[], by simp [results, Tryz.results84], rfl, { A with endv := .pointer (some ⟨cb, 0, none⟩) }, ?_, fun _ _ _ => ⟨rfl, rfl⟩⟩
    rw [e]
    exact ⟨HM.out.setEnd hsb _, (Kept.refl _ _).setCell (p := ⟨sb, 13, none⟩) ⟨_, hsb⟩ _, fun _ hk => Or.inl hk⟩
  | [l] =>
    rw [hl] at k0
    simp only [List.length_singleton] at k0
    have AF := addFact_in w A s h hF sb hsb c cb l hcb hl
    clear h hF
    have e : s.add2 c = s.addFact l := by unfold Sv.add2; rw [hl]
    go_enter Tryz.func84, Tryz.ntmps84
    go_wp2_with (first | (go_at_call 124; refine AF.mono ?_; rintro e w3 ⟨rfl, A2, S3, hA2⟩))
    exact ⟨rfl, .tuple #[], by simp [results, Tryz.results84], rfl, A2, by rw [e]; exact S3, fun r h1 _ => hA2 r h1⟩
  | a :: b :: rest =>
    have hlen : (s.lits c).length = rest.length + 2 := by rw [hl]; rfl
    rw [hl] at k0
    simp only [List.length_cons] at k0
    have hnd := (hF.cls c).1
    have hlt := (hF.cls c).2
    rw [hl] at hnd hlt
    have WA := watch_in w A s h sb hsb c cb hcb a b rest hl (hlt a (by simp)) (hlt b (by simp)) (fun e => by simp [e] at hnd) (fun l => Nat.le_trans (hF.wat_le l) hcl)
    clear h hF
    have e : s.add2 c = s.watch c := by unfold Sv.add2; rw [hl]
    generalize hln : rest.length + 1 + 1 = ln at k0
    have d0 : ((ln : Int) == 0) = false := by rw [beq_eq_false_iff_ne]; omega
    have d1 : ((ln : Int) == 1) = false := by rw [beq_eq_false_iff_ne]; omega
    go_enter Tryz.func84, Tryz.ntmps84
    go_wp2_with (first | (go_at_call 125; refine WA.mono ?_; rintro e w3 ⟨rfl, A2, S3, hA2⟩))
    exact ⟨rfl, .tuple #[], by simp [results, Tryz.results84], rfl, A2, by rw [e]; exact S3, fun r h1 h2 => hA2 r (h2 a) (h2 b)⟩

/-- What the order's functions read. -/
theorem Mem.ord {W : World} {A : Ad} {s : Sv} (h : Mem W A s) : ∃ ob hb pb cb, A.blk .order = some ob ∧ A.blk .heap = some hb ∧ A.blk .places = some pb ∧ A.blk .scores = some cb ∧
    W.cell? ⟨ob, 0, none⟩ = some (.slice (some ⟨cb, 0, none⟩) (s.n + 1) (s.n + 1)) ∧ W.cell? ⟨ob, 1, none⟩ = some (.slice (some ⟨hb, 0, none⟩) s.hp.length (s.hp.length + (A.sp .heap).length)) ∧ W.cell? ⟨ob, 2, none⟩ = some (.slice (some ⟨pb, 0, none⟩) (s.n + 1) (s.n + 1)) := by
  obtain ⟨ob, hob⟩ := h.fix .order rfl
  obtain ⟨hb, hhb⟩ := h.fix .heap rfl
  obtain ⟨pb, hpb⟩ := h.fix .places rfl
  obtain ⟨cb, hcb⟩ := h.fix .scores rfl
  have e0 := h.cell hob (i := 0) rfl
  have e1 := h.cell hob (i := 1) rfl
  have e2 := h.cell hob (i := 2) rfl
  simp only [Ad.slv, hcb, h.flat.2.2.2.2.1, List.length_nil, Nat.zero_div, Nat.add_zero] at e0
  simp only [Ad.slv, hhb, Nat.div_one] at e1
  simp only [Ad.slv, hpb, h.flat.2.2.2.1, List.length_nil, Nat.zero_div, Nat.add_zero] at e2
  exact ⟨ob, hb, pb, cb, hob, hhb, hpb, hcb, e0, e1, e2⟩
theorem Mem.hcell {W : World} {A : Ad} {s : Sv} (h : Mem W A s) {hb : Nat} (hhb : A.blk .heap = some hb) {i v : Nat} (hv : s.hp[i]? = some v) : W.cell? ⟨hb, i, none⟩ = some (.int .i32 (v : Int)) := by
  refine h.cell hhb ?_
  show (s.hp.map i32 ++ A.sp .heap)[i]? = _
  have hi := (List.getElem?_eq_some_iff.1 hv).1
  rw [List.getElem?_append_left (by simpa using hi), List.getElem?_map, hv]; rfl
theorem Mem.scell {W : World} {A : Ad} {s : Sv} (h : Mem W A s) {cb : Nat} (hcb : A.blk .scores = some cb) {i : Nat} (hi : i < s.n + 1) : W.cell? ⟨cb, i, none⟩ = some (.int .u64 0) := by
  refine h.cell hcb ?_
  show (List.replicate (s.n + 1) _)[i]? = _
  rw [List.getElem?_replicate, if_pos hi]

set_option maxRecDepth 100000 in
set_option maxHeartbeats 1000000 in
theorem above_in (w : World) (A : Ad) (s : Sv) (h : Mem w A s) (ob : Nat) (hob : A.blk .order = some ob) (hhp : ∀ v ∈ s.hp, v ≤ s.n) (i j : Nat) (hi : i < s.hp.length) (hj : j < s.hp.length) :
    Calls Tryz.prog 253 #[.pointer (some ⟨ob, 0, none⟩), .int .i64 (i : Int), .int .i64 (j : Int)] w fun e w' => e = .returned (.bool false) ∧ ∃ m, w' = w.drewN m := by
  obtain ⟨ob', hb, pb, cb, hob', hhb, hpb, hcb, e0, e1, e2⟩ := h.ord
  rw [hob] at hob'
  cases hob'
  have hi1 := List.getElem?_eq_getElem hi
  have hj1 := List.getElem?_eq_getElem hj
  have vi := hhp _ (List.getElem_mem hi)
  have vj := hhp _ (List.getElem_mem hj)
  have x1 := h.hcell hhb hi1
  have x2 := h.hcell hhb hj1
  generalize s.hp[i] = a at *
  generalize s.hp[j] = b at *
  have y1 := h.scell hcb (i := a) (by omega)
  have y2 := h.scell hcb (i := b) (by omega)
  have d1 : (i : Int) < (s.hp.length : Int) := by omega
  have d2 : (j : Int) < (s.hp.length : Int) := by omega
  have d3 : (a : Int) < (s.n : Int) + 1 := by omega
  have d4 : (b : Int) < (s.n : Int) + 1 := by omega
  clear h hhp hi1 hj1
  generalize s.hp.length = ln at *
  go_enter Tryz.func253, Tryz.ntmps253
  go_wp2_with fail
  go_quiet (fail)
  go_wp2_with fail
  go_ret
  exact ⟨rfl, _, rfl⟩

/-- A place of the heap, a place in places. -/
theorem Mem.setHp {W : World} {A : Ad} {s : Sv} (h : Mem W A s) {hb : Nat} (hhb : A.blk .heap = some hb) {i : Nat} (v : Nat) (hi : i < s.hp.length) : Mem (W.setCell ⟨hb, i, none⟩ (.int .i32 (v : Int))) A { s with hp := s.hp.set i v } :=
  { h with has := h.set hhb i (.int .i32 (v : Int)) (by
      simp only [cellsR]
      rw [List.map_set, List.set_append_left _ _ (by simpa using hi)]; rfl) (fun r' hr => by
      cases r' <;> first | rfl | exact absurd rfl hr | (simp only [cellsR, List.length_set])) }
theorem Mem.setPl {W : World} {A : Ad} {s : Sv} (h : Mem W A s) {pb : Nat} (hpb : A.blk .places = some pb) (i : Nat) (v : Value) : Mem (W.setCell ⟨pb, i, none⟩ v) { A with pl := A.pl.set i v } s := by
  have e : ∀ (S : List Value) (r : Role), r ≠ .places → cellsR { A with pl := S } s r = cellsR A s r := fun S r hr => by cases r <;> first | rfl | exact absurd rfl hr
  refine { h with has := fun r b hb => ?_, lp := by simp [h.lp] }
  have hb' : A.blk r = some b := hb
  by_cases er : r = .places
  · subst er
    rw [hpb] at hb'
    cases hb'
    have := h.has _ _ hpb
    unfold World.setCell
    simp [Array.getElem?_modify, this, cellsR]
  · have hne : b ≠ pb := fun e2 => er (h.inj _ _ _ hb' (by rw [hpb, e2]))
    rw [e _ r er, Below.heap_setCell _ _ _ _ hne]
    exact h.has r b hb'

set_option maxRecDepth 100000 in
set_option maxHeartbeats 1000000 in
theorem swap_in (w : World) (A : Ad) (s : Sv) (h : Mem w A s) (ob : Nat) (hob : A.blk .order = some ob) (hhp : ∀ v ∈ s.hp, v ≤ s.n) (i j a b : Nat) (hi : s.hp[i]? = some a) (hj : s.hp[j]? = some b) :
    Calls Tryz.prog 245 #[.pointer (some ⟨ob, 0, none⟩), .int .i64 (i : Int), .int .i64 (j : Int)] w fun e w' => e = .returned (.tuple #[]) ∧ ∃ pl, Step w w' A { A with pl := pl } { s with hp := (s.hp.set i b).set j a } := by
  obtain ⟨ob', hb, pb, cb, hob', hhb, hpb, hcb, e0, e1, e2⟩ := h.ord
  rw [hob] at hob'
  cases hob'
  have hil := (List.getElem?_eq_some_iff.1 hi).1
  have hjl := (List.getElem?_eq_some_iff.1 hj).1
  have x1 := h.hcell hhb hi
  have x2 := h.hcell hhb hj
  have va := hhp _ (List.mem_of_getElem? hi)
  have vb := hhp _ (List.mem_of_getElem? hj)
  have d1 : (i : Int) < (s.hp.length : Int) := by omega
  have d2 : (j : Int) < (s.hp.length : Int) := by omega
  have d3 : (a : Int) < (s.n : Int) + 1 := by omega
  have d4 : (b : Int) < (s.n : Int) + 1 := by omega
  have f1 := h.frozen hhb i
  have HM : Hid _ := h
  clear h hhp
  have M1 : Mem (w.setCell ⟨hb, i, none⟩ (.int .i32 (b : Int))) A { s with hp := s.hp.set i b } := HM.out.setHp hhb b hil
  have hjl2 : j < ({ s with hp := s.hp.set i b } : Sv).hp.length := by simp only [List.length_set]; exact hjl
  have M2 := M1.setHp hhb a hjl2
  have x3 : (w.setCell ⟨hb, i, none⟩ (.int .i32 (b : Int))).cell? ⟨hb, j, none⟩ = some (.int .i32 (b : Int)) := M1.hcell hhb (by
    show (s.hp.set i b)[j]? = _
    rw [List.getElem?_set]
    split
    · simp
    · exact hj)
  have f3 := M1.frozen hhb j
  have HM2 : Hid _ := M2
  clear M1 M2
  have hne : hb ≠ ob := fun e => by have := HM.out.inj _ _ _ hhb (e ▸ hob); cases this
  generalize s.hp.length + (A.sp .heap).length = hcap at *
  generalize hln : s.hp.length = ln at *
  have HLN : Hid _ := hln
  clear hln
  go_enter Tryz.func245, Tryz.ntmps245
  go_wp2_with fail
  refine wp_region_noPanic ?_
  refine wp_region_held_drew (S := fun W => W.cell? ⟨ob, 1, none⟩ = some (.slice (some ⟨hb, 0, none⟩) ln hcap)) (by kernel_rfl) ?_ (fun hHeld => ?_)
  · (first | exact e1 | exact (World.cell?_setCell_far _ ⟨hb, i, none⟩ ⟨ob, 1, none⟩ _ hne).trans e1 | exact (World.cell?_setCell_far _ ⟨hb, j, none⟩ ⟨ob, 1, none⟩ _ hne).trans ((World.cell?_setCell_far _ ⟨hb, i, none⟩ ⟨ob, 1, none⟩ _ hne).trans e1))
  refine wpAnyH_take (i := 0) (oi := _) (v := ?_) rfl (by kernel_rfl) (by kernel_rfl) (by kernel_rfl) (fun _ _ _ h => h) (Or.inl ⟨by rfl, ?_⟩) (by assumption) ?_
  rotate_left 1
  · intro w hSw; (try dsimp only at hSw); go_simp; (try with_reducible rfl)
  try simp only [Act.put, List.getElem_toArray, List.getElem_cons_zero, List.setIfInBounds_toArray, List.set_cons_zero, List.set_cons_succ]
  refine wpAnyH_take (i := 1) (oi := _) (v := ?_) rfl (by kernel_rfl) (by kernel_rfl) (by kernel_rfl) (fun _ _ _ h => h) (Or.inl ⟨by rfl, ?_⟩) (by assumption) ?_
  rotate_left 1
  · intro w hSw; (try dsimp only at hSw); go_simp; (try with_reducible rfl)
  try simp only [Act.put, List.getElem_toArray, List.getElem_cons_succ, List.getElem_cons_zero, List.setIfInBounds_toArray, List.set_cons_zero, List.set_cons_succ]
  refine wpAnyH_take (i := 2) (oi := _) (v := ?_) rfl (by kernel_rfl) (by kernel_rfl) (by kernel_rfl) (fun _ _ _ h => h) (Or.inl ⟨by rfl, ?_⟩) (by assumption) ?_
  rotate_left 1
  · intro w hSw; (try dsimp only at hSw); go_simp; (try with_reducible rfl)
  try simp only [Act.put, List.getElem_toArray, List.getElem_cons_succ, List.getElem_cons_zero, List.setIfInBounds_toArray, List.set_cons_zero, List.set_cons_succ]
  refine wpAnyH_take (i := 3) (oi := _) (v := ?_) rfl (by kernel_rfl) (by kernel_rfl) (by kernel_rfl) (fun _ _ _ h => h) (Or.inl ⟨by rfl, ?_⟩) (by assumption) ?_
  rotate_left 1
  · intro w hSw; (try dsimp only at hSw); go_simp; (try with_reducible rfl)
  try simp only [Act.put, List.getElem_toArray, List.getElem_cons_succ, List.getElem_cons_zero, List.setIfInBounds_toArray, List.set_cons_zero, List.set_cons_succ]
  refine wpAnyH_take (i := 4) (oi := _) (v := ?_) rfl (by kernel_rfl) (by kernel_rfl) (by kernel_rfl) (fun _ _ _ h => h) (Or.inl ⟨by rfl, ?_⟩) (by assumption) ?_
  rotate_left 1
  · intro w hSw; (try dsimp only at hSw); go_simp; (try with_reducible rfl)
  try simp only [Act.put, List.getElem_toArray, List.getElem_cons_succ, List.getElem_cons_zero, List.setIfInBounds_toArray, List.set_cons_zero, List.set_cons_succ]
  refine wpAnyH_take (i := 5) (oi := _) (v := ?_) rfl (by kernel_rfl) (by kernel_rfl) (by kernel_rfl) (fun _ _ _ h => h) (Or.inl ⟨by rfl, ?_⟩) (by assumption) ?_
  rotate_left 1
  · intro w hSw; (try dsimp only at hSw); go_simp; (try with_reducible rfl)
  try simp only [Act.put, List.getElem_toArray, List.getElem_cons_succ, List.getElem_cons_zero, List.setIfInBounds_toArray, List.set_cons_zero, List.set_cons_succ]
  refine wpAnyH_take (i := 6) (oi := _) (v := ?_) rfl (by kernel_rfl) (by kernel_rfl) (by kernel_rfl) (fun _ _ _ h => h) (Or.inl ⟨by rfl, ?_⟩) (by assumption) ?_
  rotate_left 1
  · intro w hSw; (try dsimp only at hSw); go_simp; (try with_reducible rfl)
  try simp only [Act.put, List.getElem_toArray, List.getElem_cons_succ, List.getElem_cons_zero, List.setIfInBounds_toArray, List.set_cons_zero, List.set_cons_succ]
  refine wpAnyH_take (i := 7) (oi := _) (v := ?_) rfl (by kernel_rfl) (by kernel_rfl) (by kernel_rfl) (fun _ _ _ h => h) (Or.inl ⟨by rfl, ?_⟩) (by assumption) ?_
  rotate_left 1
  · intro w hSw; (try dsimp only at hSw); go_simp; (try with_reducible rfl)
  try simp only [Act.put, List.getElem_toArray, List.getElem_cons_succ, List.getElem_cons_zero, List.setIfInBounds_toArray, List.set_cons_zero, List.set_cons_succ]
  refine wpAnyH_take (i := 8) (oi := _) (v := ?_) rfl (by kernel_rfl) (by kernel_rfl) (by kernel_rfl) (fun _ _ _ h => h) (Or.inl ⟨by rfl, ?_⟩) (by assumption) ?_
  rotate_left 1
  · intro w hSw; (try dsimp only at hSw); go_simp; (try with_reducible rfl)
  try simp only [Act.put, List.getElem_toArray, List.getElem_cons_succ, List.getElem_cons_zero, List.setIfInBounds_toArray, List.set_cons_zero, List.set_cons_succ]
  refine wpAnyH_take (i := 9) (oi := _) (v := ?_) rfl (by kernel_rfl) (by kernel_rfl) (by kernel_rfl) (fun _ _ _ h => h) (Or.inl ⟨by rfl, ?_⟩) (by assumption) ?_
  rotate_left 1
  · intro w hSw; (try dsimp only at hSw); go_simp; (try with_reducible rfl)
  try simp only [Act.put, List.getElem_toArray, List.getElem_cons_succ, List.getElem_cons_zero, List.setIfInBounds_toArray, List.set_cons_zero, List.set_cons_succ]
  refine wpAnyH_take (i := 10) (oi := _) (v := ?_) rfl (by kernel_rfl) (by kernel_rfl) (by kernel_rfl) (fun _ _ _ h => h) (Or.inl ⟨by rfl, ?_⟩) (by assumption) ?_
  rotate_left 1
  · intro w hSw; (try dsimp only at hSw); go_simp; (try with_reducible rfl)
  try simp only [Act.put, List.getElem_toArray, List.getElem_cons_succ, List.getElem_cons_zero, List.setIfInBounds_toArray, List.set_cons_zero, List.set_cons_succ]
  refine wpAnyH_take (i := 11) (oi := _) (v := ?_) rfl (by kernel_rfl) (by kernel_rfl) (by kernel_rfl) (fun _ _ _ h => h) (Or.inl ⟨by rfl, ?_⟩) (by assumption) ?_
  rotate_left 1
  · intro w hSw; (try dsimp only at hSw); go_simp; (try with_reducible rfl)
  try simp only [Act.put, List.getElem_toArray, List.getElem_cons_succ, List.getElem_cons_zero, List.setIfInBounds_toArray, List.set_cons_zero, List.set_cons_succ]
  refine wpAnyH_take (i := 12) (oi := _) (v := ?_) rfl (by kernel_rfl) (by kernel_rfl) (by kernel_rfl) (fun _ _ _ h => h) (Or.inl ⟨by rfl, ?_⟩) (by assumption) ?_
  rotate_left 1
  · intro w hSw; (try dsimp only at hSw); go_simp; (try with_reducible rfl)
  try simp only [Act.put, List.getElem_toArray, List.getElem_cons_succ, List.getElem_cons_zero, List.setIfInBounds_toArray, List.set_cons_zero, List.set_cons_succ]
  refine wpAnyH_take (i := 13) (oi := _) (v := ?_) rfl (by kernel_rfl) (by kernel_rfl) (by kernel_rfl) (fun _ _ _ h => h) (Or.inl ⟨by rfl, ?_⟩) (by assumption) ?_
  rotate_left 1
  · intro w hSw; (try dsimp only at hSw); go_simp; (try with_reducible rfl)
  try simp only [Act.put, List.getElem_toArray, List.getElem_cons_succ, List.getElem_cons_zero, List.setIfInBounds_toArray, List.set_cons_zero, List.set_cons_succ]
  refine wpAnyH_take (i := 14) (oi := _) (v := ?_) rfl (by kernel_rfl) (by kernel_rfl) (by kernel_rfl) (fun _ _ _ h => h) (Or.inl ⟨by rfl, ?_⟩) (by assumption) ?_
  rotate_left 1
  · intro w hSw; (try dsimp only at hSw); go_simp; (try with_reducible rfl)
  try simp only [Act.put, List.getElem_toArray, List.getElem_cons_succ, List.getElem_cons_zero, List.setIfInBounds_toArray, List.set_cons_zero, List.set_cons_succ]
  refine wpAnyH_take (i := 15) (oi := _) (v := ?_) rfl (by kernel_rfl) (by kernel_rfl) (by kernel_rfl) (fun _ _ _ h => h) (Or.inl ⟨by rfl, ?_⟩) (by assumption) ?_
  rotate_left 1
  · intro w hSw; (try dsimp only at hSw); go_simp; (try with_reducible rfl)
  try simp only [Act.put, List.getElem_toArray, List.getElem_cons_succ, List.getElem_cons_zero, List.setIfInBounds_toArray, List.set_cons_zero, List.set_cons_succ]
  refine wpAnyH_take (i := 17) (oi := _) (v := ?_) rfl (by kernel_rfl) (by kernel_rfl) (by kernel_rfl) (fun _ _ _ h => h) (Or.inl ⟨by rfl, ?_⟩) (by assumption) ?_
  rotate_left 1
  · intro w hSw; (try dsimp only at hSw); go_simp; (try with_reducible rfl)
  try simp only [Act.put, List.getElem_toArray, List.getElem_cons_succ, List.getElem_cons_zero, List.setIfInBounds_toArray, List.set_cons_zero, List.set_cons_succ]
  refine wpAnyH_take (i := 18) (oi := _) (v := ?_) rfl (by kernel_rfl) (by kernel_rfl) (by kernel_rfl) (fun _ _ _ h => h) (Or.inl ⟨by rfl, ?_⟩) (by assumption) ?_
  rotate_left 1
  · intro w hSw; (try dsimp only at hSw); go_simp; (try with_reducible rfl)
  try simp only [Act.put, List.getElem_toArray, List.getElem_cons_succ, List.getElem_cons_zero, List.setIfInBounds_toArray, List.set_cons_zero, List.set_cons_succ]
  refine wpAnyH_take (i := 19) (oi := _) (v := ?_) rfl (by kernel_rfl) (by kernel_rfl) (by kernel_rfl) (fun _ _ _ h => h) (Or.inl ⟨by rfl, ?_⟩) (by assumption) ?_
  rotate_left 1
  · intro w hSw; (try dsimp only at hSw); go_simp; (try with_reducible rfl)
  try simp only [Act.put, List.getElem_toArray, List.getElem_cons_succ, List.getElem_cons_zero, List.setIfInBounds_toArray, List.set_cons_zero, List.set_cons_succ]
  refine wpAnyH_take (i := 20) (oi := _) (v := ?_) rfl (by kernel_rfl) (by kernel_rfl) (by kernel_rfl) (fun _ _ _ h => h) (Or.inl ⟨by rfl, ?_⟩) (by assumption) ?_
  rotate_left 1
  · intro w hSw; (try dsimp only at hSw); go_simp; (try with_reducible rfl)
  try simp only [Act.put, List.getElem_toArray, List.getElem_cons_succ, List.getElem_cons_zero, List.setIfInBounds_toArray, List.set_cons_zero, List.set_cons_succ]
  refine wpAnyH_take (i := 21) (oi := _) (v := ?_) rfl (by kernel_rfl) (by kernel_rfl) (by kernel_rfl) (fun _ _ _ h => h) (Or.inl ⟨by rfl, ?_⟩) (by assumption) ?_
  rotate_left 1
  · intro w hSw; (try dsimp only at hSw); go_simp; (try with_reducible rfl)
  try simp only [Act.put, List.getElem_toArray, List.getElem_cons_succ, List.getElem_cons_zero, List.setIfInBounds_toArray, List.set_cons_zero, List.set_cons_succ]
  refine wpAnyH_take (i := 22) (oi := _) (v := ?_) rfl (by kernel_rfl) (by kernel_rfl) (by kernel_rfl) (fun _ _ _ h => h) (Or.inl ⟨by rfl, ?_⟩) (by assumption) ?_
  rotate_left 1
  · intro w hSw; (try dsimp only at hSw); go_simp; (try with_reducible rfl)
  try simp only [Act.put, List.getElem_toArray, List.getElem_cons_succ, List.getElem_cons_zero, List.setIfInBounds_toArray, List.set_cons_zero, List.set_cons_succ]
  refine wpAnyH_ready (rs := [16, 23]) (by kernel_rfl) (by simp) ?_
  refine AllReadyH.cons rfl (fun K hK => ?_) (AllReadyH.cons rfl (fun K hK => ?_) AllReadyH.nil)
  try simp only [List.getElem_toArray, List.getElem_cons_succ, List.getElem_cons_zero]
  go_simp
  refine hK.out _ _ ?_ (fun hHeld => ?_)
  · (first | exact e1 | exact (World.cell?_setCell_far _ ⟨hb, i, none⟩ ⟨ob, 1, none⟩ _ hne).trans e1 | exact (World.cell?_setCell_far _ ⟨hb, j, none⟩ ⟨ob, 1, none⟩ _ hne).trans ((World.cell?_setCell_far _ ⟨hb, i, none⟩ ⟨ob, 1, none⟩ _ hne).trans e1))
  clear hK K
  try simp only [Act.put, List.getElem_toArray, List.getElem_cons_succ, List.getElem_cons_zero, List.setIfInBounds_toArray, List.set_cons_zero, List.set_cons_succ]
  refine wpAnyH_ready (rs := [23]) (by kernel_rfl) (by simp) ?_
  refine AllReadyH.cons rfl (fun K hK => ?_) AllReadyH.nil
  try simp only [List.getElem_toArray, List.getElem_cons_succ, List.getElem_cons_zero]
  go_simp
  refine hK.out _ _ ?_ (fun hHeld => ?_)
  · (first | exact e1 | exact (World.cell?_setCell_far _ ⟨hb, i, none⟩ ⟨ob, 1, none⟩ _ hne).trans e1 | exact (World.cell?_setCell_far _ ⟨hb, j, none⟩ ⟨ob, 1, none⟩ _ hne).trans ((World.cell?_setCell_far _ ⟨hb, i, none⟩ ⟨ob, 1, none⟩ _ hne).trans e1))
  clear hK K
  try simp only [Act.put, List.getElem_toArray, List.getElem_cons_succ, List.getElem_cons_zero, List.setIfInBounds_toArray, List.set_cons_zero, List.set_cons_succ]
  refine wpAnyH_take (i := 24) (oi := _) (v := ?_) rfl (by kernel_rfl) (by kernel_rfl) (by kernel_rfl) (fun _ _ _ h => h) (Or.inl ⟨by rfl, ?_⟩) (by assumption) ?_
  rotate_left 1
  · intro w hSw; (try dsimp only at hSw); go_simp; (try with_reducible rfl)
  try simp only [Act.put, List.getElem_toArray, List.getElem_cons_succ, List.getElem_cons_zero, List.setIfInBounds_toArray, List.set_cons_zero, List.set_cons_succ]
  refine wpAnyH_ready (rs := [25]) (by kernel_rfl) (by simp) ?_
  refine AllReadyH.cons rfl (fun K hK => ?_) AllReadyH.nil
  try simp only [List.getElem_toArray, List.getElem_cons_succ, List.getElem_cons_zero]
  go_simp
  refine hK.out _ _ ?_ (fun hHeld => ?_)
  · (first | exact e1 | exact (World.cell?_setCell_far _ ⟨hb, i, none⟩ ⟨ob, 1, none⟩ _ hne).trans e1 | exact (World.cell?_setCell_far _ ⟨hb, j, none⟩ ⟨ob, 1, none⟩ _ hne).trans ((World.cell?_setCell_far _ ⟨hb, i, none⟩ ⟨ob, 1, none⟩ _ hne).trans e1))
  clear hK K
  try simp only [Act.put, List.getElem_toArray, List.getElem_cons_succ, List.getElem_cons_zero, List.setIfInBounds_toArray, List.set_cons_zero, List.set_cons_succ]
  refine wpAnyH_take (i := 26) (oi := _) (v := ?_) rfl (by kernel_rfl) (by kernel_rfl) (by kernel_rfl) (fun _ _ _ h => h) (Or.inl ⟨by rfl, ?_⟩) (by assumption) ?_
  rotate_left 1
  · intro w hSw; (try dsimp only at hSw); go_simp; (try with_reducible rfl)
  try simp only [Act.put, List.getElem_toArray, List.getElem_cons_succ, List.getElem_cons_zero, List.setIfInBounds_toArray, List.set_cons_zero, List.set_cons_succ]
  refine wpAnyH_ready (rs := [27]) (by kernel_rfl) (by simp) ?_
  refine AllReadyH.cons rfl (fun K hK => ?_) AllReadyH.nil
  try simp only [List.getElem_toArray, List.getElem_cons_succ, List.getElem_cons_zero]
  go_simp
  refine hK.out _ _ ?_ (fun hHeld => ?_)
  · (first | exact e1 | exact (World.cell?_setCell_far _ ⟨hb, i, none⟩ ⟨ob, 1, none⟩ _ hne).trans e1 | exact (World.cell?_setCell_far _ ⟨hb, j, none⟩ ⟨ob, 1, none⟩ _ hne).trans ((World.cell?_setCell_far _ ⟨hb, i, none⟩ ⟨ob, 1, none⟩ _ hne).trans e1))
  clear hK K
  try simp only [Act.put, List.getElem_toArray, List.getElem_cons_succ, List.getElem_cons_zero, List.setIfInBounds_toArray, List.set_cons_zero, List.set_cons_succ]
  rotate_left 1
  try simp only [List.getElem_toArray, List.getElem_cons_succ, List.getElem_cons_zero]
  go_simp
  refine hK.out _ _ ?_ (fun hHeld => ?_)
  · (first | exact e1 | exact (World.cell?_setCell_far _ ⟨hb, i, none⟩ ⟨ob, 1, none⟩ _ hne).trans e1 | exact (World.cell?_setCell_far _ ⟨hb, j, none⟩ ⟨ob, 1, none⟩ _ hne).trans ((World.cell?_setCell_far _ ⟨hb, i, none⟩ ⟨ob, 1, none⟩ _ hne).trans e1))
  clear hK K
  try simp only [Act.put, List.getElem_toArray, List.getElem_cons_succ, List.getElem_cons_zero, List.setIfInBounds_toArray, List.set_cons_zero, List.set_cons_succ]
  refine wpAnyH_ready (rs := [16]) (by kernel_rfl) (by simp) ?_
  refine AllReadyH.cons rfl (fun K hK => ?_) AllReadyH.nil
  try simp only [List.getElem_toArray, List.getElem_cons_succ, List.getElem_cons_zero]
  go_simp
  refine hK.out _ _ ?_ (fun hHeld => ?_)
  · (first | exact e1 | exact (World.cell?_setCell_far _ ⟨hb, i, none⟩ ⟨ob, 1, none⟩ _ hne).trans e1 | exact (World.cell?_setCell_far _ ⟨hb, j, none⟩ ⟨ob, 1, none⟩ _ hne).trans ((World.cell?_setCell_far _ ⟨hb, i, none⟩ ⟨ob, 1, none⟩ _ hne).trans e1))
  clear hK K
  try simp only [Act.put, List.getElem_toArray, List.getElem_cons_succ, List.getElem_cons_zero, List.setIfInBounds_toArray, List.set_cons_zero, List.set_cons_succ]
  refine wpAnyH_take (i := 24) (oi := _) (v := ?_) rfl (by kernel_rfl) (by kernel_rfl) (by kernel_rfl) (fun _ _ _ h => h) (Or.inl ⟨by rfl, ?_⟩) (by assumption) ?_
  rotate_left 1
  · intro w hSw; (try dsimp only at hSw); go_simp; (try with_reducible rfl)
  try simp only [Act.put, List.getElem_toArray, List.getElem_cons_succ, List.getElem_cons_zero, List.setIfInBounds_toArray, List.set_cons_zero, List.set_cons_succ]
  refine wpAnyH_ready (rs := [25]) (by kernel_rfl) (by simp) ?_
  refine AllReadyH.cons rfl (fun K hK => ?_) AllReadyH.nil
  try simp only [List.getElem_toArray, List.getElem_cons_succ, List.getElem_cons_zero]
  go_simp
  refine hK.out _ _ ?_ (fun hHeld => ?_)
  · (first | exact e1 | exact (World.cell?_setCell_far _ ⟨hb, i, none⟩ ⟨ob, 1, none⟩ _ hne).trans e1 | exact (World.cell?_setCell_far _ ⟨hb, j, none⟩ ⟨ob, 1, none⟩ _ hne).trans ((World.cell?_setCell_far _ ⟨hb, i, none⟩ ⟨ob, 1, none⟩ _ hne).trans e1))
  clear hK K
  try simp only [Act.put, List.getElem_toArray, List.getElem_cons_succ, List.getElem_cons_zero, List.setIfInBounds_toArray, List.set_cons_zero, List.set_cons_succ]
  refine wpAnyH_take (i := 26) (oi := _) (v := ?_) rfl (by kernel_rfl) (by kernel_rfl) (by kernel_rfl) (fun _ _ _ h => h) (Or.inl ⟨by rfl, ?_⟩) (by assumption) ?_
  rotate_left 1
  · intro w hSw; (try dsimp only at hSw); go_simp; (try with_reducible rfl)
  try simp only [Act.put, List.getElem_toArray, List.getElem_cons_succ, List.getElem_cons_zero, List.setIfInBounds_toArray, List.set_cons_zero, List.set_cons_succ]
  refine wpAnyH_ready (rs := [27]) (by kernel_rfl) (by simp) ?_
  refine AllReadyH.cons rfl (fun K hK => ?_) AllReadyH.nil
  try simp only [List.getElem_toArray, List.getElem_cons_succ, List.getElem_cons_zero]
  go_simp
  refine hK.out _ _ ?_ (fun hHeld => ?_)
  · (first | exact e1 | exact (World.cell?_setCell_far _ ⟨hb, i, none⟩ ⟨ob, 1, none⟩ _ hne).trans e1 | exact (World.cell?_setCell_far _ ⟨hb, j, none⟩ ⟨ob, 1, none⟩ _ hne).trans ((World.cell?_setCell_far _ ⟨hb, i, none⟩ ⟨ob, 1, none⟩ _ hne).trans e1))
  clear hK K
  try simp only [Act.put, List.getElem_toArray, List.getElem_cons_succ, List.getElem_cons_zero, List.setIfInBounds_toArray, List.set_cons_zero, List.set_cons_succ]
  rotate_left 1
  all_goals refine wpAnyH_done (by kernel_rfl) (NoPanic.normal ?_) _
  all_goals
    try simp only [Act.put, List.getElem_toArray, List.getElem_cons_succ, List.getElem_cons_zero, List.setIfInBounds_toArray, List.set_cons_succ, List.set_cons_zero]
    dsimp only [Exit.then]
    apply_assumption
    have M2 : Mem ((w.setCell ⟨hb, i, none⟩ (.int .i32 (b : Int))).setCell ⟨hb, j, none⟩ (.int .i32 (a : Int))).drew A { s with hp := (s.hp.set i b).set j a } := HM2.out.keep (fun _ _ => rfl)
    have S2 : Step w ((w.setCell ⟨hb, i, none⟩ (.int .i32 (b : Int))).setCell ⟨hb, j, none⟩ (.int .i32 (a : Int))).drew A A { s with hp := (s.hp.set i b).set j a } := ⟨M2, (((Kept.refl _ w).setCell (p := ⟨hb, i, none⟩) ⟨_, hhb⟩ _).setCell (p := ⟨hb, j, none⟩) ⟨_, hhb⟩ _).drew, fun _ hk => Or.inl hk⟩
    obtain ⟨ob', hb', pb', cb', hob', hhb', hpb', hcb', e0', e1', e2'⟩ := M2.ord
    rw [hob] at hob'
    rw [hhb] at hhb'
    rw [hpb] at hpb'
    cases hob'
    cases hhb'
    cases hpb'
    have hil' : i < s.hp.length := by rw [HLN.out]; exact hil
    have hjl' : j < s.hp.length := by rw [HLN.out]; exact hjl
    have hsi : ((s.hp.set i b).set j a)[i]? = some b := by
      rw [List.getElem?_set]
      split
      · next e =>
        subst e
        rw [hi] at hj
        cases hj
        simp
      · rw [List.getElem?_set_self hil']
    have x4 := M2.hcell hhb (i := i) (v := b) hsi
    have x5 := M2.hcell hhb (i := j) (v := a) (by
      show ((s.hp.set i b).set j a)[j]? = _
      rw [List.getElem?_set_self (by rw [List.length_set]; exact hjl')])
    have hpl := M2.lp
    have q1 : ∃ v, (((w.setCell ⟨hb, i, none⟩ (.int .i32 (b : Int))).setCell ⟨hb, j, none⟩ (.int .i32 (a : Int))).drew).cell? ⟨pb, b, none⟩ = some v := ⟨_, M2.cell hpb (List.getElem?_eq_getElem (by show b < A.pl.length; rw [hpl]; show b < s.n + 1; omega))⟩
    have q2 := M2.frozen hpb b
    have M3 := M2.setPl hpb b (.int .i64 (i : Int))
    have q3 : ∃ v, ((((w.setCell ⟨hb, i, none⟩ (.int .i32 (b : Int))).setCell ⟨hb, j, none⟩ (.int .i32 (a : Int))).drew).setCell ⟨pb, b, none⟩ (.int .i64 (i : Int))).cell? ⟨pb, a, none⟩ = some v := ⟨_, M3.cell hpb (List.getElem?_eq_getElem (by show a < (A.pl.set b _).length; rw [List.length_set, hpl]; show a < s.n + 1; omega))⟩
    have q4 := M3.frozen hpb a
    have M4 := M3.setPl hpb a (.int .i64 (j : Int))
    obtain ⟨v1, q1⟩ := q1
    obtain ⟨v3, q3⟩ := q3
    have hb1 : hb ≠ pb := fun e => by have := M2.inj _ _ _ hhb (e ▸ hpb); cases this
    have hb2 : ob ≠ pb := fun e => by have := M2.inj _ _ _ hob (e ▸ hpb); cases this
    have HM4 : Hid _ := M4
    have HS2 : Hid _ := S2
    have d5 : (i : Int) < ((((s.hp.set i b).set j a).length : Nat) : Int) := by simp only [List.length_set]; omega
    have d6 : (j : Int) < ((((s.hp.set i b).set j a).length : Nat) : Int) := by simp only [List.length_set]; omega
    simp only at e1' e2'
    clear M2 M3 M4 S2 x1 x2 x3 f1 f3 e0 e1 e2 hsi HM2 e0'
    generalize (((w.setCell ⟨hb, i, none⟩ (.int .i32 (b : Int))).setCell ⟨hb, j, none⟩ (.int .i32 (a : Int))).drew) = w2 at *
    generalize ((s.hp.set i b).set j a).length + (A.sp .heap).length = hcap2 at *
    generalize hln2 : ((s.hp.set i b).set j a).length = ln2 at *
    have HST : Hid (∀ W : World, (∀ k, k ≠ pb → W.heap[k]? = w2.heap[k]?) → W.cell? ⟨ob, 1, none⟩ = some (.slice (some ⟨hb, 0, none⟩) ln2 hcap2) ∧ W.cell? ⟨ob, 2, none⟩ = some (.slice (some ⟨pb, 0, none⟩) (s.n + 1) (s.n + 1)) ∧ W.cell? ⟨hb, i, none⟩ = some (.int .i32 (b : Int)) ∧ W.cell? ⟨hb, j, none⟩ = some (.int .i32 (a : Int))) := fun W hW =>
      ⟨(World.cell?_of_block (a := ⟨ob, 1, none⟩) (hW ob hb2)).trans e1', (World.cell?_of_block (a := ⟨ob, 2, none⟩) (hW ob hb2)).trans e2', (World.cell?_of_block (a := ⟨hb, i, none⟩) (hW hb hb1)).trans x4, (World.cell?_of_block (a := ⟨hb, j, none⟩) (hW hb hb1)).trans x5⟩
    refine wp_region_noPanic ?_
    refine wp_region_held_drew (S := fun W => W.cell? ⟨ob, 1, none⟩ = some (.slice (some ⟨hb, 0, none⟩) ln2 hcap2) ∧ W.cell? ⟨ob, 2, none⟩ = some (.slice (some ⟨pb, 0, none⟩) (s.n + 1) (s.n + 1)) ∧ W.cell? ⟨hb, i, none⟩ = some (.int .i32 (b : Int)) ∧ W.cell? ⟨hb, j, none⟩ = some (.int .i32 (a : Int))) (by kernel_rfl) ?_ (fun hHeld => ?_)
    · (first | exact HST.out _ (fun k hk => rfl) | exact HST.out _ (fun k hk => Below.heap_setCell _ _ _ _ hk) | exact HST.out _ (fun k hk => (Below.heap_setCell _ _ _ _ hk).trans (Below.heap_setCell _ _ _ _ hk)))
    refine wpAnyH_take (i := 0) (oi := _) (v := ?_) rfl (by kernel_rfl) (by kernel_rfl) (by kernel_rfl) (fun _ _ _ h => h) (Or.inl ⟨by rfl, ?_⟩) (by assumption) ?_
    rotate_left 1
    · intro w hSw; (try dsimp only at hSw); go_simp; (try with_reducible rfl)
    try simp only [Act.put, List.getElem_toArray, List.getElem_cons_zero, List.setIfInBounds_toArray, List.set_cons_zero, List.set_cons_succ]
    refine wpAnyH_take (i := 1) (oi := _) (v := ?_) rfl (by kernel_rfl) (by kernel_rfl) (by kernel_rfl) (fun _ _ _ h => h) (Or.inl ⟨by rfl, ?_⟩) (by assumption) ?_
    rotate_left 1
    · intro w hSw; (try dsimp only at hSw); go_simp; (try with_reducible rfl)
    try simp only [Act.put, List.getElem_toArray, List.getElem_cons_succ, List.getElem_cons_zero, List.setIfInBounds_toArray, List.set_cons_zero, List.set_cons_succ]
    refine wpAnyH_take (i := 2) (oi := _) (v := ?_) rfl (by kernel_rfl) (by kernel_rfl) (by kernel_rfl) (fun _ _ _ h => h) (Or.inl ⟨by rfl, ?_⟩) (by assumption) ?_
    rotate_left 1
    · intro w hSw; (try dsimp only at hSw); go_simp; (try with_reducible rfl)
    try simp only [Act.put, List.getElem_toArray, List.getElem_cons_succ, List.getElem_cons_zero, List.setIfInBounds_toArray, List.set_cons_zero, List.set_cons_succ]
    refine wpAnyH_take (i := 3) (oi := _) (v := ?_) rfl (by kernel_rfl) (by kernel_rfl) (by kernel_rfl) (fun _ _ _ h => h) (Or.inl ⟨by rfl, ?_⟩) (by assumption) ?_
    rotate_left 1
    · intro w hSw; (try dsimp only at hSw); go_simp; (try with_reducible rfl)
    try simp only [Act.put, List.getElem_toArray, List.getElem_cons_succ, List.getElem_cons_zero, List.setIfInBounds_toArray, List.set_cons_zero, List.set_cons_succ]
    refine wpAnyH_take (i := 4) (oi := _) (v := ?_) rfl (by kernel_rfl) (by kernel_rfl) (by kernel_rfl) (fun _ _ _ h => h) (Or.inl ⟨by rfl, ?_⟩) (by assumption) ?_
    rotate_left 1
    · intro w hSw; (try dsimp only at hSw); go_simp; (try with_reducible rfl)
    try simp only [Act.put, List.getElem_toArray, List.getElem_cons_succ, List.getElem_cons_zero, List.setIfInBounds_toArray, List.set_cons_zero, List.set_cons_succ]
    refine wpAnyH_take (i := 5) (oi := _) (v := ?_) rfl (by kernel_rfl) (by kernel_rfl) (by kernel_rfl) (fun _ _ _ h => h) (Or.inl ⟨by rfl, ?_⟩) (by assumption) ?_
    rotate_left 1
    · intro w hSw; (try dsimp only at hSw); go_simp; (try with_reducible rfl)
    try simp only [Act.put, List.getElem_toArray, List.getElem_cons_succ, List.getElem_cons_zero, List.setIfInBounds_toArray, List.set_cons_zero, List.set_cons_succ]
    refine wpAnyH_take (i := 6) (oi := _) (v := ?_) rfl (by kernel_rfl) (by kernel_rfl) (by kernel_rfl) (fun _ _ _ h => h) (Or.inl ⟨by rfl, ?_⟩) (by assumption) ?_
    rotate_left 1
    · intro w hSw; (try dsimp only at hSw); go_simp; (try with_reducible rfl)
    try simp only [Act.put, List.getElem_toArray, List.getElem_cons_succ, List.getElem_cons_zero, List.setIfInBounds_toArray, List.set_cons_zero, List.set_cons_succ]
    refine wpAnyH_take (i := 7) (oi := _) (v := ?_) rfl (by kernel_rfl) (by kernel_rfl) (by kernel_rfl) (fun _ _ _ h => h) (Or.inl ⟨by rfl, ?_⟩) (by assumption) ?_
    rotate_left 1
    · intro w hSw; (try dsimp only at hSw); go_simp; (try with_reducible rfl)
    try simp only [Act.put, List.getElem_toArray, List.getElem_cons_succ, List.getElem_cons_zero, List.setIfInBounds_toArray, List.set_cons_zero, List.set_cons_succ]
    refine wpAnyH_take (i := 8) (oi := _) (v := ?_) rfl (by kernel_rfl) (by kernel_rfl) (by kernel_rfl) (fun _ _ _ h => h) (Or.inl ⟨by rfl, ?_⟩) (by assumption) ?_
    rotate_left 1
    · intro w hSw; (try dsimp only at hSw); go_simp; (try with_reducible rfl)
    try simp only [Act.put, List.getElem_toArray, List.getElem_cons_succ, List.getElem_cons_zero, List.setIfInBounds_toArray, List.set_cons_zero, List.set_cons_succ]
    refine wpAnyH_take (i := 9) (oi := _) (v := ?_) rfl (by kernel_rfl) (by kernel_rfl) (by kernel_rfl) (fun _ _ _ h => h) (Or.inl ⟨by rfl, ?_⟩) (by assumption) ?_
    rotate_left 1
    · intro w hSw; (try dsimp only at hSw); go_simp; (try with_reducible rfl)
    try simp only [Act.put, List.getElem_toArray, List.getElem_cons_succ, List.getElem_cons_zero, List.setIfInBounds_toArray, List.set_cons_zero, List.set_cons_succ]
    refine wpAnyH_take (i := 10) (oi := _) (v := ?_) rfl (by kernel_rfl) (by kernel_rfl) (by kernel_rfl) (fun _ _ _ h => h) (Or.inl ⟨by rfl, ?_⟩) (by assumption) ?_
    rotate_left 1
    · intro w hSw; (try dsimp only at hSw); go_simp; (try with_reducible rfl)
    try simp only [Act.put, List.getElem_toArray, List.getElem_cons_succ, List.getElem_cons_zero, List.setIfInBounds_toArray, List.set_cons_zero, List.set_cons_succ]
    refine wpAnyH_take (i := 11) (oi := _) (v := ?_) rfl (by kernel_rfl) (by kernel_rfl) (by kernel_rfl) (fun _ _ _ h => h) (Or.inl ⟨by rfl, ?_⟩) (by assumption) ?_
    rotate_left 1
    · intro w hSw; (try dsimp only at hSw); go_simp; (try with_reducible rfl)
    try simp only [Act.put, List.getElem_toArray, List.getElem_cons_succ, List.getElem_cons_zero, List.setIfInBounds_toArray, List.set_cons_zero, List.set_cons_succ]
    refine wpAnyH_take (i := 12) (oi := _) (v := ?_) rfl (by kernel_rfl) (by kernel_rfl) (by kernel_rfl) (fun _ _ _ h => h) (Or.inl ⟨by rfl, ?_⟩) (by assumption) ?_
    rotate_left 1
    · intro w hSw; (try dsimp only at hSw); go_simp; (try with_reducible rfl)
    try simp only [Act.put, List.getElem_toArray, List.getElem_cons_succ, List.getElem_cons_zero, List.setIfInBounds_toArray, List.set_cons_zero, List.set_cons_succ]
    refine wpAnyH_take (i := 13) (oi := _) (v := ?_) rfl (by kernel_rfl) (by kernel_rfl) (by kernel_rfl) (fun _ _ _ h => h) (Or.inl ⟨by rfl, ?_⟩) (by assumption) ?_
    rotate_left 1
    · intro w hSw; (try dsimp only at hSw); go_simp; (try with_reducible rfl)
    try simp only [Act.put, List.getElem_toArray, List.getElem_cons_succ, List.getElem_cons_zero, List.setIfInBounds_toArray, List.set_cons_zero, List.set_cons_succ]
    refine wpAnyH_take (i := 14) (oi := _) (v := ?_) rfl (by kernel_rfl) (by kernel_rfl) (by kernel_rfl) (fun _ _ _ h => h) (Or.inl ⟨by rfl, ?_⟩) (by assumption) ?_
    rotate_left 1
    · intro w hSw; (try dsimp only at hSw); go_simp; (try with_reducible rfl)
    try simp only [Act.put, List.getElem_toArray, List.getElem_cons_succ, List.getElem_cons_zero, List.setIfInBounds_toArray, List.set_cons_zero, List.set_cons_succ]
    refine wpAnyH_take (i := 15) (oi := _) (v := ?_) rfl (by kernel_rfl) (by kernel_rfl) (by kernel_rfl) (fun _ _ _ h => h) (Or.inl ⟨by rfl, ?_⟩) (by assumption) ?_
    rotate_left 1
    · intro w hSw; (try dsimp only at hSw); go_simp; (try with_reducible rfl)
    try simp only [Act.put, List.getElem_toArray, List.getElem_cons_succ, List.getElem_cons_zero, List.setIfInBounds_toArray, List.set_cons_zero, List.set_cons_succ]
    refine wpAnyH_take (i := 16) (oi := _) (v := ?_) rfl (by kernel_rfl) (by kernel_rfl) (by kernel_rfl) (fun _ _ _ h => h) (Or.inl ⟨by rfl, ?_⟩) (by assumption) ?_
    rotate_left 1
    · intro w hSw; (try dsimp only at hSw); go_simp; (try with_reducible rfl)
    try simp only [Act.put, List.getElem_toArray, List.getElem_cons_succ, List.getElem_cons_zero, List.setIfInBounds_toArray, List.set_cons_zero, List.set_cons_succ]
    refine wpAnyH_take (i := 17) (oi := _) (v := ?_) rfl (by kernel_rfl) (by kernel_rfl) (by kernel_rfl) (fun _ _ _ h => h) (Or.inl ⟨by rfl, ?_⟩) (by assumption) ?_
    rotate_left 1
    · intro w hSw; (try dsimp only at hSw); go_simp; (try with_reducible rfl)
    try simp only [Act.put, List.getElem_toArray, List.getElem_cons_succ, List.getElem_cons_zero, List.setIfInBounds_toArray, List.set_cons_zero, List.set_cons_succ]
    refine wpAnyH_take (i := 18) (oi := _) (v := ?_) rfl (by kernel_rfl) (by kernel_rfl) (by kernel_rfl) (fun _ _ _ h => h) (Or.inl ⟨by rfl, ?_⟩) (by assumption) ?_
    rotate_left 1
    · intro w hSw; (try dsimp only at hSw); go_simp; (try with_reducible rfl)
    try simp only [Act.put, List.getElem_toArray, List.getElem_cons_succ, List.getElem_cons_zero, List.setIfInBounds_toArray, List.set_cons_zero, List.set_cons_succ]
    refine wpAnyH_take (i := 19) (oi := _) (v := ?_) rfl (by kernel_rfl) (by kernel_rfl) (by kernel_rfl) (fun _ _ _ h => h) (Or.inl ⟨by rfl, ?_⟩) (by assumption) ?_
    rotate_left 1
    · intro w hSw; (try dsimp only at hSw); go_simp; (try with_reducible rfl)
    try simp only [Act.put, List.getElem_toArray, List.getElem_cons_succ, List.getElem_cons_zero, List.setIfInBounds_toArray, List.set_cons_zero, List.set_cons_succ]
    refine wpAnyH_take (i := 20) (oi := _) (v := ?_) rfl (by kernel_rfl) (by kernel_rfl) (by kernel_rfl) (fun _ _ _ h => h) (Or.inl ⟨by rfl, ?_⟩) (by assumption) ?_
    rotate_left 1
    · intro w hSw; (try dsimp only at hSw); go_simp; (try with_reducible rfl)
    try simp only [Act.put, List.getElem_toArray, List.getElem_cons_succ, List.getElem_cons_zero, List.setIfInBounds_toArray, List.set_cons_zero, List.set_cons_succ]
    refine wpAnyH_take (i := 21) (oi := _) (v := ?_) rfl (by kernel_rfl) (by kernel_rfl) (by kernel_rfl) (fun _ _ _ h => h) (Or.inl ⟨by rfl, ?_⟩) (by assumption) ?_
    rotate_left 1
    · intro w hSw; (try dsimp only at hSw); go_simp; (try with_reducible rfl)
    try simp only [Act.put, List.getElem_toArray, List.getElem_cons_succ, List.getElem_cons_zero, List.setIfInBounds_toArray, List.set_cons_zero, List.set_cons_succ]
    refine wpAnyH_take (i := 22) (oi := _) (v := ?_) rfl (by kernel_rfl) (by kernel_rfl) (by kernel_rfl) (fun _ _ _ h => h) (Or.inl ⟨by rfl, ?_⟩) (by assumption) ?_
    rotate_left 1
    · intro w hSw; (try dsimp only at hSw); go_simp; (try with_reducible rfl)
    try simp only [Act.put, List.getElem_toArray, List.getElem_cons_succ, List.getElem_cons_zero, List.setIfInBounds_toArray, List.set_cons_zero, List.set_cons_succ]
    refine wpAnyH_take (i := 23) (oi := _) (v := ?_) rfl (by kernel_rfl) (by kernel_rfl) (by kernel_rfl) (fun _ _ _ h => h) (Or.inl ⟨by rfl, ?_⟩) (by assumption) ?_
    rotate_left 1
    · intro w hSw; (try dsimp only at hSw); go_simp; (try with_reducible rfl)
    try simp only [Act.put, List.getElem_toArray, List.getElem_cons_succ, List.getElem_cons_zero, List.setIfInBounds_toArray, List.set_cons_zero, List.set_cons_succ]
    refine wpAnyH_take (i := 24) (oi := _) (v := ?_) rfl (by kernel_rfl) (by kernel_rfl) (by kernel_rfl) (fun _ _ _ h => h) (Or.inl ⟨by rfl, ?_⟩) (by assumption) ?_
    rotate_left 1
    · intro w hSw; (try dsimp only at hSw); go_simp; (try with_reducible rfl)
    try simp only [Act.put, List.getElem_toArray, List.getElem_cons_succ, List.getElem_cons_zero, List.setIfInBounds_toArray, List.set_cons_zero, List.set_cons_succ]
    refine wpAnyH_ready (rs := [25]) (by kernel_rfl) (by simp) ?_
    refine AllReadyH.cons rfl (fun K hK => ?_) AllReadyH.nil
    try simp only [List.getElem_toArray, List.getElem_cons_succ, List.getElem_cons_zero]
    go_simp
    refine hK.out _ _ ?_ (fun hHeld => ?_)
    · (first | exact HST.out _ (fun k hk => rfl) | exact HST.out _ (fun k hk => Below.heap_setCell _ _ _ _ hk) | exact HST.out _ (fun k hk => (Below.heap_setCell _ _ _ _ hk).trans (Below.heap_setCell _ _ _ _ hk)))
    clear hK K
    try simp only [Act.put, List.getElem_toArray, List.getElem_cons_succ, List.getElem_cons_zero, List.setIfInBounds_toArray, List.set_cons_zero, List.set_cons_succ]
    refine wpAnyH_take (i := 26) (oi := _) (v := ?_) rfl (by kernel_rfl) (by kernel_rfl) (by kernel_rfl) (fun _ _ _ h => h) (Or.inl ⟨by rfl, ?_⟩) (by assumption) ?_
    rotate_left 1
    · intro w hSw; (try dsimp only at hSw); go_simp; (try with_reducible rfl)
    try simp only [Act.put, List.getElem_toArray, List.getElem_cons_succ, List.getElem_cons_zero, List.setIfInBounds_toArray, List.set_cons_zero, List.set_cons_succ]
    refine wpAnyH_ready (rs := [27]) (by kernel_rfl) (by simp) ?_
    refine AllReadyH.cons rfl (fun K hK => ?_) AllReadyH.nil
    try simp only [List.getElem_toArray, List.getElem_cons_succ, List.getElem_cons_zero]
    go_simp
    refine hK.out _ _ ?_ (fun hHeld => ?_)
    · (first | exact HST.out _ (fun k hk => rfl) | exact HST.out _ (fun k hk => Below.heap_setCell _ _ _ _ hk) | exact HST.out _ (fun k hk => (Below.heap_setCell _ _ _ _ hk).trans (Below.heap_setCell _ _ _ _ hk)))
    clear hK K
    try simp only [Act.put, List.getElem_toArray, List.getElem_cons_succ, List.getElem_cons_zero, List.setIfInBounds_toArray, List.set_cons_zero, List.set_cons_succ]
    all_goals refine wpAnyH_done (by kernel_rfl) (NoPanic.normal ?_) _
    try simp only [Act.put, List.getElem_toArray, List.getElem_cons_succ, List.getElem_cons_zero, List.setIfInBounds_toArray, List.set_cons_succ, List.set_cons_zero]
    exact ⟨rfl, .tuple #[], by simp [results, Tryz.results245], rfl, _, HS2.out.trans ⟨HM4.out.keep (fun _ _ => rfl), (((Kept.refl _ w2).setCell (p := ⟨pb, b, none⟩) ⟨_, hpb⟩ _).setCell (p := ⟨pb, a, none⟩) ⟨_, hpb⟩ _).drew, fun _ hk => Or.inl hk⟩⟩


set_option maxRecDepth 100000 in
set_option maxHeartbeats 1000000 in
theorem down_in (w : World) (A : Ad) (s : Sv) (h : Mem w A s) (ob : Nat) (hob : A.blk .order = some ob) (hhp : ∀ v ∈ s.hp, v ≤ s.n) (hl : s.hp.length ≤ 4000) :
    Calls Tryz.prog 246 #[.pointer (some ⟨ob, 0, none⟩), .int .i64 1] w fun e w' => e = .returned (.tuple #[]) ∧ ∃ m, w' = w.drewN m := by
  obtain ⟨ob', hb, pb, cb, hob', hhb, hpb, hcb, e0, e1, e2⟩ := h.ord
  rw [hob] at hob'
  cases hob'
  have AB : Hid (∀ m i j, i < s.hp.length → j < s.hp.length → _) := fun m i j hi hj => above_in (w.drewN m) A s (h.keep (fun _ _ => rfl)) ob hob hhp i j hi hj
  clear h hhp e0 e2
  generalize s.hp.length + (A.sp .heap).length = hcap at *
  generalize s.hp.length = ln at *
  go_enter Tryz.func246, Tryz.ntmps246
  go_wp2_with fail
  go_loopw [1] (fun t1 W => t1 = .int .i64 1 ∧ W = w) (fun _ _ => 0)
  case atStart => exact ⟨rfl, rfl⟩
  case round =>
    obtain ⟨rfl, rfl⟩ := hrel
    obtain ⟨w0, hw0⟩ : ∃ w0, w0 = wr := ⟨_, rfl⟩
    subst hw0
    go_wp2_with fail
    go_loopw [4, 5] (fun t4 t5 W => ∃ kd m : Nat, 2 ≤ kd ∧ kd ≤ 4 ∧ t4 = .int .i64 1 ∧ t5 = .int .i64 (kd : Int) ∧ W = w0.drewN m) (fun _ t5 _ => 4 - (intOf t5).toNat)
    case atStart => exact ⟨2, 0, by omega, by omega, rfl, rfl, rfl⟩
    case round =>
      obtain ⟨kd, m, hk2, hk4, rfl, rfl, rfl⟩ := hrel
      by_cases h3 : kd ≤ 3
      · have d3 : decide ((kd : Int) ≤ 3) = true := decide_eq_true (by omega)
        by_cases hk : kd < ln
        · have d4 : decide ((kd : Int) < (ln : Int)) = true := decide_eq_true (by omega)
          have AB1 := AB.out m kd 1 hk (by omega)
          have hwrap : IntKind.i64.wrap ((kd : Int) + 1) = (kd : Int) + 1 := by rw [IntKind.wrap_i64]; omega
          clear AB
          go_wp2_with (first | (go_at_call 253; refine AB1.mono ?_; rintro e w3 ⟨rfl, m3, rfl⟩))
          exact ⟨⟨kd + 1, m + m3, by omega, by omega, rfl, by simp, by first | rfl | rw [World.drewN_drewN]⟩, by simp [intOf]; omega⟩
        · have d4 : decide ((kd : Int) < (ln : Int)) = false := decide_eq_false (by omega)
          clear AB
          go_wp2_with fail
          exact ⟨rfl, .tuple #[], by simp [results, Tryz.results246], rfl, _, rfl⟩
      · have d3 : decide ((kd : Int) ≤ 3) = false := decide_eq_false (by omega)
        clear AB
        go_wp2_with fail
        exact ⟨rfl, .tuple #[], by simp [results, Tryz.results246], rfl, _, rfl⟩

/-- The heap is cut. -/
theorem Mem.cutHp {W : World} {A : Ad} {s : Sv} (h : Mem W A s) {ob hb : Nat} (hob : A.blk .order = some ob) (hhb : A.blk .heap = some hb) (k : Nat) (hk : k ≤ s.hp.length) :
    Mem (W.setCell ⟨ob, 1, none⟩ (.slice (some ⟨hb, 0, none⟩) k (s.hp.length + (A.sp .heap).length))) (A.up .heap hb ((s.hp.drop k).map i32 ++ A.sp .heap)) { s with hp := s.hp.take k } := by
  have hup : ∀ r, (A.up .heap hb ((s.hp.drop k).map i32 ++ A.sp .heap)).blk r = A.blk r := fun r => by
    show (if r = .heap then some hb else A.blk r) = _
    split
    · next e => rw [e, hhb]
    · rfl
  have hus : ∀ r, r ≠ .heap → (A.up .heap hb ((s.hp.drop k).map i32 ++ A.sp .heap)).sp r = A.sp r := fun r hr => if_neg hr
  have hus2 : (A.up .heap hb ((s.hp.drop k).map i32 ++ A.sp .heap)).sp .heap = (s.hp.drop k).map i32 ++ A.sp .heap := by simp [Ad.up]
  have hslv : ∀ r k' z, r ≠ .heap → (A.up .heap hb ((s.hp.drop k).map i32 ++ A.sp .heap)).slv r k' z = A.slv r k' z := fun r k' z hr => by unfold Ad.slv; rw [hup r, hus r hr]
  have hptr : ∀ r, (A.up .heap hb ((s.hp.drop k).map i32 ++ A.sp .heap)).ptr r = A.ptr r := fun r => by unfold Ad.ptr; rw [hup r]
  have hslt : (A.up .heap hb ((s.hp.drop k).map i32 ++ A.sp .heap)).slv .heap (s.hp.take k).length 1 = .slice (some ⟨hb, 0, none⟩) k (s.hp.length + (A.sp .heap).length) := by
    unfold Ad.slv
    rw [hup, hhb, hus2]
    simp only [List.length_take, List.length_append, List.length_map, List.length_drop, Nat.div_one, Nat.min_eq_left hk]
    congr 1; omega
  have hcell : ∀ r, r ≠ .heap → r ≠ .order → cellsR (A.up .heap hb ((s.hp.drop k).map i32 ++ A.sp .heap)) { s with hp := s.hp.take k } r = cellsR A s r := by
    intro r h1 h2
    cases r <;> first | exact absurd rfl h1 | exact absurd rfl h2 | skip
    all_goals simp only [cellsR, searchC]
    all_goals first | rfl | skip
    all_goals simp [hslv, hus, hptr, watC]
    all_goals first | rfl | exact ⟨rfl, rfl⟩
  refine ⟨fun r r' b1 h1 h2 => h.inj r r' b1 ((hup r).symm.trans h1) ((hup r').symm.trans h2), fun r b1 h1 => ?_, fun r hr => by rw [hup]; exact h.fix r hr, fun d => by rw [hup]; exact h.cls d, fun d => by rw [hup]; exact h.rows d, fun l e => h.win l ((hup _).symm.trans e), fun e => h.nil1 ((hup _).symm.trans e), fun e => h.nil2 ((hup _).symm.trans e), fun r hg => ?_, fun r hg => ?_, ?_, h.lv, h.lw, h.ls, h.lp, h.small, h.endk⟩
  · rw [hup] at h1
    by_cases e1 : r = .heap
    · subst e1
      rw [hhb] at h1
      cases h1
      have hne : hb ≠ ob := fun e => by have := h.inj _ _ _ hhb (e ▸ hob); cases this
      rw [Below.heap_setCell _ _ _ _ hne, h.has _ _ hhb]
      simp only [cellsR, hus2]
      rw [← List.append_assoc, ← List.map_append, List.take_append_drop]
    · by_cases e2 : r = .order
      · subst e2
        rw [hob] at h1
        cases h1
        have h3 := h.has _ _ hob
        unfold World.setCell
        simp only [Array.getElem?_modify, h3, if_true, Option.map_some]
        simp only [cellsR, hslt, hslv _ _ _ (show Role.scores ≠ .heap by intro e; cases e), hslv _ _ _ (show Role.places ≠ .heap by intro e; cases e)]
        simp
      · rw [hcell r e1 e2, Below.heap_setCell _ _ _ _ (fun e3 => e2 (h.inj _ _ _ h1 (by rw [hob]; exact congrArg some e3.symm)))]
        exact h.has r b1 h1
  · rw [hus r (by rintro rfl; cases hg)]; exact h.even r hg
  · rw [hus r (by rintro rfl; cases hg)]
    have := h.caps r hg
    cases r <;> first | exact this | cases hg
  · have hf := h.flat
    refine ⟨?_, ?_, ?_, ?_, ?_, ?_, ?_, ?_, ?_⟩
    all_goals rw [hus _ (by intro e; cases e)]
    · exact hf.1
    · exact hf.2.1
    · exact hf.2.2.1
    · exact hf.2.2.2.1
    · exact hf.2.2.2.2.1
    · exact hf.2.2.2.2.2.1
    · exact hf.2.2.2.2.2.2.1
    · exact hf.2.2.2.2.2.2.2.1
    · exact hf.2.2.2.2.2.2.2.2


end Go.Proofs.YtlehlgipbhfioaaGreat
