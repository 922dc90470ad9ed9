/- Package sat: add; above, swap, down, pop. Package sat: pop, try. Package sat: try. Package sat: run, length, solve. -/
import Derived.Test.YtlehlgipbhfioaaGreatP04
import Derived.Test.YtlehlgipbhfioaaGreatP02
namespace Go.Proofs.YtlehlgipbhfioaaGreat
open Go.RowKit Go.Maps

/-- A clause that lies in memory already is taken in. -/
def Sv.add2 (s : Sv) (c : Nat) : Sv := match s.lits c with
  | [] => { s with fin := true }
  | [l] => s.addFact l
  | _ => s.watch c

set_option maxRecDepth 100000 in
set_option maxHeartbeats 1000000 in
theorem sAddAll_in (w : World) (A : Ad) (s : Sv) (h : Mem w A s) (hF : Fit s) (sb : Nat) (hsb : A.blk .search = some sb) (c cb : Nat) (hcb : A.blk (.clause c) = some cb) (hcl : s.cl.length ≤ 4398046511100) :
    Calls Tryz.prog 84 #[.pointer (some ⟨sb, 0, none⟩), .pointer (some ⟨cb, 0, none⟩)] w fun e w' => e = .returned (.tuple #[]) ∧ ∃ A', Step w w' A A' (s.add2 c) ∧ ∀ r, r ≠ .trail → (∀ l, r ≠ .win l) → A'.blk r = A.blk r ∧ A'.sp r = A.sp r := by
  obtain ⟨rb, hrb⟩ := (h.rows c).2 ((h.cls c).1 ⟨_, hcb⟩)
  have k0 := h.cell hcb (i := 0) rfl
  simp only [Ad.slv, hrb] at k0
  have hll := hF.lits_le c
  have hsm := h.small
  generalize hcap : (s.lits c).length + (A.sp (.crow c)).length / 1 = cap at k0
  clear hcap
  match hl : s.lits c with
  | [] =>
    rw [hl] at k0
    simp only [List.length_nil] at k0
    have c13 := h.cell hsb (i := 13) rfl
    have hc13 : ∃ v13, w.cell? ⟨sb, 13, none⟩ = some v13 := ⟨_, c13⟩
    obtain ⟨v13, c13⟩ := hc13
    have f13 := h.frozen hsb 13
    have HM : Hid _ := h
    clear h hF
    have e : s.add2 c = { s with fin := true } := by unfold Sv.add2; rw [hl]
    go_enter Tryz.func84, Tryz.ntmps84
    go_wp2_with fail
    refine ⟨rfl, .tuple #[], by simp [results, Tryz.results84], rfl, { A with endv := .pointer (some ⟨cb, 0, none⟩) }, ?_, fun _ _ _ => ⟨rfl, rfl⟩⟩
    rw [e]
    exact ⟨HM.out.setEnd hsb _, (Kept.refl _ _).setCell (p := ⟨sb, 13, none⟩) ⟨_, hsb⟩ _, fun _ hk => Or.inl hk⟩
  | [l] =>
    rw [hl] at k0
    simp only [List.length_singleton] at k0
    have AF := addFact_in w A s h hF sb hsb c cb l hcb hl
    clear h hF
    have e : s.add2 c = s.addFact l := by unfold Sv.add2; rw [hl]
    go_enter Tryz.func84, Tryz.ntmps84
    go_wp2_with (first | (go_at_call 124; refine AF.mono ?_; rintro e w3 ⟨rfl, A2, S3, hA2⟩))
    exact ⟨rfl, .tuple #[], by simp [results, Tryz.results84], rfl, A2, by rw [e]; exact S3, fun r h1 _ => hA2 r h1⟩
  | a :: b :: rest =>
    have hlen : (s.lits c).length = rest.length + 2 := by rw [hl]; rfl
    rw [hl] at k0
    simp only [List.length_cons] at k0
    have hnd := (hF.cls c).1
    have hlt := (hF.cls c).2
    rw [hl] at hnd hlt
    have WA := watch_in w A s h sb hsb c cb hcb a b rest hl (hlt a (by simp)) (hlt b (by simp)) (fun e => by simp [e] at hnd) (fun l => Nat.le_trans (hF.wat_le l) hcl)
    clear h hF
    have e : s.add2 c = s.watch c := by unfold Sv.add2; rw [hl]
    generalize hln : rest.length + 1 + 1 = ln at k0
    have d0 : ((ln : Int) == 0) = false := by rw [beq_eq_false_iff_ne]; omega
    have d1 : ((ln : Int) == 1) = false := by rw [beq_eq_false_iff_ne]; omega
    go_enter Tryz.func84, Tryz.ntmps84
    go_wp2_with (first | (go_at_call 125; refine WA.mono ?_; rintro e w3 ⟨rfl, A2, S3, hA2⟩))
    exact ⟨rfl, .tuple #[], by simp [results, Tryz.results84], rfl, A2, by rw [e]; exact S3, fun r h1 h2 => hA2 r (h2 a) (h2 b)⟩

/-- What the order's functions read. -/
theorem Mem.ord {W : World} {A : Ad} {s : Sv} (h : Mem W A s) : ∃ ob hb pb cb, A.blk .order = some ob ∧ A.blk .heap = some hb ∧ A.blk .places = some pb ∧ A.blk .scores = some cb ∧
    W.cell? ⟨ob, 0, none⟩ = some (.slice (some ⟨cb, 0, none⟩) (s.n + 1) (s.n + 1)) ∧ W.cell? ⟨ob, 1, none⟩ = some (.slice (some ⟨hb, 0, none⟩) s.hp.length (s.hp.length + (A.sp .heap).length)) ∧ W.cell? ⟨ob, 2, none⟩ = some (.slice (some ⟨pb, 0, none⟩) (s.n + 1) (s.n + 1)) := by
  obtain ⟨ob, hob⟩ := h.fix .order rfl
  obtain ⟨hb, hhb⟩ := h.fix .heap rfl
  obtain ⟨pb, hpb⟩ := h.fix .places rfl
  obtain ⟨cb, hcb⟩ := h.fix .scores rfl
  have e0 := h.cell hob (i := 0) rfl
  have e1 := h.cell hob (i := 1) rfl
  have e2 := h.cell hob (i := 2) rfl
  simp only [Ad.slv, hcb, h.flat.2.2.2.2.1, List.length_nil, Nat.zero_div, Nat.add_zero] at e0
  simp only [Ad.slv, hhb, Nat.div_one] at e1
  simp only [Ad.slv, hpb, h.flat.2.2.2.1, List.length_nil, Nat.zero_div, Nat.add_zero] at e2
  exact ⟨ob, hb, pb, cb, hob, hhb, hpb, hcb, e0, e1, e2⟩
theorem Mem.hcell {W : World} {A : Ad} {s : Sv} (h : Mem W A s) {hb : Nat} (hhb : A.blk .heap = some hb) {i v : Nat} (hv : s.hp[i]? = some v) : W.cell? ⟨hb, i, none⟩ = some (.int .i32 (v : Int)) := by
  refine h.cell hhb ?_
  show (s.hp.map i32 ++ A.sp .heap)[i]? = _
  have hi := (List.getElem?_eq_some_iff.1 hv).1
  rw [List.getElem?_append_left (by simpa using hi), List.getElem?_map, hv]; rfl
theorem Mem.scell {W : World} {A : Ad} {s : Sv} (h : Mem W A s) {cb : Nat} (hcb : A.blk .scores = some cb) {i : Nat} (hi : i < s.n + 1) : W.cell? ⟨cb, i, none⟩ = some (.int .u64 0) := by
  refine h.cell hcb ?_
  show (List.replicate (s.n + 1) _)[i]? = _
  rw [List.getElem?_replicate, if_pos hi]

set_option maxRecDepth 100000 in
set_option maxHeartbeats 1000000 in
theorem above_in (w : World) (A : Ad) (s : Sv) (h : Mem w A s) (ob : Nat) (hob : A.blk .order = some ob) (hhp : ∀ v ∈ s.hp, v ≤ s.n) (i j : Nat) (hi : i < s.hp.length) (hj : j < s.hp.length) :
    Calls Tryz.prog 253 #[.pointer (some ⟨ob, 0, none⟩), .int .i64 (i : Int), .int .i64 (j : Int)] w fun e w' => e = .returned (.bool false) ∧ ∃ m, w' = w.drewN m := by
  obtain ⟨ob', hb, pb, cb, hob', hhb, hpb, hcb, e0, e1, e2⟩ := h.ord
  rw [hob] at hob'
  cases hob'
  have hi1 := List.getElem?_eq_getElem hi
  have hj1 := List.getElem?_eq_getElem hj
  have vi := hhp _ (List.getElem_mem hi)
  have vj := hhp _ (List.getElem_mem hj)
  have x1 := h.hcell hhb hi1
  have x2 := h.hcell hhb hj1
  generalize s.hp[i] = a at *
  generalize s.hp[j] = b at *
  have y1 := h.scell hcb (i := a) (by omega)
  have y2 := h.scell hcb (i := b) (by omega)
  have d1 : (i : Int) < (s.hp.length : Int) := by omega
  have d2 : (j : Int) < (s.hp.length : Int) := by omega
  have d3 : (a : Int) < (s.n : Int) + 1 := by omega
  have d4 : (b : Int) < (s.n : Int) + 1 := by omega
  clear h hhp hi1 hj1
  generalize s.hp.length = ln at *
  go_enter Tryz.func253, Tryz.ntmps253
  go_wp2_with fail
  go_quiet (fail)
  go_wp2_with fail
  go_ret
  exact ⟨rfl, _, rfl⟩

/-- A place of the heap, a place in places. -/
theorem Mem.setHp {W : World} {A : Ad} {s : Sv} (h : Mem W A s) {hb : Nat} (hhb : A.blk .heap = some hb) {i : Nat} (v : Nat) (hi : i < s.hp.length) : Mem (W.setCell ⟨hb, i, none⟩ (.int .i32 (v : Int))) A { s with hp := s.hp.set i v } :=
  { h with has := h.set hhb i (.int .i32 (v : Int)) (by
      simp only [cellsR]
      rw [List.map_set, List.set_append_left _ _ (by simpa using hi)]; rfl) (fun r' hr => by
      cases r' <;> first | rfl | exact absurd rfl hr | (simp only [cellsR, List.length_set])) }
theorem Mem.setPl {W : World} {A : Ad} {s : Sv} (h : Mem W A s) {pb : Nat} (hpb : A.blk .places = some pb) (i : Nat) (v : Value) : Mem (W.setCell ⟨pb, i, none⟩ v) { A with pl := A.pl.set i v } s := by
  have e : ∀ (S : List Value) (r : Role), r ≠ .places → cellsR { A with pl := S } s r = cellsR A s r := fun S r hr => by cases r <;> first | rfl | exact absurd rfl hr
  refine { h with has := fun r b hb => ?_, lp := by simp [h.lp] }
  have hb' : A.blk r = some b := hb
  by_cases er : r = .places
  · subst er
    rw [hpb] at hb'
    cases hb'
    have := h.has _ _ hpb
    unfold World.setCell
    simp [Array.getElem?_modify, this, cellsR]
  · have hne : b ≠ pb := fun e2 => er (h.inj _ _ _ hb' (by rw [hpb, e2]))
    rw [e _ r er, Below.heap_setCell _ _ _ _ hne]
    exact h.has r b hb'

set_option maxRecDepth 100000 in
set_option maxHeartbeats 1000000 in
theorem swap_in (w : World) (A : Ad) (s : Sv) (h : Mem w A s) (ob : Nat) (hob : A.blk .order = some ob) (hhp : ∀ v ∈ s.hp, v ≤ s.n) (i j a b : Nat) (hi : s.hp[i]? = some a) (hj : s.hp[j]? = some b) :
    Calls Tryz.prog 245 #[.pointer (some ⟨ob, 0, none⟩), .int .i64 (i : Int), .int .i64 (j : Int)] w fun e w' => e = .returned (.tuple #[]) ∧ ∃ pl, Step w w' A { A with pl := pl } { s with hp := (s.hp.set i b).set j a } := by
  obtain ⟨ob', hb, pb, cb, hob', hhb, hpb, hcb, e0, e1, e2⟩ := h.ord
  rw [hob] at hob'
  cases hob'
  have hil := (List.getElem?_eq_some_iff.1 hi).1
  have hjl := (List.getElem?_eq_some_iff.1 hj).1
  have x1 := h.hcell hhb hi
  have x2 := h.hcell hhb hj
  have va := hhp _ (List.mem_of_getElem? hi)
  have vb := hhp _ (List.mem_of_getElem? hj)
  have d1 : (i : Int) < (s.hp.length : Int) := by omega
  have d2 : (j : Int) < (s.hp.length : Int) := by omega
  have d3 : (a : Int) < (s.n : Int) + 1 := by omega
  have d4 : (b : Int) < (s.n : Int) + 1 := by omega
  have f1 := h.frozen hhb i
  have HM : Hid _ := h
  clear h hhp
  have M1 : Mem (w.setCell ⟨hb, i, none⟩ (.int .i32 (b : Int))) A { s with hp := s.hp.set i b } := HM.out.setHp hhb b hil
  have hjl2 : j < ({ s with hp := s.hp.set i b } : Sv).hp.length := by simp only [List.length_set]; exact hjl
  have M2 := M1.setHp hhb a hjl2
  have x3 : (w.setCell ⟨hb, i, none⟩ (.int .i32 (b : Int))).cell? ⟨hb, j, none⟩ = some (.int .i32 (b : Int)) := M1.hcell hhb (by
    show (s.hp.set i b)[j]? = _
    rw [List.getElem?_set]
    split
    · simp
    · exact hj)
  have f3 := M1.frozen hhb j
  have HM2 : Hid _ := M2
  clear M1 M2
  have hne : hb ≠ ob := fun e => by have := HM.out.inj _ _ _ hhb (e ▸ hob); cases this
  generalize s.hp.length + (A.sp .heap).length = hcap at *
  generalize hln : s.hp.length = ln at *
  have HLN : Hid _ := hln
  clear hln
  go_enter Tryz.func245, Tryz.ntmps245
  go_wp2_with fail
  refine wp_region_noPanic ?_
  refine wp_region_held_drew (S := fun W => W.cell? ⟨ob, 1, none⟩ = some (.slice (some ⟨hb, 0, none⟩) ln hcap)) (by kernel_rfl) ?_ (fun hHeld => ?_)
  · (first | exact e1 | exact (World.cell?_setCell_far _ ⟨hb, i, none⟩ ⟨ob, 1, none⟩ _ hne).trans e1 | exact (World.cell?_setCell_far _ ⟨hb, j, none⟩ ⟨ob, 1, none⟩ _ hne).trans ((World.cell?_setCell_far _ ⟨hb, i, none⟩ ⟨ob, 1, none⟩ _ hne).trans e1))
  refine wpAnyH_take (i := 0) (oi := _) (v := ?_) rfl (by kernel_rfl) (by kernel_rfl) (by kernel_rfl) (fun _ _ _ h => h) (Or.inl ⟨by rfl, ?_⟩) (by assumption) ?_
  rotate_left 1
  · intro w hSw; (try dsimp only at hSw); go_simp; (try with_reducible rfl)
  try simp only [Act.put, List.getElem_toArray, List.getElem_cons_zero, List.setIfInBounds_toArray, List.set_cons_zero, List.set_cons_succ]
  refine wpAnyH_take (i := 1) (oi := _) (v := ?_) rfl (by kernel_rfl) (by kernel_rfl) (by kernel_rfl) (fun _ _ _ h => h) (Or.inl ⟨by rfl, ?_⟩) (by assumption) ?_
  rotate_left 1
  · intro w hSw; (try dsimp only at hSw); go_simp; (try with_reducible rfl)
  try simp only [Act.put, List.getElem_toArray, List.getElem_cons_succ, List.getElem_cons_zero, List.setIfInBounds_toArray, List.set_cons_zero, List.set_cons_succ]
  refine wpAnyH_take (i := 2) (oi := _) (v := ?_) rfl (by kernel_rfl) (by kernel_rfl) (by kernel_rfl) (fun _ _ _ h => h) (Or.inl ⟨by rfl, ?_⟩) (by assumption) ?_
  rotate_left 1
  · intro w hSw; (try dsimp only at hSw); go_simp; (try with_reducible rfl)
  try simp only [Act.put, List.getElem_toArray, List.getElem_cons_succ, List.getElem_cons_zero, List.setIfInBounds_toArray, List.set_cons_zero, List.set_cons_succ]
  refine wpAnyH_take (i := 3) (oi := _) (v := ?_) rfl (by kernel_rfl) (by kernel_rfl) (by kernel_rfl) (fun _ _ _ h => h) (Or.inl ⟨by rfl, ?_⟩) (by assumption) ?_
  rotate_left 1
  · intro w hSw; (try dsimp only at hSw); go_simp; (try with_reducible rfl)
  try simp only [Act.put, List.getElem_toArray, List.getElem_cons_succ, List.getElem_cons_zero, List.setIfInBounds_toArray, List.set_cons_zero, List.set_cons_succ]
  refine wpAnyH_take (i := 4) (oi := _) (v := ?_) rfl (by kernel_rfl) (by kernel_rfl) (by kernel_rfl) (fun _ _ _ h => h) (Or.inl ⟨by rfl, ?_⟩) (by assumption) ?_
  rotate_left 1
  · intro w hSw; (try dsimp only at hSw); go_simp; (try with_reducible rfl)
  try simp only [Act.put, List.getElem_toArray, List.getElem_cons_succ, List.getElem_cons_zero, List.setIfInBounds_toArray, List.set_cons_zero, List.set_cons_succ]
  refine wpAnyH_take (i := 5) (oi := _) (v := ?_) rfl (by kernel_rfl) (by kernel_rfl) (by kernel_rfl) (fun _ _ _ h => h) (Or.inl ⟨by rfl, ?_⟩) (by assumption) ?_
  rotate_left 1
  · intro w hSw; (try dsimp only at hSw); go_simp; (try with_reducible rfl)
  try simp only [Act.put, List.getElem_toArray, List.getElem_cons_succ, List.getElem_cons_zero, List.setIfInBounds_toArray, List.set_cons_zero, List.set_cons_succ]
  refine wpAnyH_take (i := 6) (oi := _) (v := ?_) rfl (by kernel_rfl) (by kernel_rfl) (by kernel_rfl) (fun _ _ _ h => h) (Or.inl ⟨by rfl, ?_⟩) (by assumption) ?_
  rotate_left 1
  · intro w hSw; (try dsimp only at hSw); go_simp; (try with_reducible rfl)
  try simp only [Act.put, List.getElem_toArray, List.getElem_cons_succ, List.getElem_cons_zero, List.setIfInBounds_toArray, List.set_cons_zero, List.set_cons_succ]
  refine wpAnyH_take (i := 7) (oi := _) (v := ?_) rfl (by kernel_rfl) (by kernel_rfl) (by kernel_rfl) (fun _ _ _ h => h) (Or.inl ⟨by rfl, ?_⟩) (by assumption) ?_
  rotate_left 1
  · intro w hSw; (try dsimp only at hSw); go_simp; (try with_reducible rfl)
  try simp only [Act.put, List.getElem_toArray, List.getElem_cons_succ, List.getElem_cons_zero, List.setIfInBounds_toArray, List.set_cons_zero, List.set_cons_succ]
  refine wpAnyH_take (i := 8) (oi := _) (v := ?_) rfl (by kernel_rfl) (by kernel_rfl) (by kernel_rfl) (fun _ _ _ h => h) (Or.inl ⟨by rfl, ?_⟩) (by assumption) ?_
  rotate_left 1
  · intro w hSw; (try dsimp only at hSw); go_simp; (try with_reducible rfl)
  try simp only [Act.put, List.getElem_toArray, List.getElem_cons_succ, List.getElem_cons_zero, List.setIfInBounds_toArray, List.set_cons_zero, List.set_cons_succ]
  refine wpAnyH_take (i := 9) (oi := _) (v := ?_) rfl (by kernel_rfl) (by kernel_rfl) (by kernel_rfl) (fun _ _ _ h => h) (Or.inl ⟨by rfl, ?_⟩) (by assumption) ?_
  rotate_left 1
  · intro w hSw; (try dsimp only at hSw); go_simp; (try with_reducible rfl)
  try simp only [Act.put, List.getElem_toArray, List.getElem_cons_succ, List.getElem_cons_zero, List.setIfInBounds_toArray, List.set_cons_zero, List.set_cons_succ]
  refine wpAnyH_take (i := 10) (oi := _) (v := ?_) rfl (by kernel_rfl) (by kernel_rfl) (by kernel_rfl) (fun _ _ _ h => h) (Or.inl ⟨by rfl, ?_⟩) (by assumption) ?_
  rotate_left 1
  · intro w hSw; (try dsimp only at hSw); go_simp; (try with_reducible rfl)
  try simp only [Act.put, List.getElem_toArray, List.getElem_cons_succ, List.getElem_cons_zero, List.setIfInBounds_toArray, List.set_cons_zero, List.set_cons_succ]
  refine wpAnyH_take (i := 11) (oi := _) (v := ?_) rfl (by kernel_rfl) (by kernel_rfl) (by kernel_rfl) (fun _ _ _ h => h) (Or.inl ⟨by rfl, ?_⟩) (by assumption) ?_
  rotate_left 1
  · intro w hSw; (try dsimp only at hSw); go_simp; (try with_reducible rfl)
  try simp only [Act.put, List.getElem_toArray, List.getElem_cons_succ, List.getElem_cons_zero, List.setIfInBounds_toArray, List.set_cons_zero, List.set_cons_succ]
  refine wpAnyH_take (i := 12) (oi := _) (v := ?_) rfl (by kernel_rfl) (by kernel_rfl) (by kernel_rfl) (fun _ _ _ h => h) (Or.inl ⟨by rfl, ?_⟩) (by assumption) ?_
  rotate_left 1
  · intro w hSw; (try dsimp only at hSw); go_simp; (try with_reducible rfl)
  try simp only [Act.put, List.getElem_toArray, List.getElem_cons_succ, List.getElem_cons_zero, List.setIfInBounds_toArray, List.set_cons_zero, List.set_cons_succ]
  refine wpAnyH_take (i := 13) (oi := _) (v := ?_) rfl (by kernel_rfl) (by kernel_rfl) (by kernel_rfl) (fun _ _ _ h => h) (Or.inl ⟨by rfl, ?_⟩) (by assumption) ?_
  rotate_left 1
  · intro w hSw; (try dsimp only at hSw); go_simp; (try with_reducible rfl)
  try simp only [Act.put, List.getElem_toArray, List.getElem_cons_succ, List.getElem_cons_zero, List.setIfInBounds_toArray, List.set_cons_zero, List.set_cons_succ]
  refine wpAnyH_take (i := 14) (oi := _) (v := ?_) rfl (by kernel_rfl) (by kernel_rfl) (by kernel_rfl) (fun _ _ _ h => h) (Or.inl ⟨by rfl, ?_⟩) (by assumption) ?_
  rotate_left 1
  · intro w hSw; (try dsimp only at hSw); go_simp; (try with_reducible rfl)
  try simp only [Act.put, List.getElem_toArray, List.getElem_cons_succ, List.getElem_cons_zero, List.setIfInBounds_toArray, List.set_cons_zero, List.set_cons_succ]
  refine wpAnyH_take (i := 15) (oi := _) (v := ?_) rfl (by kernel_rfl) (by kernel_rfl) (by kernel_rfl) (fun _ _ _ h => h) (Or.inl ⟨by rfl, ?_⟩) (by assumption) ?_
  rotate_left 1
  · intro w hSw; (try dsimp only at hSw); go_simp; (try with_reducible rfl)
  try simp only [Act.put, List.getElem_toArray, List.getElem_cons_succ, List.getElem_cons_zero, List.setIfInBounds_toArray, List.set_cons_zero, List.set_cons_succ]
  refine wpAnyH_take (i := 17) (oi := _) (v := ?_) rfl (by kernel_rfl) (by kernel_rfl) (by kernel_rfl) (fun _ _ _ h => h) (Or.inl ⟨by rfl, ?_⟩) (by assumption) ?_
  rotate_left 1
  · intro w hSw; (try dsimp only at hSw); go_simp; (try with_reducible rfl)
  try simp only [Act.put, List.getElem_toArray, List.getElem_cons_succ, List.getElem_cons_zero, List.setIfInBounds_toArray, List.set_cons_zero, List.set_cons_succ]
  refine wpAnyH_take (i := 18) (oi := _) (v := ?_) rfl (by kernel_rfl) (by kernel_rfl) (by kernel_rfl) (fun _ _ _ h => h) (Or.inl ⟨by rfl, ?_⟩) (by assumption) ?_
  rotate_left 1
  · intro w hSw; (try dsimp only at hSw); go_simp; (try with_reducible rfl)
  try simp only [Act.put, List.getElem_toArray, List.getElem_cons_succ, List.getElem_cons_zero, List.setIfInBounds_toArray, List.set_cons_zero, List.set_cons_succ]
  refine wpAnyH_take (i := 19) (oi := _) (v := ?_) rfl (by kernel_rfl) (by kernel_rfl) (by kernel_rfl) (fun _ _ _ h => h) (Or.inl ⟨by rfl, ?_⟩) (by assumption) ?_
  rotate_left 1
  · intro w hSw; (try dsimp only at hSw); go_simp; (try with_reducible rfl)
  try simp only [Act.put, List.getElem_toArray, List.getElem_cons_succ, List.getElem_cons_zero, List.setIfInBounds_toArray, List.set_cons_zero, List.set_cons_succ]
  refine wpAnyH_take (i := 20) (oi := _) (v := ?_) rfl (by kernel_rfl) (by kernel_rfl) (by kernel_rfl) (fun _ _ _ h => h) (Or.inl ⟨by rfl, ?_⟩) (by assumption) ?_
  rotate_left 1
  · intro w hSw; (try dsimp only at hSw); go_simp; (try with_reducible rfl)
  try simp only [Act.put, List.getElem_toArray, List.getElem_cons_succ, List.getElem_cons_zero, List.setIfInBounds_toArray, List.set_cons_zero, List.set_cons_succ]
  refine wpAnyH_take (i := 21) (oi := _) (v := ?_) rfl (by kernel_rfl) (by kernel_rfl) (by kernel_rfl) (fun _ _ _ h => h) (Or.inl ⟨by rfl, ?_⟩) (by assumption) ?_
  rotate_left 1
  · intro w hSw; (try dsimp only at hSw); go_simp; (try with_reducible rfl)
  try simp only [Act.put, List.getElem_toArray, List.getElem_cons_succ, List.getElem_cons_zero, List.setIfInBounds_toArray, List.set_cons_zero, List.set_cons_succ]
  refine wpAnyH_take (i := 22) (oi := _) (v := ?_) rfl (by kernel_rfl) (by kernel_rfl) (by kernel_rfl) (fun _ _ _ h => h) (Or.inl ⟨by rfl, ?_⟩) (by assumption) ?_
  rotate_left 1
  · intro w hSw; (try dsimp only at hSw); go_simp; (try with_reducible rfl)
  try simp only [Act.put, List.getElem_toArray, List.getElem_cons_succ, List.getElem_cons_zero, List.setIfInBounds_toArray, List.set_cons_zero, List.set_cons_succ]
  refine wpAnyH_ready (rs := [16, 23]) (by kernel_rfl) (by simp) ?_
  refine AllReadyH.cons rfl (fun K hK => ?_) (AllReadyH.cons rfl (fun K hK => ?_) AllReadyH.nil)
  try simp only [List.getElem_toArray, List.getElem_cons_succ, List.getElem_cons_zero]
  go_simp
  refine hK.out _ _ ?_ (fun hHeld => ?_)
  · (first | exact e1 | exact (World.cell?_setCell_far _ ⟨hb, i, none⟩ ⟨ob, 1, none⟩ _ hne).trans e1 | exact (World.cell?_setCell_far _ ⟨hb, j, none⟩ ⟨ob, 1, none⟩ _ hne).trans ((World.cell?_setCell_far _ ⟨hb, i, none⟩ ⟨ob, 1, none⟩ _ hne).trans e1))
  clear hK K
  try simp only [Act.put, List.getElem_toArray, List.getElem_cons_succ, List.getElem_cons_zero, List.setIfInBounds_toArray, List.set_cons_zero, List.set_cons_succ]
  refine wpAnyH_ready (rs := [23]) (by kernel_rfl) (by simp) ?_
  refine AllReadyH.cons rfl (fun K hK => ?_) AllReadyH.nil
  try simp only [List.getElem_toArray, List.getElem_cons_succ, List.getElem_cons_zero]
  go_simp
  refine hK.out _ _ ?_ (fun hHeld => ?_)
  · (first | exact e1 | exact (World.cell?_setCell_far _ ⟨hb, i, none⟩ ⟨ob, 1, none⟩ _ hne).trans e1 | exact (World.cell?_setCell_far _ ⟨hb, j, none⟩ ⟨ob, 1, none⟩ _ hne).trans ((World.cell?_setCell_far _ ⟨hb, i, none⟩ ⟨ob, 1, none⟩ _ hne).trans e1))
  clear hK K
  try simp only [Act.put, List.getElem_toArray, List.getElem_cons_succ, List.getElem_cons_zero, List.setIfInBounds_toArray, List.set_cons_zero, List.set_cons_succ]
  refine wpAnyH_take (i := 24) (oi := _) (v := ?_) rfl (by kernel_rfl) (by kernel_rfl) (by kernel_rfl) (fun _ _ _ h => h) (Or.inl ⟨by rfl, ?_⟩) (by assumption) ?_
  rotate_left 1
  · intro w hSw; (try dsimp only at hSw); go_simp; (try with_reducible rfl)
  try simp only [Act.put, List.getElem_toArray, List.getElem_cons_succ, List.getElem_cons_zero, List.setIfInBounds_toArray, List.set_cons_zero, List.set_cons_succ]
  refine wpAnyH_ready (rs := [25]) (by kernel_rfl) (by simp) ?_
  refine AllReadyH.cons rfl (fun K hK => ?_) AllReadyH.nil
  try simp only [List.getElem_toArray, List.getElem_cons_succ, List.getElem_cons_zero]
  go_simp
  refine hK.out _ _ ?_ (fun hHeld => ?_)
  · (first | exact e1 | exact (World.cell?_setCell_far _ ⟨hb, i, none⟩ ⟨ob, 1, none⟩ _ hne).trans e1 | exact (World.cell?_setCell_far _ ⟨hb, j, none⟩ ⟨ob, 1, none⟩ _ hne).trans ((World.cell?_setCell_far _ ⟨hb, i, none⟩ ⟨ob, 1, none⟩ _ hne).trans e1))
  clear hK K
  try simp only [Act.put, List.getElem_toArray, List.getElem_cons_succ, List.getElem_cons_zero, List.setIfInBounds_toArray, List.set_cons_zero, List.set_cons_succ]
  refine wpAnyH_take (i := 26) (oi := _) (v := ?_) rfl (by kernel_rfl) (by kernel_rfl) (by kernel_rfl) (fun _ _ _ h => h) (Or.inl ⟨by rfl, ?_⟩) (by assumption) ?_
  rotate_left 1
  · intro w hSw; (try dsimp only at hSw); go_simp; (try with_reducible rfl)
  try simp only [Act.put, List.getElem_toArray, List.getElem_cons_succ, List.getElem_cons_zero, List.setIfInBounds_toArray, List.set_cons_zero, List.set_cons_succ]
  refine wpAnyH_ready (rs := [27]) (by kernel_rfl) (by simp) ?_
  refine AllReadyH.cons rfl (fun K hK => ?_) AllReadyH.nil
  try simp only [List.getElem_toArray, List.getElem_cons_succ, List.getElem_cons_zero]
  go_simp
  refine hK.out _ _ ?_ (fun hHeld => ?_)
  · (first | exact e1 | exact (World.cell?_setCell_far _ ⟨hb, i, none⟩ ⟨ob, 1, none⟩ _ hne).trans e1 | exact (World.cell?_setCell_far _ ⟨hb, j, none⟩ ⟨ob, 1, none⟩ _ hne).trans ((World.cell?_setCell_far _ ⟨hb, i, none⟩ ⟨ob, 1, none⟩ _ hne).trans e1))
  clear hK K
  try simp only [Act.put, List.getElem_toArray, List.getElem_cons_succ, List.getElem_cons_zero, List.setIfInBounds_toArray, List.set_cons_zero, List.set_cons_succ]
  rotate_left 1
  try simp only [List.getElem_toArray, List.getElem_cons_succ, List.getElem_cons_zero]
  go_simp
  refine hK.out _ _ ?_ (fun hHeld => ?_)
  · (first | exact e1 | exact (World.cell?_setCell_far _ ⟨hb, i, none⟩ ⟨ob, 1, none⟩ _ hne).trans e1 | exact (World.cell?_setCell_far _ ⟨hb, j, none⟩ ⟨ob, 1, none⟩ _ hne).trans ((World.cell?_setCell_far _ ⟨hb, i, none⟩ ⟨ob, 1, none⟩ _ hne).trans e1))
  clear hK K
  try simp only [Act.put, List.getElem_toArray, List.getElem_cons_succ, List.getElem_cons_zero, List.setIfInBounds_toArray, List.set_cons_zero, List.set_cons_succ]
  refine wpAnyH_ready (rs := [16]) (by kernel_rfl) (by simp) ?_
  refine AllReadyH.cons rfl (fun K hK => ?_) AllReadyH.nil
  try simp only [List.getElem_toArray, List.getElem_cons_succ, List.getElem_cons_zero]
  go_simp
  refine hK.out _ _ ?_ (fun hHeld => ?_)
  · (first | exact e1 | exact (World.cell?_setCell_far _ ⟨hb, i, none⟩ ⟨ob, 1, none⟩ _ hne).trans e1 | exact (World.cell?_setCell_far _ ⟨hb, j, none⟩ ⟨ob, 1, none⟩ _ hne).trans ((World.cell?_setCell_far _ ⟨hb, i, none⟩ ⟨ob, 1, none⟩ _ hne).trans e1))
  clear hK K
  try simp only [Act.put, List.getElem_toArray, List.getElem_cons_succ, List.getElem_cons_zero, List.setIfInBounds_toArray, List.set_cons_zero, List.set_cons_succ]
  refine wpAnyH_take (i := 24) (oi := _) (v := ?_) rfl (by kernel_rfl) (by kernel_rfl) (by kernel_rfl) (fun _ _ _ h => h) (Or.inl ⟨by rfl, ?_⟩) (by assumption) ?_
  rotate_left 1
  · intro w hSw; (try dsimp only at hSw); go_simp; (try with_reducible rfl)
  try simp only [Act.put, List.getElem_toArray, List.getElem_cons_succ, List.getElem_cons_zero, List.setIfInBounds_toArray, List.set_cons_zero, List.set_cons_succ]
  refine wpAnyH_ready (rs := [25]) (by kernel_rfl) (by simp) ?_
  refine AllReadyH.cons rfl (fun K hK => ?_) AllReadyH.nil
  try simp only [List.getElem_toArray, List.getElem_cons_succ, List.getElem_cons_zero]
  go_simp
  refine hK.out _ _ ?_ (fun hHeld => ?_)
  · (first | exact e1 | exact (World.cell?_setCell_far _ ⟨hb, i, none⟩ ⟨ob, 1, none⟩ _ hne).trans e1 | exact (World.cell?_setCell_far _ ⟨hb, j, none⟩ ⟨ob, 1, none⟩ _ hne).trans ((World.cell?_setCell_far _ ⟨hb, i, none⟩ ⟨ob, 1, none⟩ _ hne).trans e1))
  clear hK K
  try simp only [Act.put, List.getElem_toArray, List.getElem_cons_succ, List.getElem_cons_zero, List.setIfInBounds_toArray, List.set_cons_zero, List.set_cons_succ]
  refine wpAnyH_take (i := 26) (oi := _) (v := ?_) rfl (by kernel_rfl) (by kernel_rfl) (by kernel_rfl) (fun _ _ _ h => h) (Or.inl ⟨by rfl, ?_⟩) (by assumption) ?_
  rotate_left 1
  · intro w hSw; (try dsimp only at hSw); go_simp; (try with_reducible rfl)
  try simp only [Act.put, List.getElem_toArray, List.getElem_cons_succ, List.getElem_cons_zero, List.setIfInBounds_toArray, List.set_cons_zero, List.set_cons_succ]
  refine wpAnyH_ready (rs := [27]) (by kernel_rfl) (by simp) ?_
  refine AllReadyH.cons rfl (fun K hK => ?_) AllReadyH.nil
  try simp only [List.getElem_toArray, List.getElem_cons_succ, List.getElem_cons_zero]
  go_simp
  refine hK.out _ _ ?_ (fun hHeld => ?_)
  · (first | exact e1 | exact (World.cell?_setCell_far _ ⟨hb, i, none⟩ ⟨ob, 1, none⟩ _ hne).trans e1 | exact (World.cell?_setCell_far _ ⟨hb, j, none⟩ ⟨ob, 1, none⟩ _ hne).trans ((World.cell?_setCell_far _ ⟨hb, i, none⟩ ⟨ob, 1, none⟩ _ hne).trans e1))
  clear hK K
  try simp only [Act.put, List.getElem_toArray, List.getElem_cons_succ, List.getElem_cons_zero, List.setIfInBounds_toArray, List.set_cons_zero, List.set_cons_succ]
  rotate_left 1
  all_goals refine wpAnyH_done (by kernel_rfl) (NoPanic.normal ?_) _
  all_goals
    try simp only [Act.put, List.getElem_toArray, List.getElem_cons_succ, List.getElem_cons_zero, List.setIfInBounds_toArray, List.set_cons_succ, List.set_cons_zero]
    dsimp only [Exit.then]
    apply_assumption
    have M2 : Mem ((w.setCell ⟨hb, i, none⟩ (.int .i32 (b : Int))).setCell ⟨hb, j, none⟩ (.int .i32 (a : Int))).drew A { s with hp := (s.hp.set i b).set j a } := HM2.out.keep (fun _ _ => rfl)
    have S2 : Step w ((w.setCell ⟨hb, i, none⟩ (.int .i32 (b : Int))).setCell ⟨hb, j, none⟩ (.int .i32 (a : Int))).drew A A { s with hp := (s.hp.set i b).set j a } := ⟨M2, (((Kept.refl _ w).setCell (p := ⟨hb, i, none⟩) ⟨_, hhb⟩ _).setCell (p := ⟨hb, j, none⟩) ⟨_, hhb⟩ _).drew, fun _ hk => Or.inl hk⟩
    obtain ⟨ob', hb', pb', cb', hob', hhb', hpb', hcb', e0', e1', e2'⟩ := M2.ord
    rw [hob] at hob'
    rw [hhb] at hhb'
    rw [hpb] at hpb'
    cases hob'
    cases hhb'
    cases hpb'
    have hil' : i < s.hp.length := by rw [HLN.out]; exact hil
    have hjl' : j < s.hp.length := by rw [HLN.out]; exact hjl
    have hsi : ((s.hp.set i b).set j a)[i]? = some b := by
      rw [List.getElem?_set]
      split
      · next e =>
        subst e
        rw [hi] at hj
        cases hj
        simp
      · rw [List.getElem?_set_self hil']
    have x4 := M2.hcell hhb (i := i) (v := b) hsi
    have x5 := M2.hcell hhb (i := j) (v := a) (by
      show ((s.hp.set i b).set j a)[j]? = _
      rw [List.getElem?_set_self (by rw [List.length_set]; exact hjl')])
    have hpl := M2.lp
    have q1 : ∃ v, (((w.setCell ⟨hb, i, none⟩ (.int .i32 (b : Int))).setCell ⟨hb, j, none⟩ (.int .i32 (a : Int))).drew).cell? ⟨pb, b, none⟩ = some v := ⟨_, M2.cell hpb (List.getElem?_eq_getElem (by show b < A.pl.length; rw [hpl]; show b < s.n + 1; omega))⟩
    have q2 := M2.frozen hpb b
    have M3 := M2.setPl hpb b (.int .i64 (i : Int))
    have q3 : ∃ v, ((((w.setCell ⟨hb, i, none⟩ (.int .i32 (b : Int))).setCell ⟨hb, j, none⟩ (.int .i32 (a : Int))).drew).setCell ⟨pb, b, none⟩ (.int .i64 (i : Int))).cell? ⟨pb, a, none⟩ = some v := ⟨_, M3.cell hpb (List.getElem?_eq_getElem (by show a < (A.pl.set b _).length; rw [List.length_set, hpl]; show a < s.n + 1; omega))⟩
    have q4 := M3.frozen hpb a
    have M4 := M3.setPl hpb a (.int .i64 (j : Int))
    obtain ⟨v1, q1⟩ := q1
    obtain ⟨v3, q3⟩ := q3
    have hb1 : hb ≠ pb := fun e => by have := M2.inj _ _ _ hhb (e ▸ hpb); cases this
    have hb2 : ob ≠ pb := fun e => by have := M2.inj _ _ _ hob (e ▸ hpb); cases this
    have HM4 : Hid _ := M4
    have HS2 : Hid _ := S2
    have d5 : (i : Int) < ((((s.hp.set i b).set j a).length : Nat) : Int) := by simp only [List.length_set]; omega
    have d6 : (j : Int) < ((((s.hp.set i b).set j a).length : Nat) : Int) := by simp only [List.length_set]; omega
    simp only at e1' e2'
    clear M2 M3 M4 S2 x1 x2 x3 f1 f3 e0 e1 e2 hsi HM2 e0'
    generalize (((w.setCell ⟨hb, i, none⟩ (.int .i32 (b : Int))).setCell ⟨hb, j, none⟩ (.int .i32 (a : Int))).drew) = w2 at *
    generalize ((s.hp.set i b).set j a).length + (A.sp .heap).length = hcap2 at *
    generalize hln2 : ((s.hp.set i b).set j a).length = ln2 at *
    have HST : Hid (∀ W : World, (∀ k, k ≠ pb → W.heap[k]? = w2.heap[k]?) → W.cell? ⟨ob, 1, none⟩ = some (.slice (some ⟨hb, 0, none⟩) ln2 hcap2) ∧ W.cell? ⟨ob, 2, none⟩ = some (.slice (some ⟨pb, 0, none⟩) (s.n + 1) (s.n + 1)) ∧ W.cell? ⟨hb, i, none⟩ = some (.int .i32 (b : Int)) ∧ W.cell? ⟨hb, j, none⟩ = some (.int .i32 (a : Int))) := fun W hW =>
      ⟨(World.cell?_of_block (a := ⟨ob, 1, none⟩) (hW ob hb2)).trans e1', (World.cell?_of_block (a := ⟨ob, 2, none⟩) (hW ob hb2)).trans e2', (World.cell?_of_block (a := ⟨hb, i, none⟩) (hW hb hb1)).trans x4, (World.cell?_of_block (a := ⟨hb, j, none⟩) (hW hb hb1)).trans x5⟩
    refine wp_region_noPanic ?_
    refine wp_region_held_drew (S := fun W => W.cell? ⟨ob, 1, none⟩ = some (.slice (some ⟨hb, 0, none⟩) ln2 hcap2) ∧ W.cell? ⟨ob, 2, none⟩ = some (.slice (some ⟨pb, 0, none⟩) (s.n + 1) (s.n + 1)) ∧ W.cell? ⟨hb, i, none⟩ = some (.int .i32 (b : Int)) ∧ W.cell? ⟨hb, j, none⟩ = some (.int .i32 (a : Int))) (by kernel_rfl) ?_ (fun hHeld => ?_)
    · (first | exact HST.out _ (fun k hk => rfl) | exact HST.out _ (fun k hk => Below.heap_setCell _ _ _ _ hk) | exact HST.out _ (fun k hk => (Below.heap_setCell _ _ _ _ hk).trans (Below.heap_setCell _ _ _ _ hk)))
    refine wpAnyH_take (i := 0) (oi := _) (v := ?_) rfl (by kernel_rfl) (by kernel_rfl) (by kernel_rfl) (fun _ _ _ h => h) (Or.inl ⟨by rfl, ?_⟩) (by assumption) ?_
    rotate_left 1
    · intro w hSw; (try dsimp only at hSw); go_simp; (try with_reducible rfl)
    try simp only [Act.put, List.getElem_toArray, List.getElem_cons_zero, List.setIfInBounds_toArray, List.set_cons_zero, List.set_cons_succ]
    refine wpAnyH_take (i := 1) (oi := _) (v := ?_) rfl (by kernel_rfl) (by kernel_rfl) (by kernel_rfl) (fun _ _ _ h => h) (Or.inl ⟨by rfl, ?_⟩) (by assumption) ?_
    rotate_left 1
    · intro w hSw; (try dsimp only at hSw); go_simp; (try with_reducible rfl)
    try simp only [Act.put, List.getElem_toArray, List.getElem_cons_succ, List.getElem_cons_zero, List.setIfInBounds_toArray, List.set_cons_zero, List.set_cons_succ]
    refine wpAnyH_take (i := 2) (oi := _) (v := ?_) rfl (by kernel_rfl) (by kernel_rfl) (by kernel_rfl) (fun _ _ _ h => h) (Or.inl ⟨by rfl, ?_⟩) (by assumption) ?_
    rotate_left 1
    · intro w hSw; (try dsimp only at hSw); go_simp; (try with_reducible rfl)
    try simp only [Act.put, List.getElem_toArray, List.getElem_cons_succ, List.getElem_cons_zero, List.setIfInBounds_toArray, List.set_cons_zero, List.set_cons_succ]
    refine wpAnyH_take (i := 3) (oi := _) (v := ?_) rfl (by kernel_rfl) (by kernel_rfl) (by kernel_rfl) (fun _ _ _ h => h) (Or.inl ⟨by rfl, ?_⟩) (by assumption) ?_
    rotate_left 1
    · intro w hSw; (try dsimp only at hSw); go_simp; (try with_reducible rfl)
    try simp only [Act.put, List.getElem_toArray, List.getElem_cons_succ, List.getElem_cons_zero, List.setIfInBounds_toArray, List.set_cons_zero, List.set_cons_succ]
    refine wpAnyH_take (i := 4) (oi := _) (v := ?_) rfl (by kernel_rfl) (by kernel_rfl) (by kernel_rfl) (fun _ _ _ h => h) (Or.inl ⟨by rfl, ?_⟩) (by assumption) ?_
    rotate_left 1
    · intro w hSw; (try dsimp only at hSw); go_simp; (try with_reducible rfl)
    try simp only [Act.put, List.getElem_toArray, List.getElem_cons_succ, List.getElem_cons_zero, List.setIfInBounds_toArray, List.set_cons_zero, List.set_cons_succ]
    refine wpAnyH_take (i := 5) (oi := _) (v := ?_) rfl (by kernel_rfl) (by kernel_rfl) (by kernel_rfl) (fun _ _ _ h => h) (Or.inl ⟨by rfl, ?_⟩) (by assumption) ?_
    rotate_left 1
    · intro w hSw; (try dsimp only at hSw); go_simp; (try with_reducible rfl)
    try simp only [Act.put, List.getElem_toArray, List.getElem_cons_succ, List.getElem_cons_zero, List.setIfInBounds_toArray, List.set_cons_zero, List.set_cons_succ]
    refine wpAnyH_take (i := 6) (oi := _) (v := ?_) rfl (by kernel_rfl) (by kernel_rfl) (by kernel_rfl) (fun _ _ _ h => h) (Or.inl ⟨by rfl, ?_⟩) (by assumption) ?_
    rotate_left 1
    · intro w hSw; (try dsimp only at hSw); go_simp; (try with_reducible rfl)
    try simp only [Act.put, List.getElem_toArray, List.getElem_cons_succ, List.getElem_cons_zero, List.setIfInBounds_toArray, List.set_cons_zero, List.set_cons_succ]
    refine wpAnyH_take (i := 7) (oi := _) (v := ?_) rfl (by kernel_rfl) (by kernel_rfl) (by kernel_rfl) (fun _ _ _ h => h) (Or.inl ⟨by rfl, ?_⟩) (by assumption) ?_
    rotate_left 1
    · intro w hSw; (try dsimp only at hSw); go_simp; (try with_reducible rfl)
    try simp only [Act.put, List.getElem_toArray, List.getElem_cons_succ, List.getElem_cons_zero, List.setIfInBounds_toArray, List.set_cons_zero, List.set_cons_succ]
    refine wpAnyH_take (i := 8) (oi := _) (v := ?_) rfl (by kernel_rfl) (by kernel_rfl) (by kernel_rfl) (fun _ _ _ h => h) (Or.inl ⟨by rfl, ?_⟩) (by assumption) ?_
    rotate_left 1
    · intro w hSw; (try dsimp only at hSw); go_simp; (try with_reducible rfl)
    try simp only [Act.put, List.getElem_toArray, List.getElem_cons_succ, List.getElem_cons_zero, List.setIfInBounds_toArray, List.set_cons_zero, List.set_cons_succ]
    refine wpAnyH_take (i := 9) (oi := _) (v := ?_) rfl (by kernel_rfl) (by kernel_rfl) (by kernel_rfl) (fun _ _ _ h => h) (Or.inl ⟨by rfl, ?_⟩) (by assumption) ?_
    rotate_left 1
    · intro w hSw; (try dsimp only at hSw); go_simp; (try with_reducible rfl)
    try simp only [Act.put, List.getElem_toArray, List.getElem_cons_succ, List.getElem_cons_zero, List.setIfInBounds_toArray, List.set_cons_zero, List.set_cons_succ]
    refine wpAnyH_take (i := 10) (oi := _) (v := ?_) rfl (by kernel_rfl) (by kernel_rfl) (by kernel_rfl) (fun _ _ _ h => h) (Or.inl ⟨by rfl, ?_⟩) (by assumption) ?_
    rotate_left 1
    · intro w hSw; (try dsimp only at hSw); go_simp; (try with_reducible rfl)
    try simp only [Act.put, List.getElem_toArray, List.getElem_cons_succ, List.getElem_cons_zero, List.setIfInBounds_toArray, List.set_cons_zero, List.set_cons_succ]
    refine wpAnyH_take (i := 11) (oi := _) (v := ?_) rfl (by kernel_rfl) (by kernel_rfl) (by kernel_rfl) (fun _ _ _ h => h) (Or.inl ⟨by rfl, ?_⟩) (by assumption) ?_
    rotate_left 1
    · intro w hSw; (try dsimp only at hSw); go_simp; (try with_reducible rfl)
    try simp only [Act.put, List.getElem_toArray, List.getElem_cons_succ, List.getElem_cons_zero, List.setIfInBounds_toArray, List.set_cons_zero, List.set_cons_succ]
    refine wpAnyH_take (i := 12) (oi := _) (v := ?_) rfl (by kernel_rfl) (by kernel_rfl) (by kernel_rfl) (fun _ _ _ h => h) (Or.inl ⟨by rfl, ?_⟩) (by assumption) ?_
    rotate_left 1
    · intro w hSw; (try dsimp only at hSw); go_simp; (try with_reducible rfl)
    try simp only [Act.put, List.getElem_toArray, List.getElem_cons_succ, List.getElem_cons_zero, List.setIfInBounds_toArray, List.set_cons_zero, List.set_cons_succ]
    refine wpAnyH_take (i := 13) (oi := _) (v := ?_) rfl (by kernel_rfl) (by kernel_rfl) (by kernel_rfl) (fun _ _ _ h => h) (Or.inl ⟨by rfl, ?_⟩) (by assumption) ?_
    rotate_left 1
    · intro w hSw; (try dsimp only at hSw); go_simp; (try with_reducible rfl)
    try simp only [Act.put, List.getElem_toArray, List.getElem_cons_succ, List.getElem_cons_zero, List.setIfInBounds_toArray, List.set_cons_zero, List.set_cons_succ]
    refine wpAnyH_take (i := 14) (oi := _) (v := ?_) rfl (by kernel_rfl) (by kernel_rfl) (by kernel_rfl) (fun _ _ _ h => h) (Or.inl ⟨by rfl, ?_⟩) (by assumption) ?_
    rotate_left 1
    · intro w hSw; (try dsimp only at hSw); go_simp; (try with_reducible rfl)
    try simp only [Act.put, List.getElem_toArray, List.getElem_cons_succ, List.getElem_cons_zero, List.setIfInBounds_toArray, List.set_cons_zero, List.set_cons_succ]
    refine wpAnyH_take (i := 15) (oi := _) (v := ?_) rfl (by kernel_rfl) (by kernel_rfl) (by kernel_rfl) (fun _ _ _ h => h) (Or.inl ⟨by rfl, ?_⟩) (by assumption) ?_
    rotate_left 1
    · intro w hSw; (try dsimp only at hSw); go_simp; (try with_reducible rfl)
    try simp only [Act.put, List.getElem_toArray, List.getElem_cons_succ, List.getElem_cons_zero, List.setIfInBounds_toArray, List.set_cons_zero, List.set_cons_succ]
    refine wpAnyH_take (i := 16) (oi := _) (v := ?_) rfl (by kernel_rfl) (by kernel_rfl) (by kernel_rfl) (fun _ _ _ h => h) (Or.inl ⟨by rfl, ?_⟩) (by assumption) ?_
    rotate_left 1
    · intro w hSw; (try dsimp only at hSw); go_simp; (try with_reducible rfl)
    try simp only [Act.put, List.getElem_toArray, List.getElem_cons_succ, List.getElem_cons_zero, List.setIfInBounds_toArray, List.set_cons_zero, List.set_cons_succ]
    refine wpAnyH_take (i := 17) (oi := _) (v := ?_) rfl (by kernel_rfl) (by kernel_rfl) (by kernel_rfl) (fun _ _ _ h => h) (Or.inl ⟨by rfl, ?_⟩) (by assumption) ?_
    rotate_left 1
    · intro w hSw; (try dsimp only at hSw); go_simp; (try with_reducible rfl)
    try simp only [Act.put, List.getElem_toArray, List.getElem_cons_succ, List.getElem_cons_zero, List.setIfInBounds_toArray, List.set_cons_zero, List.set_cons_succ]
    refine wpAnyH_take (i := 18) (oi := _) (v := ?_) rfl (by kernel_rfl) (by kernel_rfl) (by kernel_rfl) (fun _ _ _ h => h) (Or.inl ⟨by rfl, ?_⟩) (by assumption) ?_
    rotate_left 1
    · intro w hSw; (try dsimp only at hSw); go_simp; (try with_reducible rfl)
    try simp only [Act.put, List.getElem_toArray, List.getElem_cons_succ, List.getElem_cons_zero, List.setIfInBounds_toArray, List.set_cons_zero, List.set_cons_succ]
    refine wpAnyH_take (i := 19) (oi := _) (v := ?_) rfl (by kernel_rfl) (by kernel_rfl) (by kernel_rfl) (fun _ _ _ h => h) (Or.inl ⟨by rfl, ?_⟩) (by assumption) ?_
    rotate_left 1
    · intro w hSw; (try dsimp only at hSw); go_simp; (try with_reducible rfl)
    try simp only [Act.put, List.getElem_toArray, List.getElem_cons_succ, List.getElem_cons_zero, List.setIfInBounds_toArray, List.set_cons_zero, List.set_cons_succ]
    refine wpAnyH_take (i := 20) (oi := _) (v := ?_) rfl (by kernel_rfl) (by kernel_rfl) (by kernel_rfl) (fun _ _ _ h => h) (Or.inl ⟨by rfl, ?_⟩) (by assumption) ?_
    rotate_left 1
    · intro w hSw; (try dsimp only at hSw); go_simp; (try with_reducible rfl)
    try simp only [Act.put, List.getElem_toArray, List.getElem_cons_succ, List.getElem_cons_zero, List.setIfInBounds_toArray, List.set_cons_zero, List.set_cons_succ]
    refine wpAnyH_take (i := 21) (oi := _) (v := ?_) rfl (by kernel_rfl) (by kernel_rfl) (by kernel_rfl) (fun _ _ _ h => h) (Or.inl ⟨by rfl, ?_⟩) (by assumption) ?_
    rotate_left 1
    · intro w hSw; (try dsimp only at hSw); go_simp; (try with_reducible rfl)
    try simp only [Act.put, List.getElem_toArray, List.getElem_cons_succ, List.getElem_cons_zero, List.setIfInBounds_toArray, List.set_cons_zero, List.set_cons_succ]
    refine wpAnyH_take (i := 22) (oi := _) (v := ?_) rfl (by kernel_rfl) (by kernel_rfl) (by kernel_rfl) (fun _ _ _ h => h) (Or.inl ⟨by rfl, ?_⟩) (by assumption) ?_
    rotate_left 1
    · intro w hSw; (try dsimp only at hSw); go_simp; (try with_reducible rfl)
    try simp only [Act.put, List.getElem_toArray, List.getElem_cons_succ, List.getElem_cons_zero, List.setIfInBounds_toArray, List.set_cons_zero, List.set_cons_succ]
    refine wpAnyH_take (i := 23) (oi := _) (v := ?_) rfl (by kernel_rfl) (by kernel_rfl) (by kernel_rfl) (fun _ _ _ h => h) (Or.inl ⟨by rfl, ?_⟩) (by assumption) ?_
    rotate_left 1
    · intro w hSw; (try dsimp only at hSw); go_simp; (try with_reducible rfl)
    try simp only [Act.put, List.getElem_toArray, List.getElem_cons_succ, List.getElem_cons_zero, List.setIfInBounds_toArray, List.set_cons_zero, List.set_cons_succ]
    refine wpAnyH_take (i := 24) (oi := _) (v := ?_) rfl (by kernel_rfl) (by kernel_rfl) (by kernel_rfl) (fun _ _ _ h => h) (Or.inl ⟨by rfl, ?_⟩) (by assumption) ?_
    rotate_left 1
    · intro w hSw; (try dsimp only at hSw); go_simp; (try with_reducible rfl)
    try simp only [Act.put, List.getElem_toArray, List.getElem_cons_succ, List.getElem_cons_zero, List.setIfInBounds_toArray, List.set_cons_zero, List.set_cons_succ]
    refine wpAnyH_ready (rs := [25]) (by kernel_rfl) (by simp) ?_
    refine AllReadyH.cons rfl (fun K hK => ?_) AllReadyH.nil
    try simp only [List.getElem_toArray, List.getElem_cons_succ, List.getElem_cons_zero]
    go_simp
    refine hK.out _ _ ?_ (fun hHeld => ?_)
    · (first | exact HST.out _ (fun k hk => rfl) | exact HST.out _ (fun k hk => Below.heap_setCell _ _ _ _ hk) | exact HST.out _ (fun k hk => (Below.heap_setCell _ _ _ _ hk).trans (Below.heap_setCell _ _ _ _ hk)))
    clear hK K
    try simp only [Act.put, List.getElem_toArray, List.getElem_cons_succ, List.getElem_cons_zero, List.setIfInBounds_toArray, List.set_cons_zero, List.set_cons_succ]
    refine wpAnyH_take (i := 26) (oi := _) (v := ?_) rfl (by kernel_rfl) (by kernel_rfl) (by kernel_rfl) (fun _ _ _ h => h) (Or.inl ⟨by rfl, ?_⟩) (by assumption) ?_
    rotate_left 1
    · intro w hSw; (try dsimp only at hSw); go_simp; (try with_reducible rfl)
    try simp only [Act.put, List.getElem_toArray, List.getElem_cons_succ, List.getElem_cons_zero, List.setIfInBounds_toArray, List.set_cons_zero, List.set_cons_succ]
    refine wpAnyH_ready (rs := [27]) (by kernel_rfl) (by simp) ?_
    refine AllReadyH.cons rfl (fun K hK => ?_) AllReadyH.nil
    try simp only [List.getElem_toArray, List.getElem_cons_succ, List.getElem_cons_zero]
    go_simp
    refine hK.out _ _ ?_ (fun hHeld => ?_)
    · (first | exact HST.out _ (fun k hk => rfl) | exact HST.out _ (fun k hk => Below.heap_setCell _ _ _ _ hk) | exact HST.out _ (fun k hk => (Below.heap_setCell _ _ _ _ hk).trans (Below.heap_setCell _ _ _ _ hk)))
    clear hK K
    try simp only [Act.put, List.getElem_toArray, List.getElem_cons_succ, List.getElem_cons_zero, List.setIfInBounds_toArray, List.set_cons_zero, List.set_cons_succ]
    all_goals refine wpAnyH_done (by kernel_rfl) (NoPanic.normal ?_) _
    try simp only [Act.put, List.getElem_toArray, List.getElem_cons_succ, List.getElem_cons_zero, List.setIfInBounds_toArray, List.set_cons_succ, List.set_cons_zero]
    exact ⟨rfl, .tuple #[], by simp [results, Tryz.results245], rfl, _, HS2.out.trans ⟨HM4.out.keep (fun _ _ => rfl), (((Kept.refl _ w2).setCell (p := ⟨pb, b, none⟩) ⟨_, hpb⟩ _).setCell (p := ⟨pb, a, none⟩) ⟨_, hpb⟩ _).drew, fun _ hk => Or.inl hk⟩⟩


set_option maxRecDepth 100000 in
set_option maxHeartbeats 1000000 in
theorem down_in (w : World) (A : Ad) (s : Sv) (h : Mem w A s) (ob : Nat) (hob : A.blk .order = some ob) (hhp : ∀ v ∈ s.hp, v ≤ s.n) (hl : s.hp.length ≤ 4000) :
    Calls Tryz.prog 246 #[.pointer (some ⟨ob, 0, none⟩), .int .i64 1] w fun e w' => e = .returned (.tuple #[]) ∧ ∃ m, w' = w.drewN m := by
  obtain ⟨ob', hb, pb, cb, hob', hhb, hpb, hcb, e0, e1, e2⟩ := h.ord
  rw [hob] at hob'
  cases hob'
  have AB : Hid (∀ m i j, i < s.hp.length → j < s.hp.length → _) := fun m i j hi hj => above_in (w.drewN m) A s (h.keep (fun _ _ => rfl)) ob hob hhp i j hi hj
  clear h hhp e0 e2
  generalize s.hp.length + (A.sp .heap).length = hcap at *
  generalize s.hp.length = ln at *
  go_enter Tryz.func246, Tryz.ntmps246
  go_wp2_with fail
  go_loopw [1] (fun t1 W => t1 = .int .i64 1 ∧ W = w) (fun _ _ => 0)
  case atStart => exact ⟨rfl, rfl⟩
  case round =>
    obtain ⟨rfl, rfl⟩ := hrel
    obtain ⟨w0, hw0⟩ : ∃ w0, w0 = wr := ⟨_, rfl⟩
    subst hw0
    go_wp2_with fail
    go_loopw [4, 5] (fun t4 t5 W => ∃ kd m : Nat, 2 ≤ kd ∧ kd ≤ 4 ∧ t4 = .int .i64 1 ∧ t5 = .int .i64 (kd : Int) ∧ W = w0.drewN m) (fun _ t5 _ => 4 - (intOf t5).toNat)
    case atStart => exact ⟨2, 0, by omega, by omega, rfl, rfl, rfl⟩
    case round =>
      obtain ⟨kd, m, hk2, hk4, rfl, rfl, rfl⟩ := hrel
      by_cases h3 : kd ≤ 3
      · have d3 : decide ((kd : Int) ≤ 3) = true := decide_eq_true (by omega)
        by_cases hk : kd < ln
        · have d4 : decide ((kd : Int) < (ln : Int)) = true := decide_eq_true (by omega)
          have AB1 := AB.out m kd 1 hk (by omega)
          have hwrap : IntKind.i64.wrap ((kd : Int) + 1) = (kd : Int) + 1 := by rw [IntKind.wrap_i64]; omega
          clear AB
          go_wp2_with (first | (go_at_call 253; refine AB1.mono ?_; rintro e w3 ⟨rfl, m3, rfl⟩))
          exact ⟨⟨kd + 1, m + m3, by omega, by omega, rfl, by simp, by first | rfl | rw [World.drewN_drewN]⟩, by simp [intOf]; omega⟩
        · have d4 : decide ((kd : Int) < (ln : Int)) = false := decide_eq_false (by omega)
          clear AB
          go_wp2_with fail
          exact ⟨rfl, .tuple #[], by simp [results, Tryz.results246], rfl, _, rfl⟩
      · have d3 : decide ((kd : Int) ≤ 3) = false := decide_eq_false (by omega)
        clear AB
        go_wp2_with fail
        exact ⟨rfl, .tuple #[], by simp [results, Tryz.results246], rfl, _, rfl⟩

/-- The heap is cut. -/
theorem Mem.cutHp {W : World} {A : Ad} {s : Sv} (h : Mem W A s) {ob hb : Nat} (hob : A.blk .order = some ob) (hhb : A.blk .heap = some hb) (k : Nat) (hk : k ≤ s.hp.length) :
    Mem (W.setCell ⟨ob, 1, none⟩ (.slice (some ⟨hb, 0, none⟩) k (s.hp.length + (A.sp .heap).length))) (A.up .heap hb ((s.hp.drop k).map i32 ++ A.sp .heap)) { s with hp := s.hp.take k } := by
  have hup : ∀ r, (A.up .heap hb ((s.hp.drop k).map i32 ++ A.sp .heap)).blk r = A.blk r := fun r => by
    show (if r = .heap then some hb else A.blk r) = _
    split
    · next e => rw [e, hhb]
    · rfl
  have hus : ∀ r, r ≠ .heap → (A.up .heap hb ((s.hp.drop k).map i32 ++ A.sp .heap)).sp r = A.sp r := fun r hr => if_neg hr
  have hus2 : (A.up .heap hb ((s.hp.drop k).map i32 ++ A.sp .heap)).sp .heap = (s.hp.drop k).map i32 ++ A.sp .heap := by simp [Ad.up]
  have hslv : ∀ r k' z, r ≠ .heap → (A.up .heap hb ((s.hp.drop k).map i32 ++ A.sp .heap)).slv r k' z = A.slv r k' z := fun r k' z hr => by unfold Ad.slv; rw [hup r, hus r hr]
  have hptr : ∀ r, (A.up .heap hb ((s.hp.drop k).map i32 ++ A.sp .heap)).ptr r = A.ptr r := fun r => by unfold Ad.ptr; rw [hup r]
  have hslt : (A.up .heap hb ((s.hp.drop k).map i32 ++ A.sp .heap)).slv .heap (s.hp.take k).length 1 = .slice (some ⟨hb, 0, none⟩) k (s.hp.length + (A.sp .heap).length) := by
    unfold Ad.slv
    rw [hup, hhb, hus2]
    simp only [List.length_take, List.length_append, List.length_map, List.length_drop, Nat.div_one, Nat.min_eq_left hk]
    congr 1; omega
  have hcell : ∀ r, r ≠ .heap → r ≠ .order → cellsR (A.up .heap hb ((s.hp.drop k).map i32 ++ A.sp .heap)) { s with hp := s.hp.take k } r = cellsR A s r := by
    intro r h1 h2
    cases r <;> first | exact absurd rfl h1 | exact absurd rfl h2 | skip
    all_goals simp only [cellsR, searchC]
    all_goals first | rfl | skip
    all_goals simp [hslv, hus, hptr, watC]
    all_goals first | rfl | exact ⟨rfl, rfl⟩
  refine ⟨fun r r' b1 h1 h2 => h.inj r r' b1 ((hup r).symm.trans h1) ((hup r').symm.trans h2), fun r b1 h1 => ?_, fun r hr => by rw [hup]; exact h.fix r hr, fun d => by rw [hup]; exact h.cls d, fun d => by rw [hup]; exact h.rows d, fun l e => h.win l ((hup _).symm.trans e), fun e => h.nil1 ((hup _).symm.trans e), fun e => h.nil2 ((hup _).symm.trans e), fun r hg => ?_, fun r hg => ?_, ?_, h.lv, h.lw, h.ls, h.lp, h.small, h.endk⟩
  · rw [hup] at h1
    by_cases e1 : r = .heap
    · subst e1
      rw [hhb] at h1
      cases h1
      have hne : hb ≠ ob := fun e => by have := h.inj _ _ _ hhb (e ▸ hob); cases this
      rw [Below.heap_setCell _ _ _ _ hne, h.has _ _ hhb]
      simp only [cellsR, hus2]
      rw [← List.append_assoc, ← List.map_append, List.take_append_drop]
    · by_cases e2 : r = .order
      · subst e2
        rw [hob] at h1
        cases h1
        have h3 := h.has _ _ hob
        unfold World.setCell
        simp only [Array.getElem?_modify, h3, if_true, Option.map_some]
        simp only [cellsR, hslt, hslv _ _ _ (show Role.scores ≠ .heap by intro e; cases e), hslv _ _ _ (show Role.places ≠ .heap by intro e; cases e)]
        simp
      · rw [hcell r e1 e2, Below.heap_setCell _ _ _ _ (fun e3 => e2 (h.inj _ _ _ h1 (by rw [hob]; exact congrArg some e3.symm)))]
        exact h.has r b1 h1
  · rw [hus r (by rintro rfl; cases hg)]; exact h.even r hg
  · rw [hus r (by rintro rfl; cases hg)]
    have := h.caps r hg
    cases r <;> first | exact this | cases hg
  · have hf := h.flat
    refine ⟨?_, ?_, ?_, ?_, ?_, ?_, ?_, ?_, ?_⟩
    all_goals rw [hus _ (by intro e; cases e)]
    · exact hf.1
    · exact hf.2.1
    · exact hf.2.2.1
    · exact hf.2.2.2.1
    · exact hf.2.2.2.2.1
    · exact hf.2.2.2.2.2.1
    · exact hf.2.2.2.2.2.2.1
    · exact hf.2.2.2.2.2.2.2.1
    · exact hf.2.2.2.2.2.2.2.2


end Go.Proofs.YtlehlgipbhfioaaGreat

namespace Go.Proofs.YtlehlgipbhfioaaGreat
open Go.RowKit Go.Maps

set_option maxRecDepth 100000 in
set_option maxHeartbeats 400000 in
theorem pop_in (w : World) (A : Ad) (s : Sv) (h : Mem w A s) (ob : Nat) (hob : A.blk .order = some ob) (hhp : ∀ v ∈ s.hp, v ≤ s.n) (h1 : 1 ≤ s.hp.length) (hl4 : s.hp.length ≤ 4000) :
    Calls Tryz.prog 219 #[.pointer (some ⟨ob, 0, none⟩)] w fun e w' => e = .returned (.tuple #[.int .i32 ((s.pop.1.getD 0 : Nat) : Int), .bool s.pop.1.isSome]) ∧ ∃ A', Step w w' A A' s.pop.2 ∧ ∀ r, A'.blk r = A.blk r ∧ (r ≠ .heap → A'.sp r = A.sp r) := by
  obtain ⟨ob', hb, pb, cb, hob', hhb, hpb, hcb, e0, e1, e2⟩ := h.ord
  rw [hob] at hob'
  cases hob'
  by_cases hl : s.hp.length ≤ 1
  · have hl1 : s.hp.length = 1 := by omega
    have hpop : s.pop = (none, s) := by unfold Sv.pop; rw [if_pos hl]
    rw [hpop]
    rw [hl1] at e1
    have HM : Hid _ := h
    clear h e0 e2
    go_enter Tryz.func219, Tryz.ntmps219
    go_wp2_with fail
    exact ⟨rfl, .tuple #[.int .i32 0, .bool false], by simp [results, Tryz.results219], rfl, A, ⟨HM.out, Kept.refl _ _, fun _ hk => Or.inl hk⟩, fun _ => ⟨rfl, fun _ => rfl⟩⟩
  · have hl2 : s.hp.length - 1 < s.hp.length := by omega
    have hl3 : 1 < s.hp.length := by omega
    obtain ⟨a, ha⟩ : ∃ a, s.hp[1]? = some a := ⟨_, List.getElem?_eq_getElem hl3⟩
    obtain ⟨b, hbb⟩ : ∃ b, s.hp[s.hp.length - 1]? = some b := ⟨_, List.getElem?_eq_getElem hl2⟩
    have hpop : s.pop = (some a, { s with hp := (s.hp.set 1 b).take (s.hp.length - 1) }) := by
      unfold Sv.pop
      rw [if_neg hl, ha, hbb]; rfl
    have hbn := hhp b (List.mem_of_getElem? hbb)
    have han := hhp a (List.mem_of_getElem? ha)
    rw [hpop]
    have SW := swap_in w A s h ob hob hhp 1 (s.hp.length - 1) a b ha hbb
    have hhp2 : ∀ v ∈ (s.hp.set 1 b).take (s.hp.length - 1), v ≤ s.n := fun v hv => by
      rcases List.mem_or_eq_of_mem_set (List.mem_of_mem_take hv) with hv | hv
      · exact hhp v hv
      · rw [hv]; exact hbn
    obtain ⟨last, hlast⟩ : ∃ last, s.hp.length = last + 1 := ⟨s.hp.length - 1, by omega⟩
    have hle : s.hp.length - 1 = last := by omega
    rw [hle] at SW hhp2 ⊢
    have SW : Calls Tryz.prog 245 #[.pointer (some ⟨ob, 0, none⟩), .int .i64 1, .int .i64 (last : Int)] w _ := SW
    rw [hlast] at e1
    have HHP : Hid _ := hhp2
    have dl : ((last : Int) == 0) = false := by rw [beq_eq_false_iff_ne]; omega
    have hsub : wrap64 (last : Int) = (last : Int) := by unfold wrap64; omega
    clear h e0 e2 hhp hhp2 hpop
    have hL : s.hp.length = last + 1 := hlast
    have HL : Hid _ := hL
    clear hL hlast hle hl hl2 hl3 h1
    go_enter Tryz.func219, Tryz.ntmps219
    go_wp2_with (first | (go_at_call 245; refine SW.mono ?_; rintro e w3 ⟨rfl, pl, S3⟩; refine Aside.out ?_))
    delta Aside
    have M3 := S3.mem
    have hhb3 : ({ A with pl := pl } : Ad).blk .heap = some hb := hhb
    have hob3 : ({ A with pl := pl } : Ad).blk .order = some ob := hob
    have hpb3 : ({ A with pl := pl } : Ad).blk .places = some pb := hpb
    obtain ⟨ob', hb', pb', cb', hob', hhb', hpb', hcb', e0', e1', e2'⟩ := M3.ord
    rw [hob3] at hob'
    rw [hhb3] at hhb'
    rw [hpb3] at hpb'
    cases hob'
    cases hhb'
    cases hpb'
    have x1 := M3.hcell hhb3 (i := last) (v := a) (by
      show ((s.hp.set 1 b).set last a)[last]? = _
      rw [List.getElem?_set_self (by rw [List.length_set, HL.out]; omega)])
    have f1 := M3.frozen hob3 1
    have hlen3 : ({ s with hp := (s.hp.set 1 b).set last a } : Sv).hp.length = last + 1 := by simp only [List.length_set]; exact HL.out
    rw [hlen3] at e1'
    have hsp3 : ({ A with pl := pl } : Ad).sp .heap = A.sp .heap := rfl
    rw [hsp3] at e1'
    have M4 := M3.cutHp hob3 hhb3 last (by rw [hlen3]; omega)
    rw [hlen3, hsp3] at M4
    have htk : ((s.hp.set 1 b).set last a).take last = (s.hp.set 1 b).take last := by rw [List.take_set_of_le (Nat.le_refl _)]
    have M4 : Mem (w3.setCell ⟨ob, 1, none⟩ (.slice (some ⟨hb, 0, none⟩) last (last + 1 + (A.sp .heap).length))) (({ A with pl := pl } : Ad).up .heap hb ((((s.hp.set 1 b).set last a).drop last).map i32 ++ A.sp .heap)) { s with hp := (s.hp.set 1 b).take last } := by
      rw [← htk]; exact M4
    obtain ⟨A4, hA4⟩ : ∃ A4, A4 = (({ A with pl := pl } : Ad).up .heap hb ((((s.hp.set 1 b).set last a).drop last).map i32 ++ A.sp .heap)) := ⟨_, rfl⟩
    have hblk4 : ∀ r, A4.blk r = A.blk r ∧ (r ≠ .heap → A4.sp r = A.sp r) := fun r => by
      rw [hA4]
      refine ⟨?_, fun hr => if_neg hr⟩
      show (if r = .heap then some hb else A.blk r) = _
      split
      · next e => rw [e, hhb]
      · rfl
    rw [← hA4] at M4
    have S4 : Step w _ A A4 _ := S3.trans ⟨M4, (Kept.refl _ _).setCell (p := ⟨ob, 1, none⟩) ⟨_, hob3⟩ _, fun q ⟨r, hr⟩ => Or.inl ⟨r, (hblk4 r).1.symm.trans hr⟩⟩
    have hpl := M4.lp
    have hpb4 : A4.blk .places = some pb := (hblk4 .places).1.trans hpb
    have hob4 : A4.blk .order = some ob := (hblk4 .order).1.trans hob
    have q1 : ∃ v, (w3.setCell ⟨ob, 1, none⟩ (.slice (some ⟨hb, 0, none⟩) last (last + 1 + (A.sp .heap).length))).cell? ⟨pb, a, none⟩ = some v := ⟨_, M4.cell hpb4 (List.getElem?_eq_getElem (by show a < A4.pl.length; rw [hpl]; show a < s.n + 1; omega))⟩
    obtain ⟨v1, q1⟩ := q1
    have q2 := M4.frozen hpb4 a
    have q3 : (w3.setCell ⟨ob, 1, none⟩ (.slice (some ⟨hb, 0, none⟩) last (last + 1 + (A.sp .heap).length))).cell? ⟨ob, 2, none⟩ = some (.slice (some ⟨pb, 0, none⟩) (s.n + 1) (s.n + 1)) := by
      have := M4.cell hob4 (i := 2) rfl
      simpa only [Ad.slv, hpb4, M4.flat.2.2.2.1, List.length_nil, Nat.zero_div, Nat.add_zero] using this
    have M5 := M4.setPl hpb4 a (.int .i64 (-1))
    have S5 : Step w _ A { A4 with pl := A4.pl.set a (.int .i64 (-1)) } _ := S4.trans ⟨M5, (Kept.refl _ _).setCell (p := ⟨pb, a, none⟩) ⟨_, hpb4⟩ _, fun _ hk => Or.inl hk⟩
    have DW := down_in _ _ _ M5 ob hob4 HHP.out (by show ((s.hp.set 1 b).take last).length ≤ 4000; simp only [List.length_take, List.length_set]; omega)
    have da : (a : Int) < (s.n : Int) + 1 := by omega
    have dla : (last : Int) < ((last + 1 : Nat) : Int) := by omega
    have HS5 : Hid _ := S5
    have HB4 : Hid _ := hblk4
    simp only at e1' e2'
    clear S3 M3 M4 M5 S4 S5 hA4 htk hlen3 hblk4 SW
    apply_assumption
    go_wp2_with (first | (go_at_call 246; refine DW.mono ?_; rintro e w7 ⟨rfl, m7, rfl⟩))
    exact ⟨rfl, .tuple #[.int .i32 (a : Int), .bool true], by simp [results, Tryz.results219], rfl, _, HS5.out.trans (Step.drew HS5.out.mem m7), fun r => HB4.out r⟩

end Go.Proofs.YtlehlgipbhfioaaGreat

namespace Go.Proofs.YtlehlgipbhfioaaGreat
open Go.RowKit Go.Maps

/-- A level more. -/
theorem Mem.pushStarts {W w8 : World} {A : Ad} {s : Sv} (h : Mem W A s) {sb : Nat} (hsb : A.blk .search = some sb) (l : Nat) {b : Nat} {sp : List Value} {v8 : Value} (hv : v8 = .slice (some ⟨b, 0, none⟩) (s.starts.length + 1) (s.starts.length + 1 + sp.length / 1)) (hcap : s.starts.length + 1 + sp.length / 1 ≤ maxLen)
    (hb : w8.heap[b]? = some (Obj.cells (s.starts.map i64 ++ [i64 l] ++ sp).toArray 3 (0, 0))) (ho : ∀ r' b', r' ≠ .starts → A.blk r' = some b' → w8.heap[b']? = W.heap[b']? ∧ b' ≠ b) :
    Mem (w8.setCell ⟨sb, 4, none⟩ v8) (A.up .starts b sp) { s with starts := s.starts ++ [l] } := by
  have hbs : sb ≠ b := (ho .search sb (by decide) hsb).2
  have hup : ∀ r, r ≠ .starts → (A.up .starts b sp).blk r = A.blk r := fun r hr => if_neg hr
  have hus : ∀ r, r ≠ .starts → (A.up .starts b sp).sp r = A.sp r := fun r hr => if_neg hr
  have hslv : ∀ r k z, r ≠ .starts → (A.up .starts b sp).slv r k z = A.slv r k z := fun r k z hr => by unfold Ad.slv; rw [hup r hr, hus r hr]
  have hptr : ∀ r, r ≠ .starts → (A.up .starts b sp).ptr r = A.ptr r := fun r hr => by unfold Ad.ptr; rw [hup r hr]
  have hslt : (A.up .starts b sp).slv .starts (s.starts.length + 1) 1 = v8 := by rw [hv]; simp [Ad.slv, Ad.up]
  have hcell : ∀ r, r ≠ .starts → r ≠ .search → cellsR (A.up .starts b sp) { s with starts := s.starts ++ [l] } r = cellsR A s r := by
    intro r h1 h2
    cases r <;> first | exact absurd rfl h1 | exact absurd rfl h2 | skip
    all_goals simp only [cellsR]
    all_goals first | rfl | skip
    all_goals simp [hslv, hus, watC, hptr]
    all_goals rfl
  have hsea : cellsR (A.up .starts b sp) { s with starts := s.starts ++ [l] } .search = (cellsR A s .search).set 4 v8 := by
    simp only [cellsR, searchC, List.length_append, List.length_singleton, hslt]
    simp [hslv, hptr]
    exact ⟨rfl, rfl⟩
  refine ⟨?_, ?_, fun r hr => ?_, fun c => ?_, fun c => ?_, fun l => ?_, fun e => ?_, fun e => ?_, fun r hg => ?_, fun r hg => ?_, ?_, h.lv, h.lw, h.ls, h.lp, h.small, h.endk⟩
  · intro r r' b1 h1 h2
    by_cases e1 : r = .starts
    · by_cases e2 : r' = .starts
      · rw [e1, e2]
      · rw [hup r' e2] at h2
        subst e1
        have : b1 = b := by simpa [Ad.up] using h1.symm
        exact absurd this (ho r' b1 e2 h2).2
    · rw [hup r e1] at h1
      by_cases e2 : r' = .starts
      · subst e2
        have : b1 = b := by simpa [Ad.up] using h2.symm
        exact absurd this (ho r b1 e1 h1).2
      · rw [hup r' e2] at h2
        exact h.inj _ _ _ h1 h2
  · intro r b1 h1
    by_cases e1 : r = .starts
    · subst e1
      have e2 : b1 = b := by simpa [Ad.up] using h1.symm
      subst e2
      rw [Below.heap_setCell _ _ _ _ hbs.symm, hb]
      simp [cellsR, Ad.up, tyR]
    · rw [hup r e1] at h1
      by_cases e2 : r = .search
      · subst e2
        rw [hsb] at h1
        cases h1
        have h3 := (ho .search sb (by decide) hsb).1.trans (h.has _ _ hsb)
        rw [hsea]
        unfold World.setCell
        simp [Array.getElem?_modify, h3]
      · rw [hcell r e1 e2, Below.heap_setCell _ _ _ _ (fun e3 => e2 (h.inj _ _ _ h1 (by rw [hsb]; exact congrArg some e3.symm)))]
        exact (ho r b1 e1 h1).1.trans (h.has r b1 h1)
  · rw [hup r (by rintro rfl; cases hr)]
    exact h.fix r hr
  · rw [hup _ (by intro e; cases e)]
    exact h.cls c
  · rw [hup _ (by intro e; cases e)]
    exact h.rows c
  · rw [hup _ (by intro e; cases e)]
    exact h.win l
  · rw [hup _ (by intro e; cases e)] at e
    exact h.nil1 e
  · simp [Ad.up] at e
  · by_cases e1 : r = .starts
    · subst e1
      exact ⟨sp.length, by simp [Ad.up, sizR]⟩
    · rw [hus r e1]
      exact h.even r hg
  · by_cases e1 : r = .starts
    · subst e1
      simpa [Ad.up, sizR, lenR] using hcap
    · rw [hus r e1]
      have : lenR { s with starts := s.starts ++ [l] } r = lenR s r := by
        cases r <;> first | exact absurd rfl e1 | rfl
      rw [this]
      exact h.caps r hg
  · have hf := h.flat
    refine ⟨?_, ?_, ?_, ?_, ?_, ?_, ?_, ?_, ?_⟩
    all_goals rw [hus _ (by intro e; cases e)]
    · exact hf.1
    · exact hf.2.1
    · exact hf.2.2.1
    · exact hf.2.2.2.1
    · exact hf.2.2.2.2.1
    · exact hf.2.2.2.2.2.1
    · exact hf.2.2.2.2.2.2.1
    · exact hf.2.2.2.2.2.2.2.1
    · exact hf.2.2.2.2.2.2.2.2

/-- What append leaves of the levels. -/
theorem startGrow {W : World} {A : Ad} {s : Sv} (h : Mem W A s) {sb : Nat} (hsb : A.blk .search = some sb) (l : Nat) :
    ∃ ta tc, W.cell? ⟨sb, 4, none⟩ = some (.slice ta s.starts.length tc) ∧ W.frozen? ⟨sb, 4, none⟩ = false ∧ W.ownsRow 0 3 1 (.slice ta s.starts.length tc) s.starts.length (s.starts.map i64) ∧
      ∀ (w8 : World) (O : Obj) (v8 : Value), w8.ownsRow 0 3 1 v8 (s.starts.length + 1) (s.starts.map i64 ++ [i64 l]) → (W.alloc O).grownBy w8 (Value.slice ta s.starts.length tc).ownBlock → (v8.ownBlock = (Value.slice ta s.starts.length tc).ownBlock ∨ ∀ k, v8.ownBlock = some k → (W.alloc O).heap.size ≤ k) →
        w8.cell? ⟨sb, 4, none⟩ = some (.slice ta s.starts.length tc) ∧ w8.frozen? ⟨sb, 4, none⟩ = false ∧ (∃ b k, v8 = .slice (some ⟨b, 0, none⟩) (s.starts.length + 1) k) ∧ (∀ r b', r ≠ .starts → A.blk r = some b' → w8.heap[b']? = W.heap[b']?) ∧ ∃ A', Step W (w8.setCell ⟨sb, 4, none⟩ v8) A A' { s with starts := s.starts ++ [l] } ∧ ∀ r, r ≠ .starts → A'.blk r = A.blk r ∧ A'.sp r = A.sp r := by
  obtain ⟨ta, tc, hts⟩ := slv_form h (r := .starts) rfl
  have c1 := h.cell hsb (i := 4) rfl
  rw [show A.slv .starts s.starts.length 1 = .slice ta s.starts.length tc from hts] at c1
  have f1 := h.frozen hsb 4
  have ow := h.owns (r := .starts) rfl
  refine ⟨ta, tc, c1, f1, hts ▸ ow, fun w8 O v8 h1 h2 h3 => ?_⟩
  rw [← show A.slv .starts (lenR s .starts) (sizR .starts) = .slice ta s.starts.length tc from hts] at h2 h3
  obtain ⟨b, sp, e1, e2, e3, e4, e5, e6⟩ := h.grown (r := .starts) rfl (news := [i64 l]) h1 h2 h3
  have hs := (e6 .search sb (by intro e; cases e) hsb)
  have P := h.pushStarts hsb l e1 e3 e4 e6
  refine ⟨(World.cell?_of_block (a := ⟨sb, 4, none⟩) hs.1).trans c1, (World.frozen?_of_block (a := ⟨sb, 4, none⟩) hs.1).trans f1, ⟨b, _, e1⟩, fun r b' hr hb' => (e6 r b' hr hb').1, A.up .starts b sp, ⟨P, ?_, fun k hk => ?_⟩, fun r hr => ⟨if_neg hr, if_neg hr⟩⟩
  · have K : Kept A.Foot W w8 := Kept.grown ((Kept.refl _ W).alloc O) h2 (fun k hk => ⟨.starts, by
      have : (A.slv .starts (lenR s .starts) (sizR .starts)).ownBlock = A.blk .starts := by unfold Ad.slv; cases A.blk .starts <;> rfl
      rw [← this]; exact hk⟩)
    exact K.setCell (p := ⟨sb, 4, none⟩) ⟨_, hsb⟩ _
  · obtain ⟨r, hr⟩ := hk
    by_cases er : r = .starts
    · subst er
      have : k = b := by simpa [Ad.up] using hr.symm
      subst this
      rcases e5 with e5 | e5
      · exact Or.inl ⟨_, e5⟩
      · exact Or.inr e5
    · exact Or.inl ⟨r, by simpa [Ad.up, er] using hr⟩

theorem infoIntS : (Tryz.prog.info? 3).map (fun i => (i.zero, i.size, i.bytes)) = some (some (.int .i64 0), 1, 8) := by kernel_rfl

def boV : Value → Nat
  | .bool true => 1
  | _ => 0
def slLen : Value → Nat
  | .slice _ n _ => n
  | _ => 0
/-- What is left of try when a variable was taken out. -/
def tryR (f : Nat) (o : Option Nat) (s : Sv) : Option (Bool × Sv) := match o with
  | none => some (false, s)
  | some v => if s.val (2 * v + 1) = 0 then some (true, Sv.assign { s with starts := s.starts ++ [s.trail.length] } (2 * v + 1)) else Sv.tryN f s
theorem tryN_R (f : Nat) (s : Sv) : Sv.tryN (f + 1) s = tryR f s.pop.1 s.pop.2 := by
  rw [Sv.tryN]
  unfold tryR
  cases s.pop with
  | mk o s' => cases o <;> rfl

/-- Between two rounds of try. -/
def Tri (w W : World) (A : Ad) (s : Sv) (b : Bool) (s' : Sv) (o : Option Nat) (ln : Nat) : Prop :=
  ∃ (A1 : Ad) (s1 : Sv) (f : Nat), Step w W A A1 s1 ∧ Fit s1 ∧ tryR f o s1 = some (b, s') ∧ s1.n = s.n ∧ s1.starts.length = s.starts.length ∧ s1.hp.length = ln ∧ 1 ≤ ln ∧ ln ≤ 4000 ∧ (∀ v ∈ s1.hp, v ≤ s.n) ∧ (∀ v, o = some v → v ≤ s.n) ∧ ∀ r, A1.blk r = A.blk r ∧ (r ≠ .heap → A1.sp r = A.sp r)

theorem pop_facts {s : Sv} (hF : Fit s) (hhp : ∀ v ∈ s.hp, v ≤ s.n) (h1 : 1 ≤ s.hp.length) : Fit s.pop.2 ∧ s.pop.2.n = s.n ∧ s.pop.2.starts = s.starts ∧ (∀ v ∈ s.pop.2.hp, v ≤ s.n) ∧ (∀ v, s.pop.1 = some v → v ≤ s.n ∧ s.pop.2.hp.length + 1 = s.hp.length) ∧ (s.pop.1 = none → s.pop.2.hp.length = s.hp.length) ∧ 1 ≤ s.pop.2.hp.length := by
  obtain ⟨e1, e2, e3⟩ := pop_mem (s := s) (o := s.pop.1) (s' := s.pop.2) rfl hhp
  have hk : s.pop.1 = none → s.pop.2.hp.length = s.hp.length := fun e => by
    unfold Sv.pop at e ⊢
    split at e
    · next hl => rw [if_pos hl]
    · cases e
  refine ⟨?_, by rw [e1], by rw [e1], e2, e3, hk, ?_⟩
  · rw [e1]; exact ⟨hF.lv, hF.lw, hF.sgn, hF.tri, hF.on, hF.nd, hF.cls, hF.wnd, hF.wat⟩
  · unfold Sv.pop
    split
    · exact h1
    · simp; omega

set_option maxRecDepth 100000 in
set_option maxHeartbeats 1000000 in
theorem try_in (w : World) (A : Ad) (s : Sv) (h : Mem w A s) (hF : Fit s) (sb : Nat) (hsb : A.blk .search = some sb) (hhp : ∀ v ∈ s.hp, v ≤ s.n) (h1 : 1 ≤ s.hp.length) (hl4 : s.hp.length ≤ 4000) (hst : s.starts.length ≤ 1073741824) (f : Nat) (b : Bool) (s' : Sv) (hf : Sv.tryN f s = some (b, s')) :
    Calls Tryz.prog 168 #[.pointer (some ⟨sb, 0, none⟩)] w fun e w' => e = .returned (.bool b) ∧ ∃ A', Step w w' A A' s' ∧ ∀ r, r ≠ .trail → r ≠ .starts → A'.blk r = A.blk r ∧ (r ≠ .heap → A'.sp r = A.sp r) := by
  obtain ⟨ob, hb, pb, cb, hob, hhb, hpb, hcb, e0, e1, e2⟩ := h.ord
  have c6 := h.cell hsb (i := 6) rfl
  simp only [Ad.ptr, hob, Option.map_some] at c6
  cases f with
  | zero => cases hf
  | succ f =>
  rw [tryN_R] at hf
  obtain ⟨p1, p2, p3, p4, p5, p6, p7⟩ := pop_facts hF hhp h1
  have PO := pop_in w A s h ob hob hhp h1 hl4
  have hsm := h.small
  have hV : Hid (∀ (W : World) (A1 : Ad), Step w W A A1 s.pop.2 → (∀ r, A1.blk r = A.blk r ∧ (r ≠ .heap → A1.sp r = A.sp r)) → Tri w W A s b s' s.pop.1 s.pop.2.hp.length) := fun W A1 S hA => ⟨A1, _, f, S, p1, hf, p2, by rw [p3], rfl, p7, by
    cases e : s.pop.1 with
    | none => rw [p6 e]; exact hl4
    | some v => have := (p5 v e).2; omega, p4, fun v e => (p5 v e).1, hA⟩
  clear h hF hf p1 p2 p3 p4 p5 p6 p7 hhp e0 e1 e2
  generalize s.pop.2 = sp0 at *
  generalize s.pop.1 = o0 at *
  go_enter Tryz.func168, Tryz.ntmps168
  go_wp2_with (first | (go_at_call 219; refine PO.mono ?_; rintro e w3 ⟨rfl, A3, S3, hA3⟩))
  have V0 := hV.out w3 A3 S3 hA3
  clear hV S3 hA3 PO
  go_loopw [3, 4] (fun t3 t4 W => ∃ (o : Option Nat) (ln : Nat), t3 = .int .i32 ((o.getD 0 : Nat) : Int) ∧ t4 = .bool o.isSome ∧ Tri w W A s b s' o ln) (fun _ t4 W => 2 * slLen ((W.cell? ⟨ob, 1, none⟩).getD undef) + boV t4)
  case atStart => exact ⟨_, _, rfl, rfl, V0⟩
  case round =>
    obtain ⟨o, ln, rfl, rfl, A1, s1, f1, S1, F1, hR, hn1, hst1, hln, hl1, hl4', hhp1, hov, hA1⟩ := hrel
    have hsb1 : A1.blk .search = some sb := (hA1 .search).1.trans hsb
    have hob1 : A1.blk .order = some ob := (hA1 .order).1.trans hob
    cases o with
    | none =>
      simp only [tryR, Option.some.injEq, Prod.mk.injEq] at hR
      obtain ⟨rfl, rfl⟩ := hR
      have HS1 : Hid _ := S1
      have HA1 : Hid _ := hA1
      clear S1 F1 hA1 hhp1 V0
      go_wp2_with fail
      go_ret
      exact ⟨rfl, A1, HS1.out, fun r _ _ => HA1.out r⟩
    | some v =>
      have hvn : v ≤ s.n := hov v rfl
      have M1 := S1.mem
      obtain ⟨wi, hwi⟩ := M1.fix .wishes rfl
      obtain ⟨vb, hvb⟩ := M1.fix .vals rfl
      have c7 := M1.cell hsb1 (i := 7) rfl
      simp only [Ad.slv, hwi, M1.flat.2.2.2.2.2.1, List.length_nil, Nat.zero_div, Nat.add_zero, hn1] at c7
      have c0 := M1.cell hsb1 (i := 0) rfl
      simp only [Ad.slv, hvb, M1.flat.1, List.length_nil, Nat.zero_div, Nat.add_zero, hn1] at c0
      have wv := M1.cell hwi (i := v) (v := .int .i8 (-1)) (by
        show (List.replicate (s1.n + 1) _)[v]? = _
        rw [List.getElem?_replicate, if_pos (by omega)])
      have vv := M1.vcell hvb (l := 2 * v + 1) (by omega)
      have c6' := M1.cell hsb1 (i := 6) rfl
      simp only [Ad.ptr, hob1, Option.map_some] at c6'
      have IS := is_in wr v (-1) (by omega)
      have hlv : litV v (-1) = 2 * v + 1 := by unfold litV; simp
      rw [hlv] at IS
      have dv : (v : Int) < (s.n : Int) + 1 := by omega
      have dv2 : ((2 * v + 1 : Nat) : Int) < 2 * (s.n : Int) + 2 := by omega
      have htl := F1.trail_le
      rw [hn1] at htl
      generalize hlw : 2 * v + 1 = lv at *
      have HS1 : Hid _ := S1
      have HF1 : Hid _ := F1
      have HA1 : Hid _ := hA1
      have HHP : Hid _ := hhp1
      have HR : Hid _ := hR
      have HL : Hid _ := hlw
      have hgd : (((some v).getD 0 : Nat) : Int) = (v : Int) := rfl
      by_cases hv0 : s1.val lv = 0
      · have hR2 := HR.out
        simp only [tryR, HL.out, if_pos hv0, Option.some.injEq, Prod.mk.injEq] at hR2
        obtain ⟨rfl, rfl⟩ := hR2
        rw [hv0] at vv
        have M2 : Mem (wr.drewN 1) A1 s1 := M1.keep (fun _ _ => rfl)
        obtain ⟨ta, tc, t1', t2', t3, t4⟩ := startGrow M2 hsb1 s1.trail.length
        have zs : sb < wr.heap.size := M1.lt hsb1
        have t1 : wr.cell? ⟨sb, 4, none⟩ = some (.slice ta s1.starts.length tc) := t1'
        have t1a : ∀ O, ((wr.drewN 1).alloc O).cell? ⟨sb, 4, none⟩ = some (.slice ta s1.starts.length tc) := fun O => (World.cell?_of_block (a := ⟨sb, 4, none⟩) (Below.heap_alloc _ O sb zs)).trans t1'
        obtain ⟨la, lc, hts⟩ := slv_form M1 (r := .trail) rfl
        have c3 := M1.cell hsb1 (i := 3) rfl
        rw [show A1.slv .trail s1.trail.length 1 = .slice la s1.trail.length lc from hts] at c3
        have HT : Hid _ := t4
        have OW : Hid _ := t3
        have hM1 : Hid _ := M1
        obtain ⟨i0, hi0, hz0, hz1, hz2⟩ := info_parts infoIntS
        have hsl : s1.starts.length ≤ 1073741824 := by rw [hst1]; exact hst
        have HV0 : Hid _ := hv0
        have HST1 : Hid _ := hst1
        clear hst1
        clear M1 M2 S1 F1 hA1 hhp1 hR V0 hlw t1' t2' t3 t4 hts HR hv0
        generalize hsw : s1.starts.length = sl at *
        have HSW : Hid _ := hsw
        clear hsw
        go_wp2_with (first | (go_at_call 131; refine IS.mono ?_; rintro e w4 ⟨rfl, rfl⟩))
        refine wp_region_noPanic ?_
        go_region_law (first | (refine step_append_here rfl (.tmp 44) (.tmp 50) 39 rfl 0 3 i0 _ 1 8 Tryz.underlying39 hi0 hz0 hz1 hz2 rfl (by decide) (.slice ta sl tc) sl (s1.starts.map i64) (by (try simp only [Act.put, List.getElem_toArray, List.getElem_cons_succ, List.getElem_cons_zero, List.setIfInBounds_toArray, List.set_cons_succ, List.set_cons_zero]); first | rfl | (simp [Act.eval]; done)) (by exact World.ownsRow.alloc OW.out _) ⟨wr.heap.size, 0, none⟩ 1 1 [.int .i64 (s1.trail.length : Int)] (by (try simp only [Act.put, List.getElem_toArray, List.getElem_cons_succ, List.getElem_cons_zero, List.setIfInBounds_toArray, List.set_cons_succ, List.set_cons_zero]); first | rfl | (simp [Act.eval]; done)) rfl (cell_one1 _ _ _) (by simp [Value.oneCell']) (by unfold maxLen; omega) (by omega) (by simp) ?_; intro v8 w8 hown8 hgrow8 hloc8; obtain ⟨d1, g1, ⟨b8, k8, hv8⟩, hoth, A', ST, hsame⟩ := HT.out w8 _ v8 hown8 hgrow8 hloc8; subst hv8; have HF : Hid (_ ∧ _) := And.intro ST hsame; clear ST hsame hoth hown8 hgrow8 hloc8))
        all_goals
          try simp only [Act.put, List.getElem_toArray, List.getElem_cons_succ, List.getElem_cons_zero, List.setIfInBounds_toArray, List.set_cons_succ, List.set_cons_zero]
          refine NoPanic.normal ?_
          dsimp only [Exit.then]
          apply_assumption
          have S5 := (HS1.out.trans (Step.drew hM1.out 1)).trans HF.out.1
          have hsb5 : A'.blk .search = some sb := (HF.out.2 .search (by intro e; cases e)).1.trans hsb1
          have AS := assign_in _ A' _ HF.out.1.mem sb hsb5 lv (by show lv < 2 * s1.n + 2; rw [hn1]; omega) (by show s1.trail.length ≤ _; omega) none
          unfold i32 at AS
          have HS5 : Hid _ := S5
          clear S5 d1 g1
          go_wp2_with (first | (go_at_call 161; refine AS.mono ?_; rintro e w9 ⟨rfl, A9, S9, hA9⟩))
          go_ret
          refine ⟨rfl, A9, ?_, fun r h1 h2 => ?_⟩
          · exact HS5.out.trans S9
          · have q1 := hA9 r h1
            have q2 := HF.out.2 r h2
            have q3 := HA1.out r
            exact ⟨q1.1.trans (q2.1.trans q3.1), fun hr => q1.2.trans (q2.2.trans (q3.2 hr))⟩
      · have dv0 : (s1.val lv == 0) = false := by simpa using hv0
        have hR2 := HR.out
        simp only [tryR, HL.out, if_neg hv0] at hR2
        cases f1 with
        | zero => cases hR2
        | succ f2 =>
        rw [tryN_R] at hR2
        have hhp2 : ∀ v ∈ s1.hp, v ≤ s1.n := by rw [hn1]; exact hhp1
        obtain ⟨p1, p2, p3, p4, p5, p6, p7⟩ := pop_facts F1 hhp2 (by omega)
        have PO := pop_in wr A1 s1 M1 ob hob1 hhp2 (by omega) (by omega)
        have hcell1 : slLen ((wr.cell? ⟨ob, 1, none⟩).getD undef) = ln := by
          rw [M1.cell hob1 (i := 1) rfl]
          simp only [Option.getD_some, Ad.slv]
          obtain ⟨hb', hhb'⟩ := M1.fix .heap rfl
          rw [hhb']
          simp only [slLen]
          exact hln
        have HC1 : Hid _ := hcell1
        have HP : Hid (_ ∧ _ ∧ _ ∧ _ ∧ _ ∧ _ ∧ _) := ⟨p1, p2, p3, p4, p5, p6, p7⟩
        have HR2 : Hid _ := hR2
        have hM1 : Hid _ := M1
        clear M1 S1 F1 hA1 hhp1 hR hR2 p1 p2 p3 p4 p5 p6 p7 hhp2 hcell1 V0 hlw
        generalize s1.val lv = vl at *
        generalize s1.pop.1 = o1 at *
        generalize s1.pop.2 = s2 at *
        go_wp2_with (first | (go_at_call 219; refine PO.mono ?_; rintro e w4 ⟨rfl, A4, S4, hA4⟩) | (go_at_call 131; refine IS.mono ?_; rintro e w4 ⟨rfl, rfl⟩))
        obtain ⟨p1, p2, p3, p4, p5, p6, p7⟩ := HP.out
        have hob4 : A4.blk .order = some ob := (hA4 .order).1.trans hob1
        have hlen4 : slLen ((w4.cell? ⟨ob, 1, none⟩).getD undef) = s2.hp.length := by
          rw [S4.mem.cell hob4 (i := 1) rfl]
          simp only [Option.getD_some, Ad.slv]
          obtain ⟨hb', hhb'⟩ := S4.mem.fix .heap rfl
          rw [hhb']
          rfl
        have hle : s2.hp.length ≤ 4000 := by
          cases o1 with
          | none => have := p6 rfl; omega
          | some v => have := (p5 v rfl).2; omega
        refine ⟨⟨o1, s2.hp.length, rfl, rfl, A4, s2, f2, HS1.out.trans S4, p1, HR2.out, p2.trans hn1, by rw [p3]; exact hst1, rfl, p7, hle, by rw [← hn1]; exact p4, fun v e => by rw [← hn1]; exact (p5 v e).1, fun r => ⟨(hA4 r).1.trans (HA1.out r).1, fun hr => ((hA4 r).2 hr).trans ((HA1.out r).2 hr)⟩⟩, ?_⟩
        rw [hlen4, HC1.out]
        cases o1 with
        | none => have := p6 rfl; simp only [Option.isSome_none, Option.isSome_some, boV]; omega
        | some v => have := (p5 v rfl).2; simp only [Option.isSome_some, boV]; omega

end Go.Proofs.YtlehlgipbhfioaaGreat

namespace Go.Proofs.YtlehlgipbhfioaaGreat
open Go.RowKit Go.Maps

/-- What a run keeps. -/
structure Rn (s : Sv) : Prop where
  fit : Fit s
  hp : ∀ v ∈ s.hp, v ≤ s.n
  one : 1 ≤ s.hp.length
  all : s.starts.length + s.hp.length ≤ 4000

theorem tryN_keeps : ∀ (f : Nat) (s : Sv) (b : Bool) (s' : Sv), Rn s → Sv.tryN f s = some (b, s') → Rn s' ∧ s'.n = s.n ∧ s'.cl.length = s.cl.length ∧ s'.fin = s.fin ∧ (b = true → s'.hp.length < s.hp.length) ∧ s'.hp.length ≤ s.hp.length
  | 0, _, _, _, _, h => by cases h
  | f + 1, s, b, s', hR, h => by
    obtain ⟨p1, p2, p3, p4, p5, p6, p7⟩ := pop_facts hR.fit hR.hp hR.one
    have hcl : s.pop.2.cl.length = s.cl.length := by unfold Sv.pop; split <;> rfl
    have hfi : s.pop.2.fin = s.fin := by unfold Sv.pop; split <;> rfl
    have hall := hR.all
    rw [tryN_R] at h
    generalize s.pop.1 = o at *
    generalize s.pop.2 = s1 at *
    cases o with
    | none =>
      simp only [tryR, Option.some.injEq, Prod.mk.injEq] at h
      obtain ⟨rfl, rfl⟩ := h
      have := p6 rfl
      exact ⟨⟨p1, by rw [p2]; exact p4, p7, by rw [p3]; omega⟩, p2, hcl, hfi, fun e => (by cases e), by omega⟩
    | some v =>
      obtain ⟨hv, hl⟩ := p5 v rfl
      simp only [tryR] at h
      split at h
      · next h0 =>
        simp only [Option.some.injEq, Prod.mk.injEq] at h
        obtain ⟨rfl, rfl⟩ := h
        have hF2 : Fit { s1 with starts := s1.starts ++ [s1.trail.length] } := ⟨p1.lv, p1.lw, p1.sgn, p1.tri, p1.on, p1.nd, p1.cls, p1.wnd, p1.wat⟩
        refine ⟨⟨hF2.assign (by show 2 * v + 1 < 2 * s1.n + 2; omega) h0, by show ∀ v ∈ s1.hp, v ≤ s1.n; rw [p2]; exact p4, p7, ?_⟩, p2, hcl, hfi, fun _ => by show s1.hp.length < _; omega, by show s1.hp.length ≤ _; omega⟩
        show (s1.starts ++ [s1.trail.length]).length + s1.hp.length ≤ 4000
        rw [p3]
        simp; omega
      · have hR1 : Rn s1 := ⟨p1, by rw [p2]; exact p4, p7, by rw [p3]; omega⟩
        obtain ⟨q1, q2, q3, q4, q5, q6⟩ := tryN_keeps f s1 b s' hR1 h
        exact ⟨q1, q2.trans p2, q3.trans hcl, q4.trans hfi, fun e => by have := q5 e; omega, by omega⟩

theorem follow_sim : ∀ (f : Nat) (s : Sv) (o : Option Nat) (s' : Sv), Sv.follow f s = some (o, s') → s'.n = s.n ∧ s'.starts = s.starts ∧ s'.hp = s.hp ∧ s'.fin = s.fin ∧ s'.cl.length = s.cl.length
  | 0, _, _, _, h => by cases h
  | f + 1, s, o, s', h => by
    rw [Sv.follow] at h
    cases hl : s.trail[s.seen]? with
    | none => rw [hl] at h; cases h; exact ⟨rfl, rfl, rfl, rfl, rfl⟩
    | some l =>
      rw [hl] at h
      obtain ⟨h1, _, h3, h4, h5, h6⟩ := Sim.visit { s with seen := s.seen + 1 } (opp l)
      cases hv : Sv.visit { s with seen := s.seen + 1 } (opp l) with
      | mk vo s2 =>
        rw [hv] at h1 h3 h4 h5 h6
        simp only [hv] at h
        cases vo with
        | some c => cases h; exact ⟨h1, h3, h4, h5, h6⟩
        | none =>
          obtain ⟨q1, q2, q3, q4, q5⟩ := follow_sim f s2 o s' h
          exact ⟨q1.trans h1, q2.trans h3, q3.trans h4, q4.trans h5, q5.trans h6⟩

def nilV : Value → Nat
  | .pointer none => 1
  | _ => 0

/-- Between two rounds of run. -/
def Run1 (w W : World) (A : Ad) (s : Sv) (b : Bool) (s' : Sv) : Prop :=
  ∃ (A1 : Ad) (s1 : Sv) (f : Nat), Step w W A A1 s1 ∧ Rn s1 ∧ Sv.run f s1 = some (b, s') ∧ s1.n = s.n ∧ s1.cl.length = s.cl.length ∧ ∀ r, r ≠ .trail → r ≠ .starts → (∀ l, r ≠ .win l) → A1.blk r = A.blk r

theorem ocell {W : World} {A : Ad} {s : Sv} (h : Mem W A s) {ob : Nat} (hob : A.blk .order = some ob) : slLen ((W.cell? ⟨ob, 1, none⟩).getD undef) = s.hp.length := by
  rw [h.cell hob (i := 1) rfl]
  simp only [Option.getD_some, Ad.slv]
  obtain ⟨hb', hhb'⟩ := h.fix .heap rfl
  rw [hhb']
  rfl

set_option maxRecDepth 100000 in
set_option maxHeartbeats 1000000 in
theorem run_in (w : World) (A : Ad) (s : Sv) (h : Mem w A s) (hR : Rn s) (sb : Nat) (hsb : A.blk .search = some sb) (hcl : s.cl.length ≤ 4398046511100) (f : Nat) (b : Bool) (s' : Sv) (hf : Sv.run f s = some (b, s')) :
    Calls Tryz.prog 128 #[.pointer (some ⟨sb, 0, none⟩), .int .i64 64] w fun e w' => e = .returned (.int .i8 (if b then 1 else -1)) ∧ ∃ A', Step w w' A A' s' ∧ ∀ r, r ≠ .trail → r ≠ .starts → (∀ l, r ≠ .win l) → A'.blk r = A.blk r := by
  have V0 : Run1 w w A s b s' := ⟨A, s, f, ⟨h, Kept.refl _ _, fun _ hk => Or.inl hk⟩, hR, hf, rfl, rfl, fun _ _ _ _ => rfl⟩
  obtain ⟨ob, hob⟩ := h.fix .order rfl
  have hsm := h.small
  clear h hR hf
  go_enter Tryz.func128, Tryz.ntmps128
  go_wp2_with fail
  go_loopw [1] (fun t1 W => t1 = .int .i64 64 ∧ Run1 w W A s b s') (fun _ W => 2 * slLen ((W.cell? ⟨ob, 1, none⟩).getD undef) + nilV ((W.cell? ⟨sb, 13, none⟩).getD undef))
  case atStart => exact ⟨rfl, V0⟩
  case round =>
    obtain ⟨rfl, A1, s1, f1, S1, R1, hf1, hn1, hcl1, hA1⟩ := hrel
    have hsb1 : A1.blk .search = some sb := (hA1 .search (by decide) (by decide) (by intro l e; cases e)).trans hsb
    have hob1 : A1.blk .order = some ob := (hA1 .order (by decide) (by decide) (by intro l e; cases e)).trans hob
    have c13 := S1.mem.cell hsb1 (i := 13) rfl
    cases f1 with
    | zero => cases hf1
    | succ f1 =>
    rw [Sv.run] at hf1
    cases hfin : s1.fin with
    | true =>
      obtain ⟨p, hp⟩ := S1.mem.endk
      simp only [hfin, if_true, hp] at c13
      simp only [hfin, if_true, Option.some.injEq, Prod.mk.injEq] at hf1
      obtain ⟨rfl, rfl⟩ := hf1
      have HS1 : Hid _ := S1
      have HA1 : Hid _ := hA1
      clear S1 R1 hA1 V0
      go_wp2_with fail
      go_ret
      exact ⟨rfl, A1, HS1.out, HA1.out⟩
    | false =>
      simp only [hfin, Bool.false_eq_true, if_false] at c13 hf1
      cases hfo : Sv.follow (2 * s1.n + 3) s1 with
      | none => rw [hfo] at hf1; cases hf1
      | some os =>
      obtain ⟨o, s2⟩ := os
      rw [hfo] at hf1
      have FO := follow_in wr A1 s1 S1.mem R1.fit sb hsb1 (by rw [hcl1]; exact hcl) _ o s2 hfo
      obtain ⟨g1, g2, g3, g4, g5⟩ := follow_sim _ _ _ _ hfo
      have hms : 2 * slLen ((wr.cell? ⟨ob, 1, none⟩).getD undef) + nilV ((wr.cell? ⟨sb, 13, none⟩).getD undef) = 2 * s1.hp.length + 1 := by
        rw [ocell S1.mem hob1, c13]; rfl
      have HMS : Hid _ := hms
      have HS1 : Hid _ := S1
      have HA1 : Hid _ := hA1
      have HR1 : Hid _ := R1
      have hcls := S1.mem.cls
      have HCL : Hid _ := hcls
      clear S1 hA1 V0 hfo R1 hms hcls
      cases o with
      | some c =>
        simp only at hf1
        by_cases hst : s2.starts.length = 0
        · rw [if_pos hst] at hf1
          have HF1 : Hid _ := hf1
          have hrn2 : Hid (∀ F : Fit s2, Rn { s2 with fin := true }) := fun F => ⟨⟨F.lv, F.lw, F.sgn, F.tri, F.on, F.nd, F.cls, F.wnd, F.wat⟩, by show ∀ v ∈ s2.hp, v ≤ s2.n; rw [g3, g1]; exact HR1.out.hp, by show 1 ≤ s2.hp.length; rw [g3]; exact HR1.out.one, by show s2.starts.length + s2.hp.length ≤ 4000; rw [g2, g3]; exact HR1.out.all⟩
          clear hf1
          go_wp2_with (first | (go_at_call 163; refine FO.mono ?_; rintro e w3 ⟨rfl, hcc, A3, S3, F3, hA3⟩; refine Aside.out ?_))
          delta Aside
          obtain ⟨cb, hcb⟩ := (HCL.out c).2 (hcc c rfl)
          have hopt : A1.opt (some c) = .pointer (some ⟨cb, 0, none⟩) := by simp [Ad.opt, Ad.ptr, hcb]
          rw [hopt]
          have hsb3 : A3.blk .search = some sb := (hA3 .search (by decide) (by intro l e; cases e)).1.trans hsb1
          have LE := level_in w3 A3 s2 S3.mem sb hsb3
          have FI := finish_in w3 A3 s2 S3.mem sb hsb3 (.pointer (some ⟨cb, 0, none⟩))
          rw [hst] at LE
          have LE : Calls Tryz.prog 164 #[.pointer (some ⟨sb, 0, none⟩)] w3 fun e w' => e = .returned (.int .i64 0) ∧ w3 = w' := LE
          have HS3 : Hid _ := S3
          have HF3 : Hid _ := F3
          have HA3 : Hid _ := hA3
          clear S3 F3 hA3 hcc FO
          apply_assumption
          go_wp2_with (first | (go_at_call 164; refine LE.mono ?_; rintro e w4 ⟨rfl, rfl⟩) | (go_at_call 160; refine FI.mono ?_; rintro e w4 ⟨rfl, A4, S4, hA4⟩))
          have hob4 : A4.blk .order = some ob := (hA4 .order).1.trans ((HA3.out .order (by decide) (by intro l e; cases e)).1.trans hob1)
          have hsb4 : A4.blk .search = some sb := (hA4 .search).1.trans hsb3
          refine ⟨⟨rfl, A4, _, f1, (HS1.out.trans HS3.out).trans S4, hrn2.out HF3.out, HF1.out, g1.trans hn1, g5.trans hcl1, fun r h1 h2 h3 => (hA4 r).1.trans ((HA3.out r h1 h3).1.trans (HA1.out r h1 h2 h3))⟩, ?_⟩
          obtain ⟨p, hp⟩ := S4.mem.endk
          rw [HMS.out, ocell S4.mem hob4, S4.mem.cell hsb4 (i := 13) rfl]
          simp only [if_true, hp, Option.getD_some, nilV, g3]
          omega
        · rw [if_neg hst] at hf1
          cases hf1
      | none =>
        simp only at hf1
        have hR2 : Hid (∀ F : Fit s2, Rn s2) := fun F => ⟨F, by rw [g3, g1]; exact HR1.out.hp, by rw [g3]; exact HR1.out.one, by rw [g2, g3]; exact HR1.out.all⟩
        cases htr : Sv.tryN (s2.hp.length + 1) s2 with
        | none => rw [htr] at hf1; cases hf1
        | some bs =>
        obtain ⟨tb, s3⟩ := bs
        rw [htr] at hf1
        have HTR : Hid _ := htr
        have HF1 : Hid _ := hf1
        clear hf1 htr
        go_wp2_with (first | (go_at_call 163; refine FO.mono ?_; rintro e w3 ⟨rfl, hcc, A3, S3, F3, hA3⟩; refine Aside.out ?_))
        delta Aside
        have hsb3 : A3.blk .search = some sb := (hA3 .search (by decide) (by intro l e; cases e)).1.trans hsb1
        have R2 := hR2.out F3
        have TR := try_in w3 A3 s2 S3.mem F3 sb hsb3 R2.hp R2.one (by have := R2.all; omega) (by have := R2.all; omega) _ tb s3 HTR.out
        obtain ⟨k1, k2, k3, k4, k5, k6⟩ := tryN_keeps _ _ _ _ R2 HTR.out
        have HS3 : Hid _ := S3
        have HA3 : Hid _ := hA3
        have HK1 : Hid _ := k1
        clear S3 F3 hA3 hcc FO R2 k1
        have hopt : A1.opt none = .pointer none := rfl
        rw [hopt]
        clear hopt
        cases tb with
        | false =>
          have hf2 := HF1.out
          simp only [Option.some.injEq, Prod.mk.injEq] at hf2
          obtain ⟨rfl, rfl⟩ := hf2
          apply_assumption
          go_wp2_with (first | (go_at_call 168; refine TR.mono ?_; rintro e w4 ⟨rfl, A4, S4, hA4⟩))
          go_ret
          exact ⟨rfl, A4, (HS1.out.trans HS3.out).trans S4, fun r h1 h2 h3 => (hA4 r h1 h2).1.trans ((HA3.out r h1 h3).1.trans (HA1.out r h1 h2 h3))⟩
        | true =>
          apply_assumption
          go_wp2_with (first | (go_at_call 168; refine TR.mono ?_; rintro e w4 ⟨rfl, A4, S4, hA4⟩))
          have hob4 : A4.blk .order = some ob := (hA4 .order (by decide) (by decide)).1.trans ((HA3.out .order (by decide) (by intro l e; cases e)).1.trans hob1)
          have hsb4 : A4.blk .search = some sb := (hA4 .search (by decide) (by decide)).1.trans hsb3
          refine ⟨⟨rfl, A4, s3, f1, (HS1.out.trans HS3.out).trans S4, HK1.out, HF1.out, k2.trans (g1.trans hn1), k3.trans (g5.trans hcl1), fun r h1 h2 h3 => (hA4 r h1 h2).1.trans ((HA3.out r h1 h3).1.trans (HA1.out r h1 h2 h3))⟩, ?_⟩
          have hlt := k5 (by trivial)
          rw [HMS.out, ocell S4.mem hob4, S4.mem.cell hsb4 (i := 13) rfl]
          simp only [k4, g4, hfin, Bool.false_eq_true, if_false, Option.getD_some, nilV]
          rw [g3] at hlt
          omega


set_option maxRecDepth 100000 in
set_option maxHeartbeats 400000 in
theorem length_in (w : World) : Calls Tryz.prog 129 #[.int .i64 1] w fun e w' => e = .returned (.int .i64 1) ∧ w = w' := by
  go_enter Tryz.func129, Tryz.ntmps129
  go_wp2_with fail
  go_loopw [3] (fun t3 W => ∃ k : Int, (k = 1 ∨ k = 2) ∧ t3 = .int .i64 k ∧ W = w) (fun t3 _ => 2 - (intOf t3).toNat)
  case atStart => exact ⟨1, Or.inl rfl, rfl, rfl⟩
  case round =>
    obtain ⟨k, hk, rfl, rfl⟩ := hrel
    rcases hk with rfl | rfl
    · go_wp2_with fail
      exact ⟨⟨2, Or.inr rfl, by simp⟩, by simp [intOf]⟩
    · obtain ⟨w0, hw0⟩ : ∃ w0, w0 = wr := ⟨_, rfl⟩
      subst hw0
      go_wp2_with fail
      go_loopw [0, 3] (fun t0 t3 W => t0 = .int .i64 1 ∧ t3 = .int .i64 2 ∧ W = w0) (fun _ _ _ => 0)
      case atStart => exact ⟨rfl, rfl, rfl⟩
      case round =>
        obtain ⟨rfl, rfl, rfl⟩ := hrel
        go_wp2_with fail
        go_ret
        exact ⟨rfl, rfl⟩

set_option maxRecDepth 100000 in
set_option maxHeartbeats 400000 in
theorem solve_in (w : World) (A : Ad) (s : Sv) (h : Mem w A s) (hR : Rn s) (sb : Nat) (hsb : A.blk .search = some sb) (hcl : s.cl.length ≤ 4398046511100) (f : Nat) (b : Bool) (s' : Sv) (hf : Sv.run f s = some (b, s')) :
    Calls Tryz.prog 86 #[.pointer (some ⟨sb, 0, none⟩)] w fun e w' => e = .returned (.bool b) ∧ ∃ A', Step w w' A A' s' ∧ ∀ r, r ≠ .trail → r ≠ .starts → (∀ l, r ≠ .win l) → A'.blk r = A.blk r := by
  have RU := run_in w A s h hR sb hsb hcl f b s' hf
  have LN := length_in w
  clear h hR hf
  go_enter Tryz.func86, Tryz.ntmps86
  go_wp2_with fail
  go_loopw [3] (fun t3 W => t3 = .int .i64 1 ∧ W = w) (fun _ _ => 0)
  case atStart => exact ⟨rfl, rfl⟩
  case round =>
    obtain ⟨rfl, rfl⟩ := hrel
    cases b with
    | true =>
      go_wp2_with (first | (go_at_call 128; refine RU.mono ?_; rintro e w3 ⟨rfl, A3, S3, hA3⟩) | (go_at_call 129; refine LN.mono ?_; rintro e w3 ⟨rfl, rfl⟩))
      go_ret
      exact ⟨rfl, A3, S3, hA3⟩
    | false =>
      go_wp2_with (first | (go_at_call 128; refine RU.mono ?_; rintro e w3 ⟨rfl, A3, S3, hA3⟩) | (go_at_call 129; refine LN.mono ?_; rintro e w3 ⟨rfl, rfl⟩))
      go_ret
      exact ⟨rfl, A3, S3, hA3⟩

end Go.Proofs.YtlehlgipbhfioaaGreat
