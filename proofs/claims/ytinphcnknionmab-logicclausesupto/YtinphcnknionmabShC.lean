/- Package logic: Show, the walk. -/
import Derived.Test.YtinphcnknionmabP20
namespace Go.Proofs.Ytinphcnknionmab
open Go.RowKit Go.Shelf

attribute [local go_sem] Oper.semAt_some

theorem region_roundH {l n id : Nat} {Q : Exit → Act → World → Prop} {ops : Array Oper} {a : Act} {w : World} (S : World → Prop) (hno : ops.any (fun o => isDefer o.op) = false) (hQ : ¬ LetsOut Q) (h0 : S w.drew) (h : S w.drew → wpAnyH Try.prog .any ops Q S ops.size (Array.replicate ops.size false) a w.drew) :
    (Code.region id ops true).wpIn (Fence.wide.inRound l) n Try.prog Q a w :=
  region_round hno hQ (wpAny_of_held _ _ _ _ (h h0))

/-- What Show makes before it ranges. -/
def shW (w : World) (p : Nat) (op x y : Int) (kv : Value) : World :=
  ((((w.alloc (.cells #[.pointer (some ⟨p, 0, none⟩)] 57)).alloc (.cells #[.int .i64 op, .int .i64 x, .int .i64 y, kv] 31)).alloc (.cells #[.pointer none, .slice none 0 0] 92)).alloc (.cells #[.string ⟨#[61]⟩] 9)).alloc (.cells #[.pointer (some ⟨w.heap.size + 1, 0, none⟩)] 53)

theorem one_rowS (w : World) (v : Value) (ty : TypeId) : (w.alloc (.cells #[v] ty)).rowIs w.heap.size ty 1 (fun _ => v) := World.rowIs.congr (made_row w #[v] ty) (fun j hj => by
  have : j = 0 := by simp at hj; omega
  subst this; rfl)
theorem row_allocS {w : World} {b n : Nat} {f : Nat → Value} {ty : TypeId} (o : Obj) (h : w.rowIs b ty n f) : (w.alloc o).rowIs b ty n f := h.of_block (Below.heap_alloc w o b (World.rowIs.lt h))

theorem shW_at (w : World) (p : Nat) (op x y : Int) (kv : Value) (kids : List Lf) (hk : KidsIn kv kids) (hks : ∀ k ∈ kids, Here w k) :
    ShAt w (shW w p op x y kv) (.mk (w.heap.size + 1) 0 op x y kv kids) p ([], [61]) ∧ (shW w p op x y kv).rowIs (w.heap.size + 4) 53 1 (fun _ => .pointer (some ⟨w.heap.size + 1, 0, none⟩)) ∧ (shW w p op x y kv).heap.size = w.heap.size + 5 := by
  have hz1 : (w.alloc (.cells #[.pointer (some ⟨p, 0, none⟩)] 57)).heap.size = w.heap.size + 1 := by simp
  have hz2 : ((w.alloc (.cells #[.pointer (some ⟨p, 0, none⟩)] 57)).alloc (.cells #[.int .i64 op, .int .i64 x, .int .i64 y, kv] 31)).heap.size = w.heap.size + 2 := by simp
  have hz3 : (((w.alloc (.cells #[.pointer (some ⟨p, 0, none⟩)] 57)).alloc (.cells #[.int .i64 op, .int .i64 x, .int .i64 y, kv] 31)).alloc (.cells #[.pointer none, .slice none 0 0] 92)).heap.size = w.heap.size + 3 := by simp
  have hz4 : ((((w.alloc (.cells #[.pointer (some ⟨p, 0, none⟩)] 57)).alloc (.cells #[.int .i64 op, .int .i64 x, .int .i64 y, kv] 31)).alloc (.cells #[.pointer none, .slice none 0 0] 92)).alloc (.cells #[.string ⟨#[61]⟩] 9)).heap.size = w.heap.size + 4 := by simp
  have hB : Below w.heap.size w (shW w p op x y kv) := (((((Below.refl _ w).alloc (Nat.le_refl _) _).alloc (by simp) _).alloc (by simp; omega) _).alloc (by simp; omega) _).alloc (by simp; omega) _
  have K : FKeepA (fun k => k < w.heap.size) w (shW w p op x y kv) := fun k _ _ hlt hk => (hB.block k hlt).trans hk
  refine ⟨⟨hB, LayA.mk trivial ?_ hk (fun k hkk => ?_), ?_, ?_, ?_⟩, ?_, by simp [shW]⟩
  · refine ⟨#[.int .i64 op, .int .i64 x, .int .i64 y, kv], (0, 0), ?_, rfl, rfl, rfl, rfl⟩
    unfold shW
    rw [Below.heap_alloc _ _ _ (by simp), Below.heap_alloc _ _ _ (by simp), Below.heap_alloc _ _ _ (by simp), ← hz1]
    exact World.alloc_heap_new _ _
  · exact ((hks k hkk).lt.mono (fun _ h => h.2)).keep K |>.mono (fun _ _ => trivial)
  · exact row_allocS _ (row_allocS _ (row_allocS _ (row_allocS _ (one_rowS w (.pointer (some ⟨p, 0, none⟩)) 57))))
  · have h0 := made_builder ((w.alloc (.cells #[.pointer (some ⟨p, 0, none⟩)] 57)).alloc (.cells #[.int .i64 op, .int .i64 x, .int .i64 y, kv] 31))
    rw [hz2] at h0
    have h1 : Bld (((w.alloc (.cells #[.pointer (some ⟨p, 0, none⟩)] 57)).alloc (.cells #[.int .i64 op, .int .i64 x, .int .i64 y, kv] 31)).alloc (.cells #[.pointer none, .slice none 0 0] 92)) w.heap.size (w.heap.size + 2) [] := by
      refine Or.inl ⟨by omega, .slice none 0 0, ?_, ⟨by simp, Or.inl ⟨rfl, rfl⟩⟩, by simp [Value.ownBlock]⟩
      rw [← hz2]
      exact World.alloc_heap_new _ _
    refine bld_keep h1 (fun k c ty fz hk _ => ?_)
    have hlt := (Array.getElem?_eq_some_iff.1 hk).1
    unfold shW
    rw [Below.heap_alloc _ _ _ (by simp at hlt ⊢; omega), Below.heap_alloc _ _ _ hlt]
    exact hk
  · exact row_allocS _ (hz3 ▸ one_rowS _ (.string ⟨#[61]⟩) 9)
  · exact hz4 ▸ one_rowS _ (.pointer (some ⟨w.heap.size + 1, 0, none⟩)) 53

set_option maxRecDepth 100000 in
set_option maxHeartbeats 6000000 in
theorem lshow_in (w : World) (base p : Nat) (ev : Value) (nb fb : Nat) (l : List Tm) (hbk : Bk w base p ev nb fb l) (hs : Hs l) (op x y : Int) (kv : Value) (kids : List Lf) (hk : KidsIn kv kids) (hks : ∀ k ∈ kids, Here w k)
    (hN : (wk (.mk (w.heap.size + 1) 0 op x y kv kids) 0).length * 16 ≤ 140737488355328) (hL : ∀ i, ((shG l ((wk (.mk (w.heap.size + 1) 0 op x y kv kids) 0).take i)).1).length ≤ 140737488355328) :
    Calls Try.prog 26 #[.pointer (some ⟨p, 0, none⟩), .agg #[.int .i64 op, .int .i64 x, .int .i64 y, kv]] w fun e w' => e = .returned (.string (ofB (shG l (wk (.mk (w.heap.size + 1) 0 op x y kv kids) 0)).1)) ∧ Below w.heap.size w w' := by
  obtain ⟨F3, b3, hz3⟩ := shW_at w p op x y kv kids hk hks
  obtain ⟨t, ht⟩ : ∃ t, t = Lf.mk (w.heap.size + 1) 0 op x y kv kids := ⟨_, rfl⟩
  rw [← ht] at F3 hN hL ⊢
  have hb3 : (shW w p op x y kv).rowIs (w.heap.size + 4) 53 1 (fun _ => .pointer (some ⟨t.b, t.o, none⟩)) := by rw [ht]; exact b3
  clear ht b3
  obtain ⟨ka, kc, rfl, hk2⟩ := hk
  refine (callsIn_wide (n := 9)).1 ?_
  refine callsIn_of_wp_marks Try.func26 rfl trivial ?_ rfl
  simp only [Try.ntmps26, List.size_toArray, List.length_cons, List.length_nil, Nat.reduceAdd, Nat.reduceSub, Array.replicate_succ, Array.replicate_zero, List.push_toArray, List.append_toArray, List.nil_append, List.cons_append]
  gi_wp2_with (first | (refine ⟨trivial, ?_⟩; gi_at_call 37; refine (callsIn_wide.2 (steps_in _ _)).mono ?_; rintro e w5 ⟨rfl, rfl⟩) | (gi_at_call 37; refine (callsIn_wide.2 (steps_in _ _)).mono ?_; rintro e w5 ⟨rfl, rfl⟩))
  unfold shW at F3 hb3 hz3
  generalize (((((w.alloc (Obj.cells #[.pointer (some ⟨p, 0, none⟩)] 57)).alloc (Obj.cells #[.int .i64 op, .int .i64 x, .int .i64 y, .slice ka kids.length kc] 31)).alloc (Obj.cells #[.pointer none, .slice none 0 0] 92)).alloc (Obj.cells #[.string ⟨#[61]⟩] 9)).alloc (Obj.cells #[.pointer (some ⟨w.heap.size + 1, 0, none⟩)] 53)) = w3 at F3 hb3 hz3 ⊢
  rw [show w.heap.size + 1 + 1 + 1 + 1 = w.heap.size + 4 from rfl, show w.heap.size + 1 + 1 + 1 = w.heap.size + 3 from rfl, show w.heap.size + 1 + 1 = w.heap.size + 2 from rfl]
  clear hks hk2
  have hlow := hbk.low
  have HB : Hid (Bk w base p ev nb fb l ∧ Hs l) := And.intro hbk hs
  clear hbk hs
  refine rangeT (by decide : 1 ≤ 9) (gf := 52) (lb := #[.pointer (some ⟨w.heap.size + 4, 0, none⟩)]) rfl (enters_of Try.func52 (by kernel_rfl) rfl) (steps1_in 8 (by decide) (w.heap.size + 4) t w3 hb3 F3.here hN) (Below.refl _ _) (fun _ => rfl)
    (fun i W => ShAt w W t p (shG l ((wk t 0).take i)))
    ?hI ?h0 (fun z => { tmps := #[.pointer (some ⟨p, 0, none⟩), .agg #[.int .i64 op, .int .i64 x, .int .i64 y, .slice ka kids.length kc], .pointer (some ⟨w.heap.size, 0, none⟩), .pointer (some ⟨w.heap.size + 1, 0, none⟩), .string ⟨#[]⟩, .pointer (some ⟨w.heap.size + 2, 0, none⟩), .pointer (some ⟨w.heap.size + 3, 0, none⟩), .pointer (some ⟨z.1.b, z.1.o, none⟩), .int .i64 (z.2 : Int), .func (.func 52) #[] #[.pointer (some ⟨w.heap.size + 4, 0, none⟩)], .pointer (some ⟨z.1.b, z.1.o, none⟩), .int .i64 (z.2 : Int), undef, undef, undef, undef, undef, undef, undef, undef, undef, undef, undef, undef, undef, undef, undef, undef, undef, undef, undef, undef, undef, undef, undef, undef, undef, undef, undef, undef, undef, undef, undef, undef, undef, undef, undef, undef], defers := [] }) ?assign ?body ?done
  case hI =>
    rintro i A B h hO
    exact h.ow hO (by omega)
  case h0 => exact F3
  case assign =>
    intro l2 z W1 K hK
    unfold encS
    gi_wp2
    exact hK
  case body =>
    rintro l2 i ⟨z, d⟩ W1 hx hw1 h
    have hst : shG l ((wk t 0).take (i + 1)) = shS l (shG l ((wk t 0).take i)) (z, d) := by
      rw [List.take_add_one, hx]
      unfold shG
      rw [List.foldl_append]
      rfl
    have hlen := hL (i + 1)
    rw [hst] at hlen ⊢
    have hzh : Here W1 z := (wk_here t 0 h.here (Nat.zero_le _) _ (List.mem_of_getElem? hx)).1
    clear hst hL hN hx
    generalize shG l ((wk t 0).take i) = s at h hlen ⊢
    have c0 := hzh.cells.c0
    have c1 := hzh.cells.c1
    have c2 := hzh.cells.c2
    have cb := h.bbox.cell (i := 0) (by omega)
    have ce := h.ebox.cell (i := 0) (by omega)
    by_cases h0 : z.op = 0
    · rw [h0] at c0
      have hsS : shS l s (z, d) = (s.1 ++ ((shwB l z.x).data.toList ++ s.2 ++ (shwB l z.y).data.toList), [61]) := by simp [shS, h0]
      rw [hsS] at hlen ⊢
      obtain ⟨o, ho⟩ : ∃ o, o = s.1 ++ ((shwB l z.x).data.toList ++ s.2 ++ (shwB l z.y).data.toList) := ⟨_, rfl⟩
      rw [← ho] at hlen ⊢
      have HH : Hid (_ ∧ _) := And.intro h ho
      have SHOW : ∀ (W : World) (n : Int), Below w.heap.size w W → Calls Try.prog 39 #[.pointer (some ⟨p, 0, none⟩), .int .i64 n] W fun e w' => e = .returned (.string (shwB l n)) ∧ Below W.heap.size W w' := fun W n hW => show_in W base p ev nb fb l (HB.out.1.below hlow hW) HB.out.2 n
      have hBd : Below w.heap.size w W1.drew := ⟨h.below.os, h.below.tape, h.below.output, h.below.size, h.below.block⟩
      have zl : z.b < W1.heap.size := World.block_lt_of_cell? W1 _ c0
      have bl : w.heap.size < W1.heap.size := h.bbox.lt
      have el : w.heap.size + 3 < W1.heap.size := h.ebox.lt
      have hcat := cat_len (ho ▸ hlen)
      have n1 : ¬ 9223372036854775807 < (shwB l z.x).size + (ofB s.2).size := by rw [ofB_size]; omega
      have n2 : ¬ 9223372036854775807 < (shwB l z.x ++ ofB s.2).size + (shwB l z.y).size := by rw [ByteArray.size_append, ofB_size]; omega
      have n3 : ¬ 9223372036854775807 < (shwB l z.x).size + (ofB s.2).size + (shwB l z.y).size := by rw [ofB_size]; omega
      have hH : Hid (Here W1 z) := hzh
      have HC : Hid (_ ≤ _) := hcat
      clear h hlen hsS hzh hcat ho
      gi_wp2
      refine region_roundH (fun W => W.cell? ⟨w.heap.size, 0, none⟩ = some (.pointer (some ⟨p, 0, none⟩)) ∧ W.cell? ⟨z.b, z.o + 1, none⟩ = some (.int .i64 z.x) ∧ W.cell? ⟨z.b, z.o + 2, none⟩ = some (.int .i64 z.y) ∧ W.cell? ⟨w.heap.size + 3, 0, none⟩ = some (.string (ofB s.2))) (by kernel_rfl) (by rintro ⟨_, _, hh⟩; exact hh) ⟨cb, c1, c2, ce⟩ (fun hHeld => ?_)
      refine wpAnyH_take (i := 0) (oi := _) (v := ?_) rfl (by kernel_rfl) (by kernel_rfl) (by kernel_rfl) (fun _ _ _ h => h) (Or.inl ⟨by rfl, ?_⟩) (by assumption) ?_
      rotate_left 1
      · intro w hSw; (try dsimp only at hSw); go_simp; (try with_reducible rfl)
      try simp only [Act.put, List.getElem_toArray, List.getElem_cons_zero, List.setIfInBounds_toArray, List.set_cons_zero, List.set_cons_succ]
      refine wpAnyH_take (i := 1) (oi := _) (v := ?_) rfl (by kernel_rfl) (by kernel_rfl) (by kernel_rfl) (fun _ _ _ h => h) (Or.inl ⟨by rfl, ?_⟩) (by assumption) ?_
      rotate_left 1
      · intro w hSw; (try dsimp only at hSw); go_simp; (try with_reducible rfl)
      try simp only [Act.put, List.getElem_toArray, List.getElem_cons_succ, List.getElem_cons_zero, List.setIfInBounds_toArray, List.set_cons_zero, List.set_cons_succ]
      refine wpAnyH_take (i := 2) (oi := _) (v := ?_) rfl (by kernel_rfl) (by kernel_rfl) (by kernel_rfl) (fun _ _ _ h => h) (Or.inl ⟨by rfl, ?_⟩) (by assumption) ?_
      rotate_left 1
      · intro w hSw; (try dsimp only at hSw); go_simp; (try with_reducible rfl)
      try simp only [Act.put, List.getElem_toArray, List.getElem_cons_succ, List.getElem_cons_zero, List.setIfInBounds_toArray, List.set_cons_zero, List.set_cons_succ]
      refine wpAnyH_take (i := 3) (oi := _) (v := ?_) rfl (by kernel_rfl) (by kernel_rfl) (by kernel_rfl) (fun _ _ _ h => h) (Or.inl ⟨by rfl, ?_⟩) (by assumption) ?_
      rotate_left 1
      · intro w hSw; (try dsimp only at hSw); go_simp; (try with_reducible rfl)
      try simp only [Act.put, List.getElem_toArray, List.getElem_cons_succ, List.getElem_cons_zero, List.setIfInBounds_toArray, List.set_cons_zero, List.set_cons_succ]
      refine wpAnyH_take (i := 4) (oi := _) (v := ?_) rfl (by kernel_rfl) (by kernel_rfl) (by kernel_rfl) (fun _ _ _ h => h) (Or.inl ⟨by rfl, ?_⟩) (by assumption) ?_
      rotate_left 1
      · intro w hSw; (try dsimp only at hSw); go_simp; (try with_reducible rfl)
      try simp only [Act.put, List.getElem_toArray, List.getElem_cons_succ, List.getElem_cons_zero, List.setIfInBounds_toArray, List.set_cons_zero, List.set_cons_succ]
      refine wpAnyH_take (i := 5) (oi := _) (v := ?_) rfl (by kernel_rfl) (by kernel_rfl) (by kernel_rfl) (fun _ _ _ h => h) (Or.inl ⟨by rfl, ?_⟩) (by assumption) ?_
      rotate_left 1
      · intro w hSw; (try dsimp only at hSw); go_simp; (try with_reducible rfl)
      try simp only [Act.put, List.getElem_toArray, List.getElem_cons_succ, List.getElem_cons_zero, List.setIfInBounds_toArray, List.set_cons_zero, List.set_cons_succ]
      refine wpAnyH_take (i := 9) (oi := _) (v := ?_) rfl (by kernel_rfl) (by kernel_rfl) (by kernel_rfl) (fun _ _ _ h => h) (Or.inl ⟨by rfl, ?_⟩) (by assumption) ?_
      rotate_left 1
      · intro w hSw; (try dsimp only at hSw); go_simp; (try with_reducible rfl)
      try simp only [Act.put, List.getElem_toArray, List.getElem_cons_succ, List.getElem_cons_zero, List.setIfInBounds_toArray, List.set_cons_zero, List.set_cons_succ]
      refine wpAnyH_take (i := 10) (oi := _) (v := ?_) rfl (by kernel_rfl) (by kernel_rfl) (by kernel_rfl) (fun _ _ _ h => h) (Or.inl ⟨by rfl, ?_⟩) (by assumption) ?_
      rotate_left 1
      · intro w hSw; (try dsimp only at hSw); go_simp; (try with_reducible rfl)
      try simp only [Act.put, List.getElem_toArray, List.getElem_cons_succ, List.getElem_cons_zero, List.setIfInBounds_toArray, List.set_cons_zero, List.set_cons_succ]
      refine wpAnyH_take (i := 11) (oi := _) (v := ?_) rfl (by kernel_rfl) (by kernel_rfl) (by kernel_rfl) (fun _ _ _ h => h) (Or.inl ⟨by rfl, ?_⟩) (by assumption) ?_
      rotate_left 1
      · intro w hSw; (try dsimp only at hSw); go_simp; (try with_reducible rfl)
      try simp only [Act.put, List.getElem_toArray, List.getElem_cons_succ, List.getElem_cons_zero, List.setIfInBounds_toArray, List.set_cons_zero, List.set_cons_succ]
      refine wpAnyH_take (i := 12) (oi := _) (v := ?_) rfl (by kernel_rfl) (by kernel_rfl) (by kernel_rfl) (fun _ _ _ h => h) (Or.inl ⟨by rfl, ?_⟩) (by assumption) ?_
      rotate_left 1
      · intro w hSw; (try dsimp only at hSw); go_simp; (try with_reducible rfl)
      try simp only [Act.put, List.getElem_toArray, List.getElem_cons_succ, List.getElem_cons_zero, List.setIfInBounds_toArray, List.set_cons_zero, List.set_cons_succ]
      refine wpAnyH_take (i := 13) (oi := _) (v := ?_) rfl (by kernel_rfl) (by kernel_rfl) (by kernel_rfl) (fun _ _ _ h => h) (Or.inl ⟨by rfl, ?_⟩) (by assumption) ?_
      rotate_left 1
      · intro w hSw; (try dsimp only at hSw); go_simp; (try with_reducible rfl)
      try simp only [Act.put, List.getElem_toArray, List.getElem_cons_succ, List.getElem_cons_zero, List.setIfInBounds_toArray, List.set_cons_zero, List.set_cons_succ]
      refine wpAnyH_take (i := 14) (oi := _) (v := ?_) rfl (by kernel_rfl) (by kernel_rfl) (by kernel_rfl) (fun _ _ _ h => h) (Or.inl ⟨by rfl, ?_⟩) (by assumption) ?_
      rotate_left 1
      · intro w hSw; (try dsimp only at hSw); go_simp; (try with_reducible rfl)
      try simp only [Act.put, List.getElem_toArray, List.getElem_cons_succ, List.getElem_cons_zero, List.setIfInBounds_toArray, List.set_cons_zero, List.set_cons_succ]
      refine wpAnyH_take (i := 7) (oi := _) (v := ?_) rfl (by kernel_rfl) (by kernel_rfl) (by kernel_rfl) (fun _ _ _ h => h) (Or.inl ⟨by rfl, ?_⟩) (by assumption) ?_
      rotate_left 1
      · intro w hSw; (try dsimp only at hSw); go_simp; (try with_reducible rfl)
      try simp only [Act.put, List.getElem_toArray, List.getElem_cons_succ, List.getElem_cons_zero, List.setIfInBounds_toArray, List.set_cons_zero, List.set_cons_succ]
      refine wpAnyH_ready (rs := [6]) (by kernel_rfl) (by simp) ?_
      refine AllReadyH.cons rfl (fun K hK => ?_) AllReadyH.nil
      try simp only [List.getElem_toArray, List.getElem_cons_succ, List.getElem_cons_zero]
      go_simp
      go_at_call 39
      refine (SHOW _ z.x hBd).mono ?_
      rintro e w5 ⟨rfl, B5⟩
      have BB : Below W1.heap.size W1 w5 := ⟨B5.os, B5.tape, B5.output, B5.size, B5.block⟩
      have hB5 : Below w.heap.size w w5 := hBd.trans (B5.mono hBd.size)
      refine hK.out _ _ ?_ (fun hHeld => ?_)
      · exact ⟨(BB.cell bl).trans cb, (BB.cell zl).trans c1, (BB.cell zl).trans c2, (BB.cell el).trans ce⟩
      clear hK K
      try simp only [Act.put, List.getElem_toArray, List.getElem_cons_succ, List.getElem_cons_zero, List.setIfInBounds_toArray, List.set_cons_zero, List.set_cons_succ]
      refine wpAnyH_take (i := 8) (oi := _) (v := ?_) rfl (by kernel_rfl) (by kernel_rfl) (by kernel_rfl) (fun _ _ _ h => h) (Or.inl ⟨by rfl, ?_⟩) (by assumption) ?_
      rotate_left 1
      · intro w hSw; (try dsimp only at hSw); go_simp; (try with_reducible rfl)
      try simp only [Act.put, List.getElem_toArray, List.getElem_cons_succ, List.getElem_cons_zero, List.setIfInBounds_toArray, List.set_cons_zero, List.set_cons_succ]
      refine wpAnyH_ready (rs := [15]) (by kernel_rfl) (by simp) ?_
      refine AllReadyH.cons rfl (fun K hK => ?_) AllReadyH.nil
      try simp only [List.getElem_toArray, List.getElem_cons_succ, List.getElem_cons_zero]
      go_simp
      go_at_call 39
      refine (SHOW _ z.y hB5).mono ?_
      rintro e w6 ⟨rfl, B6⟩
      have BC : Below W1.heap.size W1 w6 := BB.trans (B6.mono BB.size)
      have hB6 : Below w.heap.size w w6 := hB5.trans (B6.mono hB5.size)
      refine hK.out _ _ ?_ (fun hHeld => ?_)
      · exact ⟨(BC.cell bl).trans cb, (BC.cell zl).trans c1, (BC.cell zl).trans c2, (BC.cell el).trans ce⟩
      clear hK K
      try simp only [Act.put, List.getElem_toArray, List.getElem_cons_succ, List.getElem_cons_zero, List.setIfInBounds_toArray, List.set_cons_zero, List.set_cons_succ]
      refine wpAnyH_take (i := 16) (oi := _) (v := ?_) rfl (by kernel_rfl) (by kernel_rfl) (by kernel_rfl) (fun _ _ _ h => h) (Or.inl ⟨by rfl, ?_⟩) (by assumption) ?_
      rotate_left 1
      · intro w hSw; (try dsimp only at hSw); go_simp; (try with_reducible rfl)
      try simp only [Act.put, List.getElem_toArray, List.getElem_cons_succ, List.getElem_cons_zero, List.setIfInBounds_toArray, List.set_cons_zero, List.set_cons_succ]
      obtain ⟨A6, ho⟩ := HH.out
      have A6 : ShAt w w6 t p s := A6.grow BC
      have WS := wstring_in w.heap.size (w.heap.size + 2) (Lib.byteCells s.1) (shwB l z.x ++ ofB s.2 ++ shwB l z.y) w6 A6.bld (by rw [Lib.byteCells_length, ByteArray.size_append, ByteArray.size_append, ofB_size]; have := HC.out; omega) hB6.size
      have hz6 : Here w6 z := (hH.out).keep (fun k c fz _ hk => (BC.block k (Array.getElem?_eq_some_iff.1 hk).1).trans hk)
      refine wpAnyH_ready (rs := [17]) (by kernel_rfl) (by simp) ?_
      refine AllReadyH.cons rfl (fun K hK => ?_) AllReadyH.nil
      try simp only [List.getElem_toArray, List.getElem_cons_succ, List.getElem_cons_zero]
      go_simp
      go_at_call 38
      refine WS.mono ?_
      rintro e w7 ⟨rfl, B7, K7⟩
      obtain ⟨A7, N7⟩ := A6.write K7 (o := o) (by rw [ho, bytes_app]; simpa [Lib.strCells_eq, ofB] using B7)
      have hz7 : Here w7 z := hz6.keep (fun k c fz _ hk => N7 k _ hk (Or.inr ⟨c, _, fz, rfl, by decide, by decide⟩))
      refine hK.out _ _ ?_ (fun hHeld => ?_)
      · exact ⟨A7.bbox.cell (i := 0) (by omega), hz7.cells.c1, hz7.cells.c2, A7.ebox.cell (i := 0) (by omega)⟩
      clear hK K
      try simp only [Act.put, List.getElem_toArray, List.getElem_cons_succ, List.getElem_cons_zero, List.setIfInBounds_toArray, List.set_cons_zero, List.set_cons_succ]
      refine wpAnyH_done (by kernel_rfl) ?_ _
      have e7 := A7.ebox.cell (i := 0) (by omega)
      have f7 := A7.ebox.frozen 0
      obtain ⟨A8, N8⟩ := A7.sign [61]
      have KR : Kr WTy w3.heap.size W1 (w7.setCell ⟨w.heap.size + 3, 0, none⟩ (.string (ofB [61]))) := ⟨by have h1 := BC.size; have h2 := K7.1.size; simp [World.setCell]; omega, fun k o hk ho => by
        have hk6 := (BC.block k (Array.getElem?_eq_some_iff.1 hk).1).trans hk
        refine N8 k o (N7 k o hk6 (ho.imp (fun x => x.2) ?_)) (ho.imp (fun x => x.2) ?_)
        · rintro ⟨c, ty, fz, e, hty⟩
          exact ⟨c, ty, fz, e, by rcases hty with rfl | rfl | rfl | rfl | rfl <;> exact ⟨by decide, by decide⟩⟩
        · rintro ⟨c, ty, fz, e, hty⟩
          exact ⟨c, ty, fz, e, by rcases hty with rfl | rfl | rfl | rfl | rfl <;> decide⟩⟩
      rw [hz3] at KR
      have HE : Hid (_ ∧ _) := And.intro KR A8
      clear ho
      clear A7 A8 KR N7 N8 A6 hz6 hz7 B7 K7 hHeld WS n1 n2 n3 BC BB B5 B6 hB5 hB6 hBd c0 c1 c2 cb ce
      gi_wp2
      exact HE.out
    · have dE : (z.op == 0) = false := by simpa using h0
      have UE : CallsIn (Fence.wide.inRound l2) (9 - 1 - 1 - 1) Try.prog 40 #[.pointer (some ⟨z.b, z.o, none⟩)] W1 (fun e w' => e = .returned (.bool (isUn z)) ∧ w' = W1) := calls_round (unequal_in W1 z hzh)
      cases hu : isUn z with
      | false =>
        have hsS : shS l s (z, d) = (s.1 ++ sgnA z d, s.2) := by simp [shS, h0, hu]
        rw [hsS] at hlen ⊢
        rw [hu] at UE
        have SG : CallsIn (Fence.wide.inRound l2) (9 - 1 - 1 - 1) Try.prog 41 #[.pointer (some ⟨z.b, z.o, none⟩), .int .i64 (d : Int)] W1 (fun e w' => e = .returned (.string (ofB (sgnA z d))) ∧ w' = W1) := calls_round (signAt_in W1 z hzh d)
        have WS : CallsIn (Fence.wide.inRound l2) (9 - 1 - 1 - 1) Try.prog _ _ W1 _ := calls_round (wstring_in w.heap.size (w.heap.size + 2) (Lib.byteCells s.1) (ofB (sgnA z d)) W1 h.bld (by rw [Lib.byteCells_length, ofB_size]; rw [List.length_append] at hlen; omega) h.below.size)
        have HH : Hid (_) := h
        clear h hlen hsS hzh
        gi_wp2_with (first | (refine ⟨trivial, ?_⟩; gi_at_call 40; refine UE.mono ?_; rintro e w5 ⟨rfl, rfl⟩) | (gi_at_call 40; refine UE.mono ?_; rintro e w5 ⟨rfl, rfl⟩) | (refine ⟨trivial, ?_⟩; gi_at_call 41; refine SG.mono ?_; rintro e w5 ⟨rfl, rfl⟩) | (gi_at_call 41; refine SG.mono ?_; rintro e w5 ⟨rfl, rfl⟩) | (refine ⟨trivial, ?_⟩; gi_at_call 38; refine WS.mono ?_; rintro e w7 ⟨rfl, B7, K7⟩) | (gi_at_call 38; refine WS.mono ?_; rintro e w7 ⟨rfl, B7, K7⟩))
        obtain ⟨A7, N7⟩ := (HH.out).write K7 (o := s.1 ++ sgnA z d) (by rw [bytes_app, ← ofB_cells]; exact B7)
        exact ⟨⟨K7.1.size, fun k o hk ho => N7 k o hk (ho.imp (fun x => x.2) (by
          rintro ⟨c, ty, fz, e, hty⟩
          exact ⟨c, ty, fz, e, by rcases hty with rfl | rfl | rfl | rfl | rfl <;> exact ⟨by decide, by decide⟩⟩))⟩, A7⟩
      | true =>
        rw [hu] at UE
        by_cases hd : d = 0
        · have hsS : shS l s (z, d) = (s.1, [33, 61]) := by simp [shS, h0, hu, hd]
          rw [hsS]
          subst hd
          have f7 := h.ebox.frozen 0
          obtain ⟨A8, N8⟩ := h.sign [33, 61]
          have HE : Hid (_ ∧ _) := And.intro A8 N8
          clear h hlen hsS hzh A8 N8
          gi_wp2_with (first | (refine ⟨trivial, ?_⟩; gi_at_call 40; refine UE.mono ?_; rintro e w5 ⟨rfl, rfl⟩) | (gi_at_call 40; refine UE.mono ?_; rintro e w5 ⟨rfl, rfl⟩))
          obtain ⟨A8, N8⟩ := HE.out
          exact ⟨⟨by simp [World.setCell], fun k o hk ho => N8 k o hk (ho.imp (fun x => x.2) (by
            rintro ⟨c, ty, fz, e, hty⟩
            exact ⟨c, ty, fz, e, by rcases hty with rfl | rfl | rfl | rfl | rfl <;> decide⟩))⟩, A8⟩
        · have hsS : shS l s (z, d) = (s.1 ++ sgnA z d, s.2) := by simp [shS, h0, hd]
          have dd : ((d : Int) == 0) = false := by simp; omega
          rw [hsS] at hlen ⊢
          have SG : CallsIn (Fence.wide.inRound l2) (9 - 1 - 1 - 1) Try.prog 41 #[.pointer (some ⟨z.b, z.o, none⟩), .int .i64 (d : Int)] W1 (fun e w' => e = .returned (.string (ofB (sgnA z d))) ∧ w' = W1) := calls_round (signAt_in W1 z hzh d)
          have WS : CallsIn (Fence.wide.inRound l2) (9 - 1 - 1 - 1) Try.prog _ _ W1 _ := calls_round (wstring_in w.heap.size (w.heap.size + 2) (Lib.byteCells s.1) (ofB (sgnA z d)) W1 h.bld (by rw [Lib.byteCells_length, ofB_size]; rw [List.length_append] at hlen; omega) h.below.size)
          have HH : Hid (_) := h
          clear h hlen hsS hzh
          gi_wp2_with (first | (refine ⟨trivial, ?_⟩; gi_at_call 40; refine UE.mono ?_; rintro e w5 ⟨rfl, rfl⟩) | (gi_at_call 40; refine UE.mono ?_; rintro e w5 ⟨rfl, rfl⟩) | (refine ⟨trivial, ?_⟩; gi_at_call 41; refine SG.mono ?_; rintro e w5 ⟨rfl, rfl⟩) | (gi_at_call 41; refine SG.mono ?_; rintro e w5 ⟨rfl, rfl⟩) | (refine ⟨trivial, ?_⟩; gi_at_call 38; refine WS.mono ?_; rintro e w7 ⟨rfl, B7, K7⟩) | (gi_at_call 38; refine WS.mono ?_; rintro e w7 ⟨rfl, B7, K7⟩))
          obtain ⟨A7, N7⟩ := (HH.out).write K7 (o := s.1 ++ sgnA z d) (by rw [bytes_app, ← ofB_cells]; exact B7)
          exact ⟨⟨K7.1.size, fun k o hk ho => N7 k o hk (ho.imp (fun x => x.2) (by
            rintro ⟨c, ty, fz, e, hty⟩
            exact ⟨c, ty, fz, e, by rcases hty with rfl | rfl | rfl | rfl | rfl <;> exact ⟨by decide, by decide⟩⟩))⟩, A7⟩
  case done =>
    rintro D W3 hD h hK
    rw [List.take_length] at h
    obtain ⟨s, HS⟩ : ∃ s, Hid (shG l (wk t 0) = s) := ⟨_, rfl⟩
    rw [HS.out] at h
    have ST : CallsIn Fence.wide 8 Try.prog _ _ W3 _ := callsIn_wide.2 (Try.Builder_String_any_k w.heap.size (w.heap.size + 2) s.1 W3 h.bld h.below.size)
    have hBl := h.below
    clear h
    gi_wp2_with (first | (refine ⟨trivial, ?_⟩; gi_at_call 42; refine ST.mono ?_; rintro e w4 ⟨rfl, B4, K4, O4⟩) | (gi_at_call 42; refine ST.mono ?_; rintro e w4 ⟨rfl, B4, K4, O4⟩))
    have hK4 : w4.heap[D]? = some (.deferred (some [])) := O4 D _ hK (by rintro e; cases e; omega) (by rintro c fz e; cases e)
    refine ⟨by simp, .inl ⟨_, _, rfl, run_takeDeferred hK4, ?_⟩⟩
    refine ⟨_, results_tmp rfl _ _ _, ?_⟩
    exact ⟨by rw [HS.out]; rfl, (hBl.trans K4).trans (belowK_b (w := w) (Nat.le_refl _) w4 D _ _ (by omega) hK4 rfl rfl)⟩

end Go.Proofs.Ytinphcnknionmab
