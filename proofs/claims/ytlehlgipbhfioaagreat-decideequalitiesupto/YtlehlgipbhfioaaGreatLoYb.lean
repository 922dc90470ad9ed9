/- Package logic: Atoms, the walk. -/
import Derived.Test.YtlehlgipbhfioaaGreatP34
import Derived.Carry
namespace Go.Proofs.YtlehlgipbhfioaaGreat
open Go.RowKit Go.Shelf

attribute [local go_sem] Oper.semAt_some

theorem store_map (P : Program) (W : World) (a : Addr) (m : Mode) (b : Nat) : (store a (.map (some b)) m).run P W = stored P W a (.map (some b)) m := run_store P W a _ m rfl
attribute [local go_sem] store_map

/-- What Atoms makes before it ranges. -/
def atW (w : World) (op x y : Int) (kv : Value) : World :=
  ((((w.alloc (.cells #[.int .i64 op, .int .i64 x, .int .i64 y, kv] 36)).alloc (.cells #[.slice none 0 0] 109)).alloc (.map #[] 0)).alloc (.cells #[.map (some (w.heap.size + 1 + 1))] 113)).alloc (.cells #[.pointer (some ⟨w.heap.size, 0, none⟩)] 161)

theorem one_rowA (w : World) (v : Value) (ty : TypeId) : (w.alloc (.cells #[v] ty)).rowIs w.heap.size ty 1 (fun _ => v) := World.rowIs.congr (made_row w #[v] ty) (fun j hj => by
  have : j = 0 := by simp at hj; omega
  subst this; rfl)
theorem row_allocA {w : World} {b n : Nat} {f : Nat → Value} {ty : TypeId} (o : Obj) (h : w.rowIs b ty n f) : (w.alloc o).rowIs b ty n f := h.of_block (Below.heap_alloc w o b (World.rowIs.lt h))

theorem atW_at (w : World) (op x y : Int) (kv : Value) (kids : List Lf) (hk : KidsIn kv kids) (hks : ∀ k ∈ kids, Here w k) :
    AtAt w (atW w op x y kv) (.mk w.heap.size 0 op x y kv kids) (.slice none 0 0) [] [] ∧ (atW w op x y kv).rowIs (w.heap.size + 4) 161 1 (fun _ => .pointer (some ⟨w.heap.size, 0, none⟩)) ∧ (atW w op x y kv).heap.size = w.heap.size + 5 := by
  have hz1 : (w.alloc (.cells #[.int .i64 op, .int .i64 x, .int .i64 y, kv] 36)).heap.size = w.heap.size + 1 := by simp
  have hz2 : ((w.alloc (.cells #[.int .i64 op, .int .i64 x, .int .i64 y, kv] 36)).alloc (.cells #[.slice none 0 0] 109)).heap.size = w.heap.size + 2 := by simp
  have hz3 : (((w.alloc (.cells #[.int .i64 op, .int .i64 x, .int .i64 y, kv] 36)).alloc (.cells #[.slice none 0 0] 109)).alloc (.map #[] 0)).heap.size = w.heap.size + 3 := by simp
  have hz4 : ((((w.alloc (.cells #[.int .i64 op, .int .i64 x, .int .i64 y, kv] 36)).alloc (.cells #[.slice none 0 0] 109)).alloc (.map #[] 0)).alloc (.cells #[.map (some (w.heap.size + 1 + 1))] 113)).heap.size = w.heap.size + 4 := by simp
  have hB : Below w.heap.size w (atW w op x y kv) := (((((Below.refl _ w).alloc (Nat.le_refl _) _).alloc (by simp) _).alloc (by simp; omega) _).alloc (by simp; omega) _).alloc (by simp; omega) _
  have K : FKeepA (fun k => k < w.heap.size) w (atW w op x y kv) := fun k _ _ hlt hk => (hB.block k hlt).trans hk
  refine ⟨⟨hB, LayA.mk trivial ?_ hk (fun k hkk => ?_), ?_, ?_, ?_, World.ownsRow_nil _ _ _ _⟩, ?_, by simp [atW]⟩
  · refine ⟨#[.int .i64 op, .int .i64 x, .int .i64 y, kv], (0, 0), ?_, rfl, rfl, rfl, rfl, rfl⟩
    unfold atW
    rw [Below.heap_alloc _ _ _ (by simp; omega), Below.heap_alloc _ _ _ (by simp; omega), Below.heap_alloc _ _ _ (by simp; omega), Below.heap_alloc _ _ _ (by simp)]
    exact World.alloc_heap_new w _
  · exact ((hks k hkk).lt.mono (fun _ h => h.2)).keep K |>.mono (fun _ _ => trivial)
  · exact row_allocA _ (row_allocA _ (row_allocA _ (hz1 ▸ one_rowA _ (.slice none 0 0) 109)))
  · exact row_allocA _ (hz3 ▸ one_rowA _ (.map (some (w.heap.size + 1 + 1))) 113)
  · have := CntIs.new ((w.alloc (.cells #[.int .i64 op, .int .i64 x, .int .i64 y, kv] 36)).alloc (.cells #[.slice none 0 0] 109))
    rw [hz2] at this
    refine this.keep ?_
    unfold atW
    rw [Below.heap_alloc _ _ _ (by simp), Below.heap_alloc _ _ _ (by simp)]
  · exact hz4 ▸ one_rowA _ (.pointer (some ⟨w.heap.size, 0, none⟩)) 161

set_option maxRecDepth 100000 in
set_option maxHeartbeats 6000000 in
theorem atoms_in (w : World) (op x y : Int) (kv : Value) (kids : List Lf) (hk : KidsIn kv kids) (hks : ∀ k ∈ kids, Here w k)
    (hN : (wk (.mk w.heap.size 0 op x y kv kids) 0).length * 16 ≤ 140737488355328) (hR : ∀ p ∈ eqs (.mk w.heap.size 0 op x y kv kids), P64 p) :
    Calls Tryz.prog 78 #[.agg #[.int .i64 op, .int .i64 x, .int .i64 y, kv]] w fun e w' => ∃ v, e = .returned v ∧ w'.ownsRow w.heap.size 34 2 v (ats (eqs (.mk w.heap.size 0 op x y kv kids))).length (pairC (ats (eqs (.mk w.heap.size 0 op x y kv kids)))) ∧ Below w.heap.size w w' := by
  obtain ⟨F3, b3, hz3⟩ := atW_at w op x y kv kids hk hks
  obtain ⟨t, ht⟩ : ∃ t, t = Lf.mk w.heap.size 0 op x y kv kids := ⟨_, rfl⟩
  rw [← ht] at F3 hN hR ⊢
  have hb3 : (atW w op x y kv).rowIs (w.heap.size + 4) 161 1 (fun _ => .pointer (some ⟨t.b, t.o, none⟩)) := by rw [ht]; exact b3
  clear ht b3
  obtain ⟨ka, kc, rfl, hk2⟩ := hk
  have hmm := @run_makeMap Tryz.prog
  refine (callsIn_wide (n := 9)).1 ?_
  refine callsIn_of_wp_marks Tryz.func78 rfl trivial ?_ rfl
  simp only [Tryz.ntmps78, List.size_toArray, List.length_cons, List.length_nil, Nat.reduceAdd, Nat.reduceSub, Array.replicate_succ, Array.replicate_zero, List.push_toArray, List.append_toArray, List.nil_append, List.cons_append]
  gi_wp2_with (first | (refine ⟨trivial, ?_⟩; gi_at_call 121; refine (callsIn_wide.2 (equs_in _ _)).mono ?_; rintro e w5 ⟨rfl, rfl⟩) | (gi_at_call 121; refine (callsIn_wide.2 (equs_in _ _)).mono ?_; rintro e w5 ⟨rfl, rfl⟩))
  unfold atW at F3 hb3 hz3
  generalize (((((w.alloc (Obj.cells #[.int .i64 op, .int .i64 x, .int .i64 y, .slice ka kids.length kc] 36)).alloc (Obj.cells #[.slice none 0 0] 109)).alloc (Obj.map #[] 0)).alloc (Obj.cells #[.map (some (w.heap.size + 1 + 1))] 113)).alloc (Obj.cells #[.pointer (some ⟨w.heap.size, 0, none⟩)] 161)) = w3 at F3 hb3 hz3 ⊢
  rw [show w.heap.size + 1 + 1 + 1 + 1 = w.heap.size + 4 from rfl, show w.heap.size + 1 + 1 + 1 = w.heap.size + 3 from rfl, show w.heap.size + 1 + 1 = w.heap.size + 2 from rfl]
  clear hks hk2 hmm
  refine rangeTB (by decide : 1 ≤ 9) (gf := 159) (lb := #[.pointer (some ⟨w.heap.size + 4, 0, none⟩)]) rfl (enters_of Tryz.func159 (by kernel_rfl) rfl) (equs1_in 8 (by decide) (w.heap.size + 4) t w3 hb3 F3.here hN) (Below.refl _ _) (fun _ => rfl)
    (fun i W => ∃ v, AtAt w W t v ((eqs t).take i) (ats ((eqs t).take i)))
    ?hI ?h0 (fun p s => { tmps := #[.agg #[.int .i64 op, .int .i64 x, .int .i64 y, .slice ka kids.length kc], .pointer (some ⟨w.heap.size, 0, none⟩), .slice none 0 0, .pointer (some ⟨w.heap.size + 1, 0, none⟩), .pointer (some ⟨w.heap.size + 3, 0, none⟩), .pointer (some ⟨s, 0, none⟩), .map (some (w.heap.size + 2)), .func (.func 159) #[] #[.pointer (some ⟨w.heap.size + 4, 0, none⟩)], .agg #[.int .i64 p.1, .int .i64 p.2], undef, undef, undef, undef, undef, undef, undef, undef, undef, undef, undef, undef, undef, undef, undef], defers := [] })
    (fun p => .cells #[.int .i64 p.1, .int .i64 p.2] 34) (fun p => ⟨rfl, by rintro ⟨c, ty, fz, e, e'⟩; cases e; cases e'⟩) ?assign ?body ?done
  case hI =>
    rintro i A B ⟨v, h⟩ hO
    exact ⟨v, h.ow hO (by omega)⟩
  case h0 => exact ⟨_, F3⟩
  case assign =>
    intro l2 p W1 K hw1 hK
    unfold encP
    gi_wp2
    exact hK _ (Ow.alloc _ _) (Kr.alloc _ _) (World.alloc_heap_new _ _)
  case body =>
    rintro l2 i s p W1 hx hs hc ⟨v, h⟩
    have hp : P64 p := hR p (List.mem_of_getElem? hx)
    have hlt := (List.getElem?_eq_some_iff.1 hx).1
    have hel : (eqs t).length ≤ 8796093022208 := by
      have h1 : (eqs t).length ≤ (es t).length := List.length_filterMap_le _ _
      have h2 : (es t).length ≤ (wk t 0).length := List.length_filterMap_le isEnd (wk t 0)
      omega
    have htk : (eqs t).take (i + 1) = (eqs t).take i ++ [p] := by rw [List.take_add_one, hx]; rfl
    have htl : ((eqs t).take i).length < 8796093022208 := by rw [List.length_take]; omega
    rw [htk]
    clear htk hlt
    generalize (eqs t).take i = l at h htl ⊢
    obtain ⟨v0, st, Wa, Wb, hME, hES, hC, hK1, hLK1⟩ := (CntIs.keep h.cnt rfl : CntIs W1.drew (w.heap.size + 2) l).inc hp (by omega)
    have hLK := (CntIs.keep h.cnt rfl : CntIs W1.drew (w.heap.size + 2) l).look hp
    have hLK2 := hC.look hp
    have hcl : l.count p ≤ l.length := List.count_le_length
    have hmem : l.count p = 0 ↔ p ∉ ats l := by rw [mem_ats, List.count_eq_zero]
    have hcnt : (l ++ [p]).count p = l.count p + 1 := by rw [List.count_append]; simp
    rw [hcnt] at hLK2
    simp only [pairV, goInt] at hME hES hLK hLK2 hLK1
    have hwr : IntKind.i64.wrap ((l.count p : Int) + 1) = ((l.count p + 1 : Nat) : Int) := by
      rw [show (l.count p : Int) + 1 = ((l.count p + 1 : Nat) : Int) by omega]
      exact wrap_small _ (by omega) (by omega)
    have c0 : W1.cell? ⟨s, 0, none⟩ = some (.int .i64 p.1) := by simp [World.cell?, hc]
    have c1 : W1.cell? ⟨s, 1, none⟩ = some (.int .i64 p.2) := by simp [World.cell?, hc]
    have c4 := h.mbox.cell (i := 0) (by omega)
    rw [show ((l.count p + 1 : Nat) : Int) = (l.count p : Int) + 1 by omega] at hES hLK2 hwr
    obtain ⟨va, vc, hv⟩ := row_form h.row
    subst hv
    have hsz := h.box.lt
    have hsl : s < W1.heap.size := (Array.getElem?_eq_some_iff.1 hc).1
    have nm : ∀ k, k < W1.heap.size → k ≠ w.heap.size + 2 → Wb.heap[k]? = W1.heap[k]? := fun k hk hne => hK1.block k hk hne
    have d0 : Wb.cell? ⟨s, 0, none⟩ = some (.int .i64 p.1) := (World.cell?_of_block (nm s hsl (by omega))).trans c0
    have d1 : Wb.cell? ⟨s, 1, none⟩ = some (.int .i64 p.2) := (World.cell?_of_block (nm s hsl (by omega))).trans c1
    have d4 : Wb.cell? ⟨w.heap.size + 3, 0, none⟩ = some (.map (some (w.heap.size + 2))) := (World.cell?_of_block (nm (w.heap.size + 3) h.mbox.lt (by omega))).trans c4
    have d3 : Wb.cell? ⟨w.heap.size + 1, 0, none⟩ = some (.slice va (ats l).length vc) := (World.cell?_of_block (nm (w.heap.size + 1) hsz (by omega))).trans (h.box.cell (i := 0) (by omega))
    have A0 : AtAt w W1.drew t (.slice va (ats l).length vc) l (ats l) := h.ow (Ow.drewN (B := w.heap.size + 4) W1 1) (by omega)
    have A1 : AtAt w Wb t (.slice va (ats l).length vc) (l ++ [p]) (ats l) := A0.inc hK1 hC
    have Kr1 : Kr WTy w3.heap.size W1 Wb := ⟨hK1.size, fun k o hk ho => (nm k (Array.getElem?_eq_some_iff.1 hk).1 (by
      rintro rfl
      obtain ⟨es, ck, e⟩ := h.cnt.lt
      rw [e] at hk
      cases hk
      rcases ho with ho | ho
      · omega
      · have := ho.isCells
        cases this)).trans hk⟩
    have hh : Hid (_ ∧ _) := And.intro A1 Kr1
    have hcl2 := ats_len l
    have hS := ats_snoc l p
    have hw3 : w.heap.size ≤ Wb.heap.size := by have := A1.below.size; omega
    have hrow := A1.row
    have hbz := A1.box.lt
    generalize l.count p = c at *
    clear hcnt h hK1 hC A0 A1 Kr1 hc nm hR hN
    by_cases h0 : c = 0
    · have hbq : ((c : Int) + 1 == 1) = true := by simp [h0]
      rw [if_neg (hmem.1 h0)] at hS
      rw [hS]
      obtain ⟨i0, hi0, hz0, hz1, hz2⟩ := info_parts infoPairA
      have hd : Hid (c = 0 ∧ _) := And.intro h0 hS
      clear h0 hS hmem
      gi_wp2
      refine region_round (by kernel_rfl) (by rintro ⟨_, _, hh⟩; exact hh) ?_
      refine any_of W1 ?_
      go_region_law (first | (refine redirect (by assumption) ?_))
      all_goals
        try simp only [Act.put, List.getElem_toArray, List.getElem_cons_succ, List.getElem_cons_zero, List.setIfInBounds_toArray, List.set_cons_succ, List.set_cons_zero]
        clear hME hES hLK1 hLK
        gi_wp2_with (first | (gi_at_builtin; refine Aside.out ?_))
        delta Aside
        refine wpListIn_append_own _ rfl _ _ 109 rfl w.heap.size 34 i0 _ 2 16 Tryz.underlying109 hi0 hz0 hz1 hz2 rfl (by decide) _ _ _ rfl (hrow.alloc _) ⟨_, 0, none⟩ 1 1 [.int .i64 p.1, .int .i64 p.2] rfl rfl (cell_twos Wb _ _ _) (by simp [Value.oneCell']) (by unfold maxLen; omega) (by omega) (by simp; omega) ?_
        intro v8 w8 hown8 hgrow8 _
        obtain ⟨A1, K1⟩ := hh.out
        obtain ⟨b8, f8⟩ := A1.box8 hgrow8
        obtain ⟨g8, cap8, hv8⟩ := ownsRow_succ hown8
        obtain ⟨P1, P2, P3⟩ := A1.push rfl hown8 hgrow8
        subst hv8
        have hP : Hid (_ ∧ _ ∧ _) := And.intro P1 (And.intro P2 P3)
        clear P1 P2 P3 A1 hown8 hgrow8
        gi_wp2
        obtain ⟨P1, P2, P3⟩ := hP.out
        refine ⟨K1.trans ⟨P3, fun k o hk ho => P2 k o hk (ho.imp (fun x => x.2) ?_)⟩, _, P1⟩
        rintro ⟨c, ty, fz, e, hty⟩
        refine ⟨c, ty, fz, e, ?_⟩
        rcases hty with rfl | rfl | rfl | rfl | rfl <;> exact ⟨by decide, by decide⟩
    · have hbq : ((c : Int) + 1 == 1) = false := by simp; omega
      rw [if_pos (by have := mt hmem.2 h0; simpa using this)] at hS
      rw [hS]
      clear hS hmem
      gi_wp2
      refine region_round (by kernel_rfl) (by rintro ⟨_, _, hh⟩; exact hh) ?_
      refine any_of W1 ?_
      go_region_law (first | (refine redirect (by assumption) ?_))
      all_goals
        try simp only [Act.put, List.getElem_toArray, List.getElem_cons_succ, List.getElem_cons_zero, List.setIfInBounds_toArray, List.set_cons_succ, List.set_cons_zero]
        gi_wp2
        obtain ⟨A1, K1⟩ := hh.out
        exact ⟨K1, _, A1⟩
  case done =>
    rintro D W3 hD ⟨v, h⟩ hK
    rw [List.take_length] at h
    have c5 := h.box.cell (i := 0) (by omega)
    obtain ⟨va, vc, hv⟩ := row_form h.row
    subst hv
    have hBl := h.below
    have hrw := h.row
    clear h
    gi_wp2
    refine ⟨by simp, .inl ⟨_, _, rfl, run_takeDeferred hK, ?_⟩⟩
    have hrw2 := (Ow.putObj (ty := 335) (B := w.heap.size) (.deferred none) (by omega) hK rfl).ownsRowA (by decide) hrw
    refine ⟨_, results_tmp rfl _ _ _, ?_⟩
    exact ⟨_, rfl, hrw2, hBl.trans (belowK_b (w := w) (Nat.le_refl _) W3 D _ _ (by omega) hK rfl rfl)⟩

end Go.Proofs.YtlehlgipbhfioaaGreat
