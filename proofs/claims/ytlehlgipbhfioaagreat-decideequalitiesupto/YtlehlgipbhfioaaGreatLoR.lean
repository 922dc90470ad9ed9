/- Package logic: fold. -/
import Derived.Test.YtlehlgipbhfioaaGreatP36
import Derived.Maps.AppendAt
namespace Go.Proofs.YtlehlgipbhfioaaGreat
open Go.RowKit Go.Shelf

attribute [local go_sem] Oper.semAt_some

/-- A slice of truths. -/
def BoolsAt (W : World) (sv : Value) (args : List Bool) : Prop :=
  ∃ a cap, sv = .slice a args.length cap ∧ (args = [] ∨ ∃ g off, a = some ⟨g, off, none⟩ ∧ ∀ (j : Nat) (b : Bool), args[j]? = some b → W.cell? ⟨g, off + j, none⟩ = some (.bool b))
def boolC (l : List Bool) : List Value := l.map fun b => Value.bool b

theorem infoBool : (Tryz.prog.info? 4).map (fun i => (i.zero, i.size, i.bytes)) = some (some (.bool false), 1, 1) := by kernel_rfl

theorem es_here {W : World} {t x : Lf} (ht : Here W t) (h : x ∈ es t) : Here W x := by
  unfold es at h
  obtain ⟨⟨y, d⟩, h1, h2⟩ := List.mem_filterMap.1 h
  unfold isEnd at h2
  split at h2
  · cases h2
    exact (wk_here t 0 ht (Nat.zero_le _) _ h1).1
  · cases h2

/-- What fold goes round with. -/
structure FoAt (w W : World) (t : Lf) (fv v : Value) (vs : List Bool) : Prop where
  below : Below w.heap.size w W
  here : Here W t
  fn : W.rowIs w.heap.size 244 1 (fun _ => fv)
  box : W.rowIs (w.heap.size + 1) 120 1 (fun _ => v)
  row : W.ownsRow w.heap.size 4 1 v vs.length (boolC vs)

theorem Ow.ownsRow {B : Nat} {W W' : World} (h : Ow 335 B W W') {base size k : Nat} {ty : TypeId} {v : Value} {xs : List Value} (hne : ty ≠ 335) (hr : W.ownsRow base ty size v k xs) : W'.ownsRow base ty size v k xs := by
  refine ⟨hr.1, ?_⟩
  rcases hr.2 with e | ⟨g, cap, cur, e, e1, e2, e3⟩
  · exact Or.inl e
  · exact Or.inr ⟨g, cap, cur, e, e1, h.same g _ e2 (Or.inr ⟨rfl, by rintro ⟨c', ty', fz', e, e'⟩; cases e; exact hne e'⟩), e3⟩

theorem FoAt.ow {w W W' : World} {B : Nat} {t : Lf} {fv v : Value} {vs : List Bool} (h : FoAt w W t fv v vs) (hO : Ow 335 B W W') (hB : w.heap.size ≤ B) : FoAt w W' t fv v vs :=
  ⟨h.below.trans ⟨hO.os, hO.tape, hO.output, hO.size, fun k hk => by
      cases hh : W.heap[k]? with
      | none =>
        have h1 := Array.getElem?_eq_none_iff.1 hh
        have h2 := h.below.size
        omega
      | some o => exact hO.same k o hh (Or.inl (by omega))⟩, h.here.keep (hO.fkeep.toA _), hO.rowIs (by decide) h.fn, hO.rowIs (by decide) h.box, hO.ownsRow (by decide) h.row⟩

theorem ownsRow_take {W : World} {base : Nat} {e : TypeId} {a : Option Addr} {n c m : Nat} {xs : List Value} (h : W.ownsRow base e 1 (.slice a n c) n xs) (hm : m ≤ n) : W.ownsRow base e 1 (.slice a m c) m (xs.take m) := by
  refine ⟨by rw [List.length_take, h.1]; omega, ?_⟩
  rcases h.2 with ⟨h1, h2⟩ | ⟨g, cap, cur, h1, h2, h3, h4, h5, h6, h7⟩
  · simp only [Value.slice.injEq] at h1
    obtain ⟨rfl, rfl, rfl⟩ := h1
    have : m = 0 := by omega
    subst this
    exact Or.inl ⟨rfl, rfl⟩
  · simp only [Value.slice.injEq, true_and] at h1
    obtain ⟨rfl, rfl⟩ := h1
    refine Or.inr ⟨g, c, cur, rfl, h2, h3, by omega, h5, h6, ?_⟩
    rw [← h7, List.take_take]
    congr 1
    omega
theorem boolsAt_drop {W : World} {base : Nat} {g n c m : Nat} {vs : List Bool} (h : W.ownsRow base 4 1 (.slice (some ⟨g, 0, none⟩) n c) n (boolC vs)) (hn : n = vs.length) (cc : Nat) : BoolsAt W (.slice (some ⟨g, m, none⟩) (n - m) cc) (vs.drop m) := by
  refine ⟨_, cc, by rw [List.length_drop, hn], Or.inr ⟨g, m, rfl, fun j b hj => ?_⟩⟩
  rw [List.getElem?_drop] at hj
  have hlt := (List.getElem?_eq_some_iff.1 hj).1
  have := h.cellAt (m + j) (by omega)
  rw [this]
  simp [boolC, hj]

theorem wrapped {m : Nat} (h : m ≤ 8796093022208) : IntKind.i64.wrap (m : Int) = (m : Int) := by
  exact wrap_small _ (by omega) (by omega)

theorem box_kept {w7 w8 : World} {O : Obj} {b gb : Nat} {v : Value} (hc : w7.cell? ⟨b, 0, none⟩ = some v) (hf : w7.frozen? ⟨b, 0, none⟩ = false) (hb : b < w7.heap.size) (hne : gb ≠ b) (hg : (w7.alloc O).grownBy w8 (some gb)) : w8.cell? ⟨b, 0, none⟩ = some v ∧ w8.frozen? ⟨b, 0, none⟩ = false := by
  have h1 : w8.heap[b]? = w7.heap[b]? := (hg.block b (by simp; omega) (by simpa using fun e => hne e.symm)).trans (Below.heap_alloc w7 O b hb)
  exact ⟨(World.cell?_of_block (a := ⟨b, 0, none⟩) h1).trans hc, (World.frozen?_of_block (a := ⟨b, 0, none⟩) h1).trans hf⟩

/-- The values are others; all else stays. -/
theorem FoAt.put {w W W' : World} {t : Lf} {fv v v' : Value} {vs vs' : List Bool} (h : FoAt w W t fv v vs) (K : Kept (fun k => v.ownBlock = some k ∨ k = w.heap.size + 1) W W') (hb : W'.rowIs (w.heap.size + 1) 120 1 (fun _ => v')) (hr : W'.ownsRow w.heap.size 4 1 v' vs'.length (boolC vs')) (B : Nat) :
    FoAt w W' t fv v' vs' ∧ Kr WTy B W W' := by
  have hbt : ∀ k, v.ownBlock = some k → w.heap.size ≤ k ∧ ∃ c, W.heap[k]? = some (Obj.cells c 4 (0, 0)) := fun k hk => by
    rcases h.row.2 with ⟨e, _⟩ | ⟨g, cap, cur, e, e1, e2, _⟩
    · rw [e] at hk; simp [Value.ownBlock] at hk
    · rw [e] at hk
      simp [Value.ownBlock] at hk
      subst hk
      exact ⟨e1, cur, e2⟩
  have nm : ∀ (k : Nat) (o : Obj), W.heap[k]? = some o → (o.isCells = false ∨ OfTy (fun t => t ≠ 4 ∧ t ≠ 120) o) → W'.heap[k]? = some o := fun k o hk ho => by
    refine (K.block k (Array.getElem?_eq_some_iff.1 hk).1 ?_).trans hk
    rintro (e | e)
    · obtain ⟨_, c, hc⟩ := hbt k e
      rw [hk] at hc
      cases hc
      rcases ho with ho | ⟨c', ty, fz, e, e1, e2⟩
      · cases ho
      · cases e; exact e1 rfl
    · obtain ⟨c, hc, _⟩ := h.box
      rw [← e, hk] at hc
      cases hc
      rcases ho with ho | ⟨c', ty, fz, e, e1, e2⟩
      · cases ho
      · cases e; exact e2 rfl
  refine ⟨⟨?_, ?_, ?_, hb, hr⟩, ⟨K.size, fun k o hk ho => nm k o hk (ho.imp (fun x => x.2) ?_)⟩⟩
  · refine h.below.trans ⟨K.os, K.tape, K.output, K.size, fun k hk => K.block k (by have := h.below.size; omega) ?_⟩
    rintro (e | e)
    · have := (hbt k e).1; omega
    · omega
  · exact h.here.keep (fun k c fz _ hk => nm k _ hk (Or.inr ⟨c, _, fz, rfl, by decide, by decide⟩))
  · obtain ⟨c, h1, h2⟩ := h.fn
    exact ⟨c, nm _ _ h1 (Or.inr ⟨c, _, _, rfl, by decide, by decide⟩), h2⟩
  · rintro ⟨c, ty, fz, e, hty⟩
    refine ⟨c, ty, fz, e, ?_⟩
    rcases hty with rfl | rfl | rfl | rfl | rfl <;> exact ⟨by decide, by decide⟩

theorem box_kept0 {w7 w8 : World} {O : Obj} {b : Nat} {v : Value} (hc : w7.cell? ⟨b, 0, none⟩ = some v) (hf : w7.frozen? ⟨b, 0, none⟩ = false) (hb : b < w7.heap.size) (hg : (w7.alloc O).grownBy w8 none) : w8.cell? ⟨b, 0, none⟩ = some v ∧ w8.frozen? ⟨b, 0, none⟩ = false := by
  have h1 : w8.heap[b]? = w7.heap[b]? := (hg.block b (by simp; omega) (by simp)).trans (Below.heap_alloc w7 O b hb)
  exact ⟨(World.cell?_of_block (a := ⟨b, 0, none⟩) h1).trans hc, (World.frozen?_of_block (a := ⟨b, 0, none⟩) h1).trans hf⟩

/-- One value more, behind some of them. -/
theorem FoAt.push {w W w7 w8 : World} {O : Obj} {t : Lf} {fv v v8 : Value} {vs : List Bool} {m : Nat} {gv : Bool} (h : FoAt w W t fv v vs) (K7 : Kept0 W w7) (hm : m ≤ vs.length) (hown : w8.ownsRow w.heap.size 4 1 v8 (m + 1) ((boolC vs).take m ++ [.bool gv])) (hgrow : (w7.alloc O).grownBy w8 v.ownBlock) (B : Nat) :
    FoAt w (w8.setCell ⟨w.heap.size + 1, 0, none⟩ v8) t fv v8 (vs.take m ++ [gv]) ∧ Kr WTy B W (w8.setCell ⟨w.heap.size + 1, 0, none⟩ v8) := by
  have hne : v.ownBlock ≠ some (w.heap.size + 1) := rowIs_type h.box (by decide) h.row
  have K8 : Kept (fun k => v.ownBlock = some k ∨ k = w.heap.size + 1) W w8 := Kept.grown ((Kept.mono K7 (fun _ _ e => e.elim)).alloc O) hgrow (fun k e => Or.inl e)
  have hb8 : w8.rowIs (w.heap.size + 1) 120 1 (fun _ => v) := by
    have hb7 := h.box.of_block (K7.block _ h.box.lt (fun e => e))
    exact hb7.of_block ((hgrow.block _ (by simp; have := hb7.lt; omega) (fun e => hne e.symm)).trans (Below.heap_alloc w7 O _ hb7.lt))
  have hne8 : v8.ownBlock ≠ some (w.heap.size + 1) := rowIs_type hb8 (by decide) hown
  have e1 : boolC (vs.take m ++ [gv]) = (boolC vs).take m ++ [.bool gv] := by simp [boolC, List.map_take]
  have e2 : (vs.take m ++ [gv]).length = m + 1 := by simp; omega
  refine h.put (K8.setCell (p := ⟨w.heap.size + 1, 0, none⟩) (Or.inr rfl) v8) ?_ ?_ B
  · exact World.rowIs.congr (hb8.set 0 v8) (fun j hj => by
      have : j = 0 := by omega
      subst this; simp)
  · rw [e1, e2]
    exact ownsRow_setCell_other hown hne8 v8

set_option maxRecDepth 100000 in
set_option maxHeartbeats 6000000 in
theorem fold_in (w : World) (t : Lf) (sb : Nat) (g : Lf → List Bool → Bool) (ht : Here w t) (hN : (wk t 0).length * 16 ≤ 140737488355328)
    (hV : ∀ W x args sv, x ∈ es t → Below w.heap.size w W → Here W x → BoolsAt W sv args → args.length = x.ks.length → Calls Tryz.prog 136 #[.pointer (some ⟨x.b, x.o, none⟩), sv, .pointer (some ⟨sb, 0, none⟩)] W fun e w' => e = .returned (.bool (g x args)) ∧ Kept0 W w') :
    Calls Tryz.prog 135 #[.pointer (some ⟨t.b, t.o, none⟩), .func (.func 136) #[] #[.pointer (some ⟨sb, 0, none⟩)]] w fun e w' => e = .returned (.bool (fo g t)) ∧ Below w.heap.size w w' := by
  refine (callsIn_wide (n := 9)).1 ?_
  refine callsIn_of_wp_marks Tryz.func135 rfl trivial ?_ rfl
  simp only [Tryz.ntmps135, List.size_toArray, List.length_cons, List.length_nil, Nat.reduceAdd, Nat.reduceSub, Array.replicate_succ, Array.replicate_zero, List.push_toArray, List.append_toArray, List.nil_append, List.cons_append]
  gi_wp2_with (first | (refine ⟨trivial, ?_⟩; gi_at_call 155; refine (callsIn_wide.2 (ends_in _ _)).mono ?_; rintro e w5 ⟨rfl, rfl⟩) | (gi_at_call 155; refine (callsIn_wide.2 (ends_in _ _)).mono ?_; rintro e w5 ⟨rfl, rfl⟩))
  have one : ∀ (w : World) (v : Value) (ty : TypeId), (w.alloc (.cells #[v] ty)).rowIs w.heap.size ty 1 (fun _ => v) := fun w v ty => World.rowIs.congr (made_row w #[v] ty) (fun j hj => by
    have : j = 0 := by simp at hj; omega
    subst this; rfl)
  have keep : ∀ {w : World} {b n : Nat} {f : Nat → Value} {ty : TypeId} (o : Obj), w.rowIs b ty n f → (w.alloc o).rowIs b ty n f := fun {w b n f ty} o h => h.of_block ((Kept.alloc (Kept.refl (fun _ => False) w) o).block b (World.rowIs.lt h) (fun e => e))
  have hz1 : (w.alloc (.cells #[.func (.func 136) #[] #[.pointer (some ⟨sb, 0, none⟩)]] 244)).heap.size = w.heap.size + 1 := by simp
  have hz2 : ((w.alloc (.cells #[.func (.func 136) #[] #[.pointer (some ⟨sb, 0, none⟩)]] 244)).alloc (.cells #[.slice none 0 0] 120)).heap.size = w.heap.size + 2 := by simp
  have F3 : FoAt w (((w.alloc (.cells #[.func (.func 136) #[] #[.pointer (some ⟨sb, 0, none⟩)]] 244)).alloc (.cells #[.slice none 0 0] 120)).alloc (.cells #[.pointer (some ⟨t.b, t.o, none⟩)] 161)) t (.func (.func 136) #[] #[.pointer (some ⟨sb, 0, none⟩)]) (.slice none 0 0) [] :=
    ⟨(((Below.refl _ w).alloc (Nat.le_refl _) _).alloc (by simp) _).alloc (by simp; omega) _, ht.keep ((((FKeep.alloc 0 w _).trans (FKeep.alloc 0 _ _)).trans (FKeep.alloc 0 _ _)).toA _), keep _ (keep _ (one w _ _)), keep _ (hz1 ▸ one _ (.slice none 0 0) 120), World.ownsRow_nil _ _ _ _⟩
  have b3 : (((w.alloc (.cells #[.func (.func 136) #[] #[.pointer (some ⟨sb, 0, none⟩)]] 244)).alloc (.cells #[.slice none 0 0] 120)).alloc (.cells #[.pointer (some ⟨t.b, t.o, none⟩)] 161)).rowIs (w.heap.size + 2) 161 1 (fun _ => .pointer (some ⟨t.b, t.o, none⟩)) := hz2 ▸ one _ (.pointer (some ⟨t.b, t.o, none⟩)) 161
  have hz3 : (((w.alloc (.cells #[.func (.func 136) #[] #[.pointer (some ⟨sb, 0, none⟩)]] 244)).alloc (.cells #[.slice none 0 0] 120)).alloc (.cells #[.pointer (some ⟨t.b, t.o, none⟩)] 161)).heap.size = w.heap.size + 3 := by simp
  rw [show w.heap.size + 1 + 1 = w.heap.size + 2 from rfl]
  generalize (((w.alloc (.cells #[.func (.func 136) #[] #[.pointer (some ⟨sb, 0, none⟩)]] 244)).alloc (.cells #[.slice none 0 0] 120)).alloc (.cells #[.pointer (some ⟨t.b, t.o, none⟩)] 161)) = w3 at F3 b3 hz3 ⊢
  clear one keep hz1 hz2
  refine rangeT (by decide : 1 ≤ 9) (gf := 195) (lb := #[.pointer (some ⟨w.heap.size + 2, 0, none⟩)]) rfl (enters_of Tryz.func195 (by kernel_rfl) rfl) (ends1_in 8 (by decide) (w.heap.size + 2) t w3 b3 F3.here hN) (Below.refl _ _) (fun _ => rfl)
    (fun i W => ∃ v, FoAt w W t (.func (.func 136) #[] #[.pointer (some ⟨sb, 0, none⟩)]) v (stV g t i))
    ?hI ?h0 (fun x => { tmps := #[.pointer (some ⟨t.b, t.o, none⟩), .func (.func 136) #[] #[.pointer (some ⟨sb, 0, none⟩)], undef, .pointer (some ⟨w.heap.size, 0, none⟩), .bool false, .pointer (some ⟨w.heap.size + 1, 0, none⟩), .pointer (some ⟨x.b, x.o, none⟩), undef, .pointer (some ⟨t.b, t.o, none⟩), .func (.func 195) #[] #[.pointer (some ⟨w.heap.size + 2, 0, none⟩)], .pointer (some ⟨x.b, x.o, none⟩), undef, undef, undef, undef, undef, undef, undef, undef, undef, undef, undef, undef, undef, undef, undef, undef, undef, undef, undef, undef], defers := [] }) ?assign ?body ?done
  case hI =>
    rintro i A B ⟨v, h⟩ hO
    exact ⟨v, h.ow hO (by omega)⟩
  case h0 => exact ⟨_, F3⟩
  case assign =>
    intro l2 x W1 K hK
    unfold encE
    gi_wp2
    exact hK
  case body =>
    rintro l2 i x W1 hx hw1 ⟨v, h⟩
    obtain ⟨hS1, hS2⟩ := stV_step (g := g) hx
    have hlen := stV_len g t i
    have hxm := List.mem_of_getElem? hx
    have hxh := es_here h.here hxm
    obtain ⟨ka, kc, hkf⟩ := kids_form hxh
    have KD : ∀ m, Calls Tryz.prog 156 #[.pointer (some ⟨x.b, x.o, none⟩)] (W1.drewN m) fun e w' => e = .returned (.slice ka x.ks.length kc) ∧ w' = W1.drewN m := fun m => by
      have := kids_in (W1.drewN m) x (hxh.keep (show FKeepA _ W1 (W1.drewN m) from fun k c fz _ hk => hk))
      rw [hkf] at this
      exact this
    obtain ⟨va, vc, hv⟩ := row_form h.row
    subst hv
    have c5 := h.box.cell (i := 0) (by omega)
    have hes : i ≤ 8796093022208 := by
      have h1 := (List.getElem?_eq_some_iff.1 hx).1
      have h2 := List.length_filterMap_le isEnd (wk t 0)
      have h3 : (es t).length ≤ (wk t 0).length := h2
      omega
    gi_wp2
    refine region_round (by kernel_rfl) (by rintro ⟨_, _, hh⟩; exact hh) ?_
    refine any_of W1 ?_
    go_region_law (first | (refine redirect (by assumption) ?_) | (go_simp; go_at_call 156; refine (KD 1).mono ?_; rintro e w5 ⟨rfl, rfl⟩))
    all_goals
      simp only [Act.put, List.getElem_toArray, List.getElem_cons_succ, List.getElem_cons_zero, List.setIfInBounds_toArray, List.set_cons_succ, List.set_cons_zero]
      gi_wp2
      have h2 : FoAt w (W1.drewN 1) t _ _ _ := h.ow (Ow.drewN W1 1) (Nat.le_refl _)
      have hd1 : Kr WTy w3.heap.size W1 (W1.drewN 1) := ⟨Nat.le_refl _, fun _ _ hh _ => hh⟩
      clear c5 KD
      generalize W1.drewN 1 = W2 at h2 hd1 ⊢
      obtain ⟨m, hm⟩ : ∃ m, (stV g t i).length = m + x.ks.length := ⟨(stV g t i).length - x.ks.length, by omega⟩
      have hwr : IntKind.i64.wrap (((stV g t i).length : Int) - (x.ks.length : Int)) = (m : Int) := by
        rw [hm]
        have : ((m + x.ks.length : Nat) : Int) - (x.ks.length : Int) = (m : Int) := by omega
        rw [this]
        exact wrapped (by omega)
      simp only [hwr]
      clear hwr
      have hargs : ((stV g t i).drop m).length = x.ks.length := by rw [List.length_drop]; omega
      have hstep : Hid (stV g t (i + 1) = (stV g t i).take m ++ [g x ((stV g t i).drop m)]) := by
        show _ = _
        rw [hS1, foS, hm, show m + x.ks.length - x.ks.length = m from by omega]
      have hxh2 : Here W2 x := es_here h2.here (List.mem_of_getElem? hx)
      have c5 := h2.box.cell (i := 0) (by omega)
      have c3 := h2.fn.cell (i := 0) (by omega)
      obtain ⟨i0, hi0, hz0, hz1, hz2⟩ := info_parts infoBool
      rcases h2.row.2 with ⟨hv, hn0⟩ | ⟨gb, cap, cur, hv, _⟩
      · have hv' : va = none ∧ (stV g t i).length = 0 ∧ vc = 0 := by simpa using hv
        obtain ⟨rfl, hn1, rfl⟩ := hv'
        obtain rfl : m = 0 := by omega
        have hk0 : x.ks.length = 0 := by omega
        have hdr : (stV g t i).drop 0 = [] := by rw [List.drop_zero]; exact List.eq_nil_of_length_eq_zero hn1
        have VC : ∀ mm, Calls Tryz.prog 136 #[.pointer (some ⟨x.b, x.o, none⟩), .slice none 0 0, .pointer (some ⟨sb, 0, none⟩)] (W2.drewN mm) fun e w' => e = .returned (.bool (g x ((stV g t i).drop 0))) ∧ Kept0 W2 w' := fun mm => (hV (W2.drewN mm) x _ _ hxm (h2.below.trans ⟨rfl, rfl, rfl, Nat.le_refl _, fun _ _ => rfl⟩) (hxh2.keep (show FKeepA _ W2 (W2.drewN mm) from fun _ _ _ _ hk => hk)) ⟨none, 0, by rw [hdr]; rfl, Or.inl hdr⟩ hargs).mono (by
          rintro e w' ⟨h3, h4⟩
          exact ⟨h3, ((Kept.refl _ W2).drewN mm).trans h4⟩)
        have ORow : ∀ w7, Kept0 W2 w7 → w7.ownsRow w.heap.size 4 1 (.slice none 0 0) 0 ((boolC (stV g t i)).take 0) ∧ w7.cell? ⟨w.heap.size + 1, 0, none⟩ = some (.slice none 0 0) ∧ w7.frozen? ⟨w.heap.size + 1, 0, none⟩ = false ∧ w.heap.size + 1 < w7.heap.size := fun w7 K7 => by
          have hb7 := h2.box.of_block (K7.block _ h2.box.lt (fun e => e))
          refine ⟨by rw [List.take_zero]; exact World.ownsRow_nil _ _ _ _, ?_, hb7.frozen 0, hb7.lt⟩
          have := hb7.cell (i := 0) (by omega)
          rw [hn1] at this
          exact this
        rw [hn1] at c5
        have HH : Hid (_ ∧ _) := ⟨h2, hd1⟩
        have hw2 : w.heap.size ≤ W2.heap.size := h2.below.size
        clear h h2 hxh2 hV F3 b3 hv hkf hxh hS1 hS2 hd1 hdr hargs
        simp only [hn1, hk0]
        refine region_round (by kernel_rfl) (by rintro ⟨_, _, hh⟩; exact hh) ?_
        refine any_of W2 ?_
        generalize hG : g x ((stV g t i).drop 0) = gv at VC hstep
        clear hG hk0
        go_region_law (first | (refine redirect (by assumption) ?_) | (refine step_append_here rfl (.tmp 19) (.tmp 26) 120 rfl w.heap.size 4 i0 _ 1 1 Tryz.underlying120 hi0 hz0 hz1 hz2 rfl (by decide) (.slice none 0 0) 0 ((boolC (stV g t i)).take 0) (by rfl) (by exact OR7.alloc _) ⟨w7.heap.size, 0, none⟩ 1 1 [.bool gv] (by rfl) rfl (cell_one_new _ _ _) (by simp [Value.oneCell']) (by unfold maxLen; omega) (by omega) (by simp; omega) ?_; intro v8 w8 hown8 hgrow8 hloc8; obtain ⟨g8, cap8, hv8⟩ := ownsRow_succ hown8; subst hv8; obtain ⟨b8, f8⟩ := box_kept0 b7 f7 z7 hgrow8) | (go_simp; go_at_call 136; refine (VC 1).mono ?_; rintro e w7 ⟨rfl, K7⟩; obtain ⟨OR7, b7, f7, z7⟩ := ORow w7 K7))
        all_goals
          try simp only [Act.put, List.getElem_toArray, List.getElem_cons_succ, List.getElem_cons_zero, List.setIfInBounds_toArray, List.set_cons_succ, List.set_cons_zero]
          gi_wp2
          obtain ⟨h2, hd1⟩ := HH.out
          obtain ⟨F', K'⟩ := FoAt.push h2 K7 (by omega) hown8 hgrow8 w3.heap.size
          exact ⟨hd1.trans K', _, hstep.out ▸ F'⟩
      · have hv' : va = some ⟨gb, 0, none⟩ ∧ vc = cap := by simpa using hv
        obtain ⟨rfl, rfl⟩ := hv'
        have hc1 : m + x.ks.length ≤ vc := by
          rcases h2.row.2 with ⟨hv, _⟩ | ⟨_, _, _, hv, _, _, hv2, _⟩
          · simp at hv
          · simp at hv; omega
        obtain ⟨so, hso⟩ : ∃ so : Option Addr, (if vc = m then some ⟨gb, 0, none⟩ else some ⟨gb, m, none⟩) = so := ⟨_, rfl⟩
        have BA : ∀ cc, BoolsAt W2 (.slice so x.ks.length cc) ((stV g t i).drop m) := fun cc => by
          by_cases hvm : vc = m
          · have h0 : x.ks.length = 0 := by omega
            have h1 : (stV g t i).drop m = [] := List.eq_nil_of_length_eq_zero (by rw [hargs, h0])
            exact ⟨so, cc, by rw [h1, h0]; rfl, Or.inl h1⟩
          · rw [if_neg hvm] at hso
            have := boolsAt_drop (m := m) h2.row rfl cc
            rw [hm, show m + x.ks.length - m = x.ks.length from by omega, hso] at this
            exact this
        have VC : ∀ mm, Calls Tryz.prog 136 #[.pointer (some ⟨x.b, x.o, none⟩), .slice so x.ks.length (vc - m), .pointer (some ⟨sb, 0, none⟩)] (W2.drewN mm) fun e w' => e = .returned (.bool (g x ((stV g t i).drop m))) ∧ Kept0 W2 w' := fun mm => (hV (W2.drewN mm) x _ _ hxm (h2.below.trans ⟨rfl, rfl, rfl, Nat.le_refl _, fun _ _ => rfl⟩) (hxh2.keep (show FKeepA _ W2 (W2.drewN mm) from fun _ _ _ _ hk => hk)) (BA (vc - m)) hargs).mono (by
          rintro e w' ⟨h3, h4⟩
          exact ⟨h3, ((Kept.refl _ W2).drewN mm).trans h4⟩)
        have ORow : ∀ w7, Kept0 W2 w7 → w7.ownsRow w.heap.size 4 1 (.slice (some ⟨gb, 0, none⟩) m vc) m ((boolC (stV g t i)).take m) ∧ w7.cell? ⟨w.heap.size + 1, 0, none⟩ = some (.slice (some ⟨gb, 0, none⟩) (m + x.ks.length) vc) ∧ w7.frozen? ⟨w.heap.size + 1, 0, none⟩ = false ∧ w.heap.size + 1 < w7.heap.size := fun w7 K7 => by
          have hb7 := h2.box.of_block (K7.block _ h2.box.lt (fun e => e))
          refine ⟨ownsRow_take (h2.row.kept K7.grownBy (Decidable.em _)) (by omega), ?_, hb7.frozen 0, hb7.lt⟩
          have := hb7.cell (i := 0) (by omega)
          rw [hm] at this
          exact this
        rw [hm] at c5
        have HH : Hid (_ ∧ _ ∧ _ ∧ _) := ⟨h2, hd1, hxh2, BA⟩
        have hw2 : w.heap.size ≤ W2.heap.size := h2.below.size
        have hgb : gb ≠ w.heap.size + 1 := fun e => rowIs_type h2.box (by decide) h2.row (by simp [Value.ownBlock, e])
        clear h h2 hxh2 hV F3 b3 hv hkf hxh hS1 hS2 BA hd1
        have hml : m ≤ 8796093022208 := by omega
        have hmv : m ≤ vc := by omega
        have hkk : m + x.ks.length - m = x.ks.length := by omega
        have hki : (m : Int) ≤ (m : Int) + (x.ks.length : Int) := by omega
        refine region_round (by kernel_rfl) (by rintro ⟨_, _, hh⟩; exact hh) ?_
        refine any_of W2 ?_
        generalize hG : g x ((stV g t i).drop m) = gv at VC hstep
        clear hG
        go_region_law (first | (refine redirect (by assumption) ?_) | (refine step_append_here rfl (.tmp 19) (.tmp 26) 120 rfl w.heap.size 4 i0 _ 1 1 Tryz.underlying120 hi0 hz0 hz1 hz2 rfl (by decide) (.slice (some ⟨gb, 0, none⟩) m vc) m ((boolC (stV g t i)).take m) (by rfl) (by exact OR7.alloc _) ⟨w7.heap.size, 0, none⟩ 1 1 [.bool gv] (by rfl) rfl (cell_one_new _ _ _) (by simp [Value.oneCell']) (by unfold maxLen; omega) (by omega) (by simp; omega) ?_; intro v8 w8 hown8 hgrow8 hloc8; obtain ⟨g8, cap8, hv8⟩ := ownsRow_succ hown8; subst hv8; obtain ⟨b8, f8⟩ := box_kept b7 f7 z7 hgb hgrow8) | (go_simp; go_at_call 136; refine (VC 1).mono ?_; rintro e w7 ⟨rfl, K7⟩; obtain ⟨OR7, b7, f7, z7⟩ := ORow w7 K7))
        all_goals
          try simp only [Act.put, List.getElem_toArray, List.getElem_cons_succ, List.getElem_cons_zero, List.setIfInBounds_toArray, List.set_cons_succ, List.set_cons_zero]
          gi_wp2
          obtain ⟨h2, hd1, _, _⟩ := HH.out
          obtain ⟨F', K'⟩ := FoAt.push h2 K7 (by omega) hown8 hgrow8 w3.heap.size
          exact ⟨hd1.trans K', _, hstep.out ▸ F'⟩
  case done =>
    rintro D W3 hD ⟨v, h⟩ hK
    rw [stV_all] at h
    obtain ⟨gb, cap, hv⟩ := ownsRow_succ (xs := boolC [fo g t]) h.row
    subst hv
    have c5 := h.box.cell (i := 0) (by omega)
    have c6 : W3.cell? ⟨gb, 0, none⟩ = some (.bool (fo g t)) := by
      have := h.row.cellAt 0 (by simp)
      simpa [boolC] using this
    have hBl := h.below
    clear h
    gi_wp2
    refine ⟨by simp, .inl ⟨_, _, rfl, run_takeDeferred hK, ?_⟩⟩
    exact ⟨_, results_tmp rfl _ _ _, rfl, hBl.trans (belowK_b (w := w) (Nat.le_refl _) W3 D _ _ (by omega) hK rfl rfl)⟩

end Go.Proofs.YtlehlgipbhfioaaGreat
