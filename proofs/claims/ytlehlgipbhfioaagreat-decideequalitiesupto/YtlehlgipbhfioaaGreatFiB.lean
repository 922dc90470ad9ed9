/- Package logic: fold over literals. -/
import Derived.Test.YtlehlgipbhfioaaGreatP40
namespace Go.Proofs.YtlehlgipbhfioaaGreat
open Go.RowKit Go.Shelf

attribute [local go_sem] Oper.semAt_some

/-- Behind a literal: the values are as they were. -/
theorem FiAt.after {w W w7 : World} {t : Lf} {fv v : Value} {mb ab : Nat} {ps : List (Int × Int)} {rv0 rv rv' : Value} {S0 S S' : Nat → Prop} {s : List Int × Sc} {st' : Sc} (h : FiAt w W t fv v mb ab ps rv0 S0 S rv s) (X : MadeX S W rv S' w7 rv' mb ab ps st') :
    w7.ownsRow w.heap.size 3 1 v s.1.length (litC s.1) ∧ w7.rowIs (w.heap.size + 1) 39 1 (fun _ => v) := by
  have smb := h.made.is.smb
  have srv := h.made.is.srv
  refine ⟨ownsRow_block h.row (fun b hb => X.kept.block b ?_ ?_), h.box.of_block (X.kept.block _ h.box.lt ?_)⟩
  · rcases h.row.2 with ⟨e, _⟩ | ⟨g, cap, cur, e, e1, e2, _⟩
    · rw [e] at hb; simp [Value.ownBlock] at hb
    · rw [e] at hb
      simp [Value.ownBlock] at hb
      subst hb
      exact (Array.getElem?_eq_some_iff.1 e2).1
  · rintro (e | e)
    · subst e; exact (h.sep _ smb).2.2 hb
    · exact (h.sep _ (srv b e)).2.2 hb
  · rintro (e | e)
    · exact (h.sep mb smb).2.1 e.symm
    · exact (h.sep _ (srv _ e)).2.1 rfl

set_option maxRecDepth 100000 in
set_option maxHeartbeats 6000000 in
theorem foldi_in (w : World) (t : Lf) (an : Int × Int → Nat) (n : Nat) (S0 : Nat → Prop) (mb ab : Nat) (ps : List (Int × Int)) (rv0 : Value) (ht : Here w t) (hN : (wk t 0).length * 16 ≤ 140737488355328) (hm : Mk S0 w mb ab ps rv0 (n, []))
    (hV : ∀ W S rv i x sv args, (es t)[i]? = some x → Mk S W mb ab ps rv (stC an t n i).2 → Here W x → args = (stC an t n i).1.drop ((stC an t n i).1.length - x.ks.length) → IntsAt W sv args → args.length = x.ks.length → Calls Tryz.prog 120 #[.pointer (some ⟨mb, 0, none⟩), .pointer (some ⟨x.b, x.o, none⟩), sv] W fun e w' => e = .returned (.int .i64 (litG an x args (stC an t n i).2).1) ∧ Made S W w' mb ab ps rv (litG an x args (stC an t n i).2).2) (r : Int) (st' : Sc) (hres : stC an t n (es t).length = ([r], st')) :
    Calls Tryz.prog 119 #[.pointer (some ⟨t.b, t.o, none⟩), .func (.func 120) #[.pointer (some ⟨mb, 0, none⟩)] #[]] w fun e w' => e = .returned (.int .i64 r) ∧ Made S0 w w' mb ab ps rv0 st' := by
  refine (callsIn_wide (n := 9)).1 ?_
  refine callsIn_of_wp_marks Tryz.func119 rfl trivial ?_ rfl
  simp only [Tryz.ntmps119, List.size_toArray, List.length_cons, List.length_nil, Nat.reduceAdd, Nat.reduceSub, Array.replicate_succ, Array.replicate_zero, List.push_toArray, List.append_toArray, List.nil_append, List.cons_append]
  gi_wp2_with (first | (refine ⟨trivial, ?_⟩; gi_at_call 155; refine (callsIn_wide.2 (ends_in _ _)).mono ?_; rintro e w5 ⟨rfl, rfl⟩) | (gi_at_call 155; refine (callsIn_wide.2 (ends_in _ _)).mono ?_; rintro e w5 ⟨rfl, rfl⟩))
  have one : ∀ (w : World) (v : Value) (ty : TypeId), (w.alloc (.cells #[v] ty)).rowIs w.heap.size ty 1 (fun _ => v) := fun w v ty => World.rowIs.congr (made_row w #[v] ty) (fun j hj => by
    have : j = 0 := by simp at hj; omega
    subst this; rfl)
  have keep : ∀ {w : World} {b n : Nat} {f : Nat → Value} {ty : TypeId} (o : Obj), w.rowIs b ty n f → (w.alloc o).rowIs b ty n f := fun {w b n f ty} o h => h.of_block ((Kept.alloc (Kept.refl (fun _ => False) w) o).block b (World.rowIs.lt h) (fun e => e))
  have hz1 : (w.alloc (.cells #[.func (.func 120) #[.pointer (some ⟨mb, 0, none⟩)] #[]] 229)).heap.size = w.heap.size + 1 := by simp
  have hz2 : ((w.alloc (.cells #[.func (.func 120) #[.pointer (some ⟨mb, 0, none⟩)] #[]] 229)).alloc (.cells #[.slice none 0 0] 39)).heap.size = w.heap.size + 2 := by simp
  have K3 : Kept0 w (((w.alloc (.cells #[.func (.func 120) #[.pointer (some ⟨mb, 0, none⟩)] #[]] 229)).alloc (.cells #[.slice none 0 0] 39)).alloc (.cells #[.pointer (some ⟨t.b, t.o, none⟩)] 161)) := (((Kept.refl _ w).alloc _).alloc _).alloc _
  have F3 : FiAt w (((w.alloc (.cells #[.func (.func 120) #[.pointer (some ⟨mb, 0, none⟩)] #[]] 229)).alloc (.cells #[.slice none 0 0] 39)).alloc (.cells #[.pointer (some ⟨t.b, t.o, none⟩)] 161)) t (.func (.func 120) #[.pointer (some ⟨mb, 0, none⟩)] #[]) (.slice none 0 0) mb ab ps rv0 S0 S0 rv0 ([], (n, [])) :=
    ⟨MadeX.none hm K3, ⟨hm.lt _ hm.smb, hm.lt _ hm.sab⟩, ht.keep ((((FKeep.alloc 0 w _).trans (FKeep.alloc 0 _ _)).trans (FKeep.alloc 0 _ _)).toA _), keep _ (keep _ (one w _ _)), keep _ (hz1 ▸ one _ (.slice none 0 0) 39), World.ownsRow_nil _ _ _ _, fun k hk => ⟨by have := hm.lt k hk; omega, by have := hm.lt k hk; omega, by simp [Value.ownBlock]⟩⟩
  have b3 : (((w.alloc (.cells #[.func (.func 120) #[.pointer (some ⟨mb, 0, none⟩)] #[]] 229)).alloc (.cells #[.slice none 0 0] 39)).alloc (.cells #[.pointer (some ⟨t.b, t.o, none⟩)] 161)).rowIs (w.heap.size + 2) 161 1 (fun _ => .pointer (some ⟨t.b, t.o, none⟩)) := hz2 ▸ one _ (.pointer (some ⟨t.b, t.o, none⟩)) 161
  have hz3 : (((w.alloc (.cells #[.func (.func 120) #[.pointer (some ⟨mb, 0, none⟩)] #[]] 229)).alloc (.cells #[.slice none 0 0] 39)).alloc (.cells #[.pointer (some ⟨t.b, t.o, none⟩)] 161)).heap.size = w.heap.size + 3 := by simp
  rw [show w.heap.size + 1 + 1 = w.heap.size + 2 from rfl]
  clear K3
  generalize (((w.alloc (.cells #[.func (.func 120) #[.pointer (some ⟨mb, 0, none⟩)] #[]] 229)).alloc (.cells #[.slice none 0 0] 39)).alloc (.cells #[.pointer (some ⟨t.b, t.o, none⟩)] 161)) = w3 at F3 b3 hz3 ⊢
  clear one keep hz1 hz2
  refine rangeT (by decide : 1 ≤ 9) (gf := 195) (lb := #[.pointer (some ⟨w.heap.size + 2, 0, none⟩)]) rfl (enters_of Tryz.func195 (by kernel_rfl) rfl) (ends1_in 8 (by decide) (w.heap.size + 2) t w3 b3 F3.here hN) (Below.refl _ _) (fun _ => rfl)
    (fun i W => ∃ v S rv, FiAt w W t (.func (.func 120) #[.pointer (some ⟨mb, 0, none⟩)] #[]) v mb ab ps rv0 S0 S rv (stC an t n i))
    ?hI ?h0 (fun x => { tmps := #[.pointer (some ⟨t.b, t.o, none⟩), .func (.func 120) #[.pointer (some ⟨mb, 0, none⟩)] #[], undef, .pointer (some ⟨w.heap.size, 0, none⟩), .int .i64 0, .pointer (some ⟨w.heap.size + 1, 0, none⟩), .pointer (some ⟨x.b, x.o, none⟩), undef, .pointer (some ⟨t.b, t.o, none⟩), .func (.func 195) #[] #[.pointer (some ⟨w.heap.size + 2, 0, none⟩)], .pointer (some ⟨x.b, x.o, none⟩), undef, undef, undef, undef, undef, undef, undef, undef, undef, undef, undef, undef, undef, undef, undef, undef, undef, undef, undef, undef], defers := [] }) ?assign ?body ?done
  case hI =>
    rintro i A B ⟨v, S, rv, h⟩ hO
    exact ⟨v, S, rv, h.ow hO (by omega)⟩
  case h0 => exact ⟨_, _, _, F3⟩
  case assign =>
    intro l2 x W1 K hK
    unfold encE
    gi_wp2
    exact hK
  case body =>
    rintro l2 i x W1 hx hw1 ⟨v, S, rv, h⟩
    have hS1 := stC_step (an := an) (n := n) hx
    have hS2 := stC_enough (an := an) (n := n) hx
    have hlen : (stC an t n i).1.length ≤ i := by rw [stC_len]; exact stV_len _ t i
    have hxm := List.mem_of_getElem? hx
    have hxh := es_here h.here hxm
    obtain ⟨ka, kc, hkf⟩ := kids_form hxh
    have KD : ∀ m, Calls Tryz.prog 156 #[.pointer (some ⟨x.b, x.o, none⟩)] (W1.drewN m) fun e w' => e = .returned (.slice ka x.ks.length kc) ∧ w' = W1.drewN m := fun m => by
      have := kids_in (W1.drewN m) x (hxh.keep (show FKeepA _ W1 (W1.drewN m) from fun k c fz _ hk => hk))
      rw [hkf] at this
      exact this
    obtain ⟨va, vc, hv⟩ := row_formM h.row
    subst hv
    have c5 := h.box.cell (i := 0) (by omega)
    have hes : i ≤ 8796093022208 := by
      have h1 := (List.getElem?_eq_some_iff.1 hx).1
      have h2 := List.length_filterMap_le isEnd (wk t 0)
      have h3 : (es t).length ≤ (wk t 0).length := h2
      omega
    gi_wp2
    refine region_round (by kernel_rfl) (by rintro ⟨_, _, hh⟩; exact hh) ?_
    refine any_of W1 ?_
    go_region_law (first | (refine redirect (by assumption) ?_) | (go_simp; go_at_call 156; refine (KD 1).mono ?_; rintro e w5 ⟨rfl, rfl⟩))
    all_goals
      simp only [Act.put, List.getElem_toArray, List.getElem_cons_succ, List.getElem_cons_zero, List.setIfInBounds_toArray, List.set_cons_succ, List.set_cons_zero]
      gi_wp2
      have h2 : FiAt w (W1.drewN 1) t _ _ _ _ _ _ _ _ _ _ := h.ow (Ow.drewN W1 1) (Nat.le_refl _)
      have hd1 : Kr WTy w3.heap.size W1 (W1.drewN 1) := ⟨Nat.le_refl _, fun _ _ hh _ => hh⟩
      clear c5 KD
      generalize W1.drewN 1 = W2 at h2 hd1 ⊢
      obtain ⟨m, hm'⟩ : ∃ m, (stC an t n i).1.length = m + x.ks.length := ⟨(stC an t n i).1.length - x.ks.length, by omega⟩
      have hwr : IntKind.i64.wrap (((stC an t n i).1.length : Int) - (x.ks.length : Int)) = (m : Int) := by
        rw [hm']
        have : ((m + x.ks.length : Nat) : Int) - (x.ks.length : Int) = (m : Int) := by omega
        rw [this]
        exact wrapped (by omega)
      simp only [hwr]
      clear hwr
      have hargs : ((stC an t n i).1.drop m).length = x.ks.length := by rw [List.length_drop]; omega
      have hdrop : (stC an t n i).1.length - x.ks.length = m := by omega
      have hstep : Hid (stC an t n (i + 1) = ((stC an t n i).1.take m ++ [(litG an x ((stC an t n i).1.drop m) (stC an t n i).2).1], (litG an x ((stC an t n i).1.drop m) (stC an t n i).2).2)) := by
        show _ = _
        rw [hS1, stepL, hdrop]
      have hxh2 : Here W2 x := es_here h2.here (List.mem_of_getElem? hx)
      have c5 := h2.box.cell (i := 0) (by omega)
      have c3 := h2.fn.cell (i := 0) (by omega)
      obtain ⟨i0, hi0, hz0, hz1, hz2⟩ := info_parts infoIntF
      rcases h2.row.2 with ⟨hv, hn0⟩ | ⟨gb, cap, cur, hv, _⟩
      · have hv' : va = none ∧ (stC an t n i).1.length = 0 ∧ vc = 0 := by simpa using hv
        obtain ⟨rfl, hn1, rfl⟩ := hv'
        obtain rfl : m = 0 := by omega
        have hk0 : x.ks.length = 0 := by omega
        have hdr : (stC an t n i).1.drop 0 = [] := by rw [List.drop_zero]; exact List.eq_nil_of_length_eq_zero hn1
        have VC : ∀ mm, Calls Tryz.prog 120 #[.pointer (some ⟨mb, 0, none⟩), .pointer (some ⟨x.b, x.o, none⟩), .slice none 0 0] (W2.drewN mm) fun e w' => e = .returned (.int .i64 (litG an x ((stC an t n i).1.drop 0) (stC an t n i).2).1) ∧ Made S W2 w' mb ab ps rv (litG an x ((stC an t n i).1.drop 0) (stC an t n i).2).2 := fun mm => (hV (W2.drewN mm) S rv i x _ _ hx (h2.made.is.keep (Nat.le_refl _) (fun _ _ => rfl)) (hxh2.keep (show FKeepA _ W2 (W2.drewN mm) from fun _ _ _ _ hk => hk)) (by rw [hdrop]) ⟨none, 0, by rw [hdr]; rfl, Or.inl hdr⟩ hargs).mono (by
          rintro e w' ⟨h3, S', rv', X⟩
          exact ⟨h3, S', rv', (MadeX.none h2.made.is ((Kept.refl _ W2).drewN mm)).trans X⟩)
        have ORow : Hid (∀ w7 S7 rv7 st7, MadeX S W2 rv S7 w7 rv7 mb ab ps st7 → w7.ownsRow w.heap.size 3 1 (.slice none 0 0) 0 ((litC (stC an t n i).1).take 0) ∧ w7.cell? ⟨w.heap.size + 1, 0, none⟩ = some (.slice none 0 0) ∧ w7.frozen? ⟨w.heap.size + 1, 0, none⟩ = false ∧ w.heap.size + 1 < w7.heap.size ∧ w.heap.size ≤ w7.heap.size) := fun w7 S7 rv7 st7 X7 => by
          obtain ⟨_, hb7⟩ := h2.after X7
          refine ⟨by rw [List.take_zero]; exact World.ownsRow_nil _ _ _ _, ?_, hb7.frozen 0, hb7.lt, by have := hb7.lt; omega⟩
          have := hb7.cell (i := 0) (by omega)
          rw [hn1] at this
          exact this
        rw [hn1] at c5
        have HH : Hid (_ ∧ _) := ⟨h2, hd1⟩
        clear h h2 hxh2 hV F3 b3 hv hkf hxh hS1 hS2 hd1 hdr hargs hdrop
        simp only [hn1, hk0]
        refine region_round (by kernel_rfl) (by rintro ⟨_, _, hh⟩; exact hh) ?_
        refine any_of W2 ?_
        generalize hG : litG an x ((stC an t n i).1.drop 0) (stC an t n i).2 = gv at VC hstep
        clear hG hk0
        go_region_law (first | (refine redirect (by assumption) ?_) | (refine step_append_here rfl (.tmp 19) (.tmp 26) 39 rfl w.heap.size 3 i0 _ 1 8 Tryz.underlying39 hi0 hz0 hz1 hz2 rfl (by decide) (.slice none 0 0) 0 ((litC (stC an t n i).1).take 0) (by rfl) (by exact OR7.alloc _) ⟨w7.heap.size, 0, none⟩ 1 1 [.int .i64 gv.1] (by rfl) rfl (cell_one_new _ _ _) (by simp [Value.oneCell']) (by unfold maxLen; omega) (by omega) (by simp; omega) ?_; intro v8 w8 hown8 hgrow8 hloc8; obtain ⟨g8, cap8, hv8⟩ := ownsRow_succ hown8; subst hv8; obtain ⟨b8, f8⟩ := box_kept0 b7 f7 z7 hgrow8) | (go_simp; go_at_call 120; refine (VC 1).mono ?_; rintro e w7 ⟨rfl, S7, rv7, X7⟩; obtain ⟨OR7, b7, f7, z7, zz7⟩ := ORow.out w7 S7 rv7 _ X7))
        all_goals
          try simp only [Act.put, List.getElem_toArray, List.getElem_cons_succ, List.getElem_cons_zero, List.setIfInBounds_toArray, List.set_cons_succ, List.set_cons_zero]
          gi_wp2
          obtain ⟨h2, hd1⟩ := HH.out
          obtain ⟨F', K'⟩ := FiAt.push h2 X7 (by omega) hown8 hgrow8 hloc8 w3.heap.size
          exact ⟨hd1.trans K', _, _, _, hstep.out ▸ F'⟩
      · have hv' : va = some ⟨gb, 0, none⟩ ∧ vc = cap := by simpa using hv
        obtain ⟨rfl, rfl⟩ := hv'
        have hc1 : m + x.ks.length ≤ vc := by
          rcases h2.row.2 with ⟨hv, _⟩ | ⟨_, _, _, hv, _, _, hv2, _⟩
          · simp at hv
          · simp at hv; omega
        obtain ⟨so, hso⟩ : ∃ so : Option Addr, (if vc = m then some ⟨gb, 0, none⟩ else some ⟨gb, m, none⟩) = so := ⟨_, rfl⟩
        have BA : ∀ cc, IntsAt W2 (.slice so x.ks.length cc) ((stC an t n i).1.drop m) := fun cc => by
          by_cases hvm : vc = m
          · have h0 : x.ks.length = 0 := by omega
            have h1 : (stC an t n i).1.drop m = [] := List.eq_nil_of_length_eq_zero (by rw [hargs, h0])
            exact ⟨so, cc, by rw [h1, h0]; rfl, Or.inl h1⟩
          · rw [if_neg hvm] at hso
            have := intsAt_drop (m := m) h2.row rfl cc
            rw [hm', show m + x.ks.length - m = x.ks.length from by omega, hso] at this
            exact this
        have VC : ∀ mm, Calls Tryz.prog 120 #[.pointer (some ⟨mb, 0, none⟩), .pointer (some ⟨x.b, x.o, none⟩), .slice so x.ks.length (vc - m)] (W2.drewN mm) fun e w' => e = .returned (.int .i64 (litG an x ((stC an t n i).1.drop m) (stC an t n i).2).1) ∧ Made S W2 w' mb ab ps rv (litG an x ((stC an t n i).1.drop m) (stC an t n i).2).2 := fun mm => (hV (W2.drewN mm) S rv i x _ _ hx (h2.made.is.keep (Nat.le_refl _) (fun _ _ => rfl)) (hxh2.keep (show FKeepA _ W2 (W2.drewN mm) from fun _ _ _ _ hk => hk)) (by rw [hdrop]) (BA (vc - m)) hargs).mono (by
          rintro e w' ⟨h3, S', rv', X⟩
          exact ⟨h3, S', rv', (MadeX.none h2.made.is ((Kept.refl _ W2).drewN mm)).trans X⟩)
        have ORow : Hid (∀ w7 S7 rv7 st7, MadeX S W2 rv S7 w7 rv7 mb ab ps st7 → w7.ownsRow w.heap.size 3 1 (.slice (some ⟨gb, 0, none⟩) m vc) m ((litC (stC an t n i).1).take m) ∧ w7.cell? ⟨w.heap.size + 1, 0, none⟩ = some (.slice (some ⟨gb, 0, none⟩) (m + x.ks.length) vc) ∧ w7.frozen? ⟨w.heap.size + 1, 0, none⟩ = false ∧ w.heap.size + 1 < w7.heap.size ∧ w.heap.size ≤ w7.heap.size) := fun w7 S7 rv7 st7 X7 => by
          obtain ⟨hr7, hb7⟩ := h2.after X7
          refine ⟨ownsRow_take hr7 (by omega), ?_, hb7.frozen 0, hb7.lt, by have := hb7.lt; omega⟩
          have := hb7.cell (i := 0) (by omega)
          rw [hm'] at this
          exact this
        rw [hm'] at c5
        have HH : Hid (_ ∧ _ ∧ _ ∧ _) := ⟨h2, hd1, hxh2, BA⟩
        have hgb : gb ≠ w.heap.size + 1 := fun e => rowIs_type h2.box (by decide) h2.row (by simp [Value.ownBlock, e])
        clear h h2 hxh2 hV F3 b3 hv hkf hxh hS1 hS2 BA hd1 hdrop
        have hml : m ≤ 8796093022208 := by omega
        have hmv : m ≤ vc := by omega
        have hkk : m + x.ks.length - m = x.ks.length := by omega
        have hki : (m : Int) ≤ (m : Int) + (x.ks.length : Int) := by omega
        refine region_round (by kernel_rfl) (by rintro ⟨_, _, hh⟩; exact hh) ?_
        refine any_of W2 ?_
        generalize hG : litG an x ((stC an t n i).1.drop m) (stC an t n i).2 = gv at VC hstep
        clear hG
        go_region_law (first | (refine redirect (by assumption) ?_) | (refine step_append_here rfl (.tmp 19) (.tmp 26) 39 rfl w.heap.size 3 i0 _ 1 8 Tryz.underlying39 hi0 hz0 hz1 hz2 rfl (by decide) (.slice (some ⟨gb, 0, none⟩) m vc) m ((litC (stC an t n i).1).take m) (by rfl) (by exact OR7.alloc _) ⟨w7.heap.size, 0, none⟩ 1 1 [.int .i64 gv.1] (by rfl) rfl (cell_one_new _ _ _) (by simp [Value.oneCell']) (by unfold maxLen; omega) (by omega) (by simp; omega) ?_; intro v8 w8 hown8 hgrow8 hloc8; obtain ⟨g8, cap8, hv8⟩ := ownsRow_succ hown8; subst hv8; obtain ⟨b8, f8⟩ := box_kept b7 f7 z7 hgb hgrow8) | (go_simp; go_at_call 120; refine (VC 1).mono ?_; rintro e w7 ⟨rfl, S7, rv7, X7⟩; obtain ⟨OR7, b7, f7, z7, zz7⟩ := ORow.out w7 S7 rv7 _ X7))
        all_goals
          try simp only [Act.put, List.getElem_toArray, List.getElem_cons_succ, List.getElem_cons_zero, List.setIfInBounds_toArray, List.set_cons_succ, List.set_cons_zero]
          gi_wp2
          obtain ⟨h2, hd1, _, _⟩ := HH.out
          obtain ⟨F', K'⟩ := FiAt.push h2 X7 (by omega) hown8 hgrow8 hloc8 w3.heap.size
          exact ⟨hd1.trans K', _, _, _, hstep.out ▸ F'⟩
  case done =>
    rintro D W3 hD ⟨v, S, rv, h⟩ hK
    rw [hres] at h
    obtain ⟨gb, cap, hv⟩ := ownsRow_succ (xs := litC [r]) h.row
    subst hv
    have c5 := h.box.cell (i := 0) (by omega)
    have c6 : W3.cell? ⟨gb, 0, none⟩ = some (.int .i64 r) := by
      have := h.row.cellAt 0 (by simp)
      simpa [litC] using this
    have hBl : Hid _ := h.made.ow (Ow.putObj (ty := 335) (B := w.heap.size) (.deferred none) (by omega) hK rfl) (Nat.le_refl _) h.lo.2
    clear h
    gi_wp2
    refine ⟨by simp, .inl ⟨_, _, rfl, run_takeDeferred hK, ?_⟩⟩
    exact ⟨_, results_tmp rfl _ _ _, rfl, _, _, hBl.out⟩

end Go.Proofs.YtlehlgipbhfioaaGreat
