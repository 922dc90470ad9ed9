/- Package close: like. -/
import Derived.Test.YtlehlgipbhfioaaGreatP05
import Derived.Deep.RegionLaw
namespace Go.Proofs.YtlehlgipbhfioaaGreat
open Go.RowKit Go.Maps

theorem sigBox (W : World) (s : Tm) : (W.alloc (.cells #[.string s.name, .int .i64 (s.arg 0 : Int), .int .i64 (s.arg 1 : Int), .int .i64 (s.arg 2 : Int), .int .i64 (s.arg 3 : Int)] 98)).rowIs W.heap.size 98 5 (fun j => (sigL s).toArray[j]?.getD undef) :=
  made_row W (sigL s).toArray 98

set_option maxHeartbeats 1000000 in
set_option maxRecDepth 100000 in
theorem like_old (w : World) (base : Nat) (l : List Tm) (z : Zs) (h : Cz w base l z) (n : Nat) (t : Tm) (ht : l[n]? = some t) (m : Nat) (hm : z.kn (Cc.sg z.g.lo t) = some m) (hle : ∀ i, i < l.length → z.g.lo i ≤ i) :
    Calls Tryz.prog 40 #[.pointer (some ⟨z.pk, 0, none⟩), .int .i64 (n : Int)] w fun e w' => e = .returned (.int .i64 (m : Int)) ∧ Kept0 w w' := by
  have hsk := sg_sk h.bd hle (by have := h.len; omega) ht (h.oks t (List.mem_of_getElem? ht))
  have K1 : Kept0 w (w.alloc (.cells #[.pointer (some ⟨z.pk, 0, none⟩)] 57)) := Kept.alloc (Kept.refl _ w) _
  have R1 := made_row w #[.pointer (some ⟨z.pk, 0, none⟩)] 57
  have r1 : (w.alloc (.cells #[.pointer (some ⟨z.pk, 0, none⟩)] 57)).cell? ⟨w.heap.size, 0, none⟩ = some (.pointer (some ⟨z.pk, 0, none⟩)) := R1.cell (i := 0) (by simp)
  have SG := sig_in _ base l z (h.kept0 K1) n t ht
  have hV : sigV (Cc.sg z.g.lo t) = .agg #[.string (Cc.sg z.g.lo t).name, .int .i64 ((Cc.sg z.g.lo t).arg 0 : Int), .int .i64 ((Cc.sg z.g.lo t).arg 1 : Int), .int .i64 ((Cc.sg z.g.lo t).arg 2 : Int), .int .i64 ((Cc.sg z.g.lo t).arg 3 : Int)] := rfl
  rw [hV] at SG
  generalize Cc.sg z.g.lo t = s at *
  go_enter Tryz.func40, Tryz.ntmps40
  go_wp2_with (go_at_call 34; refine SG.mono ?_; rintro e w2 ⟨rfl, K2⟩)
  have K12 := K1.trans K2
  have K3 : Kept0 w2 (w2.alloc (.cells #[.string s.name, .int .i64 (s.arg 0 : Int), .int .i64 (s.arg 1 : Int), .int .i64 (s.arg 2 : Int), .int .i64 (s.arg 3 : Int)] 98)) := Kept.alloc (Kept.refl _ w2) _
  have R5 := sigBox w2 s
  have hw2 : w.heap.size < w2.heap.size := by have := K2.size; simp at this; omega
  generalize w2.alloc (.cells #[.string s.name, .int .i64 (s.arg 0 : Int), .int .i64 (s.arg 1 : Int), .int .i64 (s.arg 2 : Int), .int .i64 (s.arg 3 : Int)] 98) = w3 at *
  have R2 := World.rowIs.of_block (World.rowIs.of_block R1 (K2.block _ R1.lt (fun e => e))) (K3.block w.heap.size hw2 (fun e => e))
  generalize w2.heap.size = b5 at *
  have K := K12.trans K3
  have H := h.kept0 K
  have b3 := R5.lt
  clear K1 K2 K3 K12 R1 r1 SG
  have x2 : w3.cell? ⟨w.heap.size, 0, none⟩ = some (.pointer (some ⟨z.pk, 0, none⟩)) := R2.cell (i := 0) (by simp)
  have k3 := H.k3
  have y0 : w3.cell? ⟨b5, 0, none⟩ = some (.string s.name) := R5.cell (i := 0) (by omega)
  have y1 : w3.cell? ⟨b5, 1, none⟩ = some (.int .i64 (s.arg 0 : Int)) := R5.cell (i := 1) (by omega)
  have y2 : w3.cell? ⟨b5, 2, none⟩ = some (.int .i64 (s.arg 1 : Int)) := R5.cell (i := 2) (by omega)
  have y3 : w3.cell? ⟨b5, 3, none⟩ = some (.int .i64 (s.arg 2 : Int)) := R5.cell (i := 3) (by omega)
  have y4 : w3.cell? ⟨b5, 4, none⟩ = some (.int .i64 (s.arg 3 : Int)) := R5.cell (i := 4) (by omega)
  have LN := fun m => (H.drewN m).look hsk
  rw [hm, hV] at LN
  simp only [Option.getD_some, Option.isSome_some] at LN
  go_quiet (fail)
  go_wp2_with fail
  go_ret
  exact ⟨rfl, K.drewN _⟩

/-- The step that makes a signature unknown again. -/
def delF (bc bx : Nat) : Value := .func (.func 75) #[] #[.pointer (some ⟨bc, 0, none⟩), .pointer (some ⟨bx, 0, none⟩)]
/-- The boxes that it holds. -/
def delS (z : Zs) (bc bx : Nat) (s : Tm) : List (Nat × Obj) := [(bc, .cells #[.pointer (some ⟨z.pk, 0, none⟩)] 57), (bx, .cells (sigL s).toArray 98)]
/-- What like leaves, if there was none. -/
def likeZ (z : Zs) (n : Nat) (s : Tm) (bc bx : Nat) (v : Value) : Zs := { z with bv := v, bs := z.bs ++ [delF bc bx], st := z.st ++ delS z bc bx s, kn := fun u => if u = s then some n else z.kn u, ms := z.ms + 1 }

set_option maxHeartbeats 2000000 in
set_option maxRecDepth 100000 in
theorem like_new (w : World) (base : Nat) (l : List Tm) (z : Zs) (h : Cz w base l z) (n : Nat) (t : Tm) (ht : l[n]? = some t) (hm : z.kn (Cc.sg z.g.lo t) = none) (hle : ∀ i, i < l.length → z.g.lo i ≤ i) (hms : z.ms < 1000000) (hbs : z.bs.length < 1000000) (hbase : base ≤ w.heap.size) :
    Calls Tryz.prog 40 #[.pointer (some ⟨z.pk, 0, none⟩), .int .i64 (n : Int)] w fun e w' => e = .returned (.int .i64 (n : Int)) ∧ ∃ bc bx v, w.heap.size ≤ bc ∧ w.heap.size ≤ bx ∧ Cz w' base l (likeZ z n (Cc.sg z.g.lo t) bc bx v) ∧ Kept z.Foot w w' ∧ Grows w z (likeZ z n (Cc.sg z.g.lo t) bc bx v) := by
  have hsk := sg_sk h.bd hle (by have := h.len; omega) ht (h.oks t (List.mem_of_getElem? ht))
  have K1 : Kept0 w (w.alloc (.cells #[.pointer (some ⟨z.pk, 0, none⟩)] 57)) := Kept.alloc (Kept.refl _ w) _
  have R1 := made_row w #[.pointer (some ⟨z.pk, 0, none⟩)] 57
  have r1 : (w.alloc (.cells #[.pointer (some ⟨z.pk, 0, none⟩)] 57)).cell? ⟨w.heap.size, 0, none⟩ = some (.pointer (some ⟨z.pk, 0, none⟩)) := R1.cell (i := 0) (by simp)
  have SG := sig_in _ base l z (h.kept0 K1) n t ht
  have hV : sigV (Cc.sg z.g.lo t) = .agg #[.string (Cc.sg z.g.lo t).name, .int .i64 ((Cc.sg z.g.lo t).arg 0 : Int), .int .i64 ((Cc.sg z.g.lo t).arg 1 : Int), .int .i64 ((Cc.sg z.g.lo t).arg 2 : Int), .int .i64 ((Cc.sg z.g.lo t).arg 3 : Int)] := rfl
  rw [hV] at SG
  generalize Cc.sg z.g.lo t = s at *
  go_enter Tryz.func40, Tryz.ntmps40
  go_wp2_with (go_at_call 34; refine SG.mono ?_; rintro e w2 ⟨rfl, K2⟩)
  have K12 := K1.trans K2
  have K3 : Kept0 w2 (w2.alloc (.cells #[.string s.name, .int .i64 (s.arg 0 : Int), .int .i64 (s.arg 1 : Int), .int .i64 (s.arg 2 : Int), .int .i64 (s.arg 3 : Int)] 98)) := Kept.alloc (Kept.refl _ w2) _
  have R5 := sigBox w2 s
  have hw2 : w.heap.size < w2.heap.size := by have := K2.size; simp at this; omega
  generalize w2.alloc (.cells #[.string s.name, .int .i64 (s.arg 0 : Int), .int .i64 (s.arg 1 : Int), .int .i64 (s.arg 2 : Int), .int .i64 (s.arg 3 : Int)] 98) = w3 at *
  have R2 := World.rowIs.of_block (World.rowIs.of_block R1 (K2.block _ R1.lt (fun e => e))) (K3.block w.heap.size hw2 (fun e => e))
  generalize w2.heap.size = b5 at *
  have K := K12.trans K3
  have H := h.kept0 K
  have b3 := R5.lt
  clear K1 K2 K3 K12 R1 r1 SG
  have x2 : w3.cell? ⟨w.heap.size, 0, none⟩ = some (.pointer (some ⟨z.pk, 0, none⟩)) := R2.cell (i := 0) (by simp)
  have k3 := H.k3
  have y0 : w3.cell? ⟨b5, 0, none⟩ = some (.string s.name) := R5.cell (i := 0) (by omega)
  have y1 : w3.cell? ⟨b5, 1, none⟩ = some (.int .i64 (s.arg 0 : Int)) := R5.cell (i := 1) (by omega)
  have y2 : w3.cell? ⟨b5, 2, none⟩ = some (.int .i64 (s.arg 1 : Int)) := R5.cell (i := 2) (by omega)
  have y3 : w3.cell? ⟨b5, 3, none⟩ = some (.int .i64 (s.arg 2 : Int)) := R5.cell (i := 3) (by omega)
  have y4 : w3.cell? ⟨b5, 4, none⟩ = some (.int .i64 (s.arg 3 : Int)) := R5.cell (i := 4) (by omega)
  have LN := fun m => (H.drewN m).look hsk
  rw [hm, hV] at LN
  simp only [Option.getD_none, Option.isSome_none] at LN
  go_quiet (fail)
  go_wp2_with fail
  clear LN
  have hn : n < l.length := (List.getElem?_eq_some_iff.1 ht).1
  have hlen := h.len
  obtain ⟨w4, hr4, H4, K4⟩ := (H.drewN (nq + 1)).store hsk (n := n) (by omega) hms
  rw [hV] at hr4
  have z0 : ∀ m, (w3.drewN m).cell? ⟨b5, 0, none⟩ = some (.string s.name) := fun m => y0
  have z1 : ∀ m, (w3.drewN m).cell? ⟨b5, 1, none⟩ = some (.int .i64 (s.arg 0 : Int)) := fun m => y1
  have z2 : ∀ m, (w3.drewN m).cell? ⟨b5, 2, none⟩ = some (.int .i64 (s.arg 1 : Int)) := fun m => y2
  have z3 : ∀ m, (w3.drewN m).cell? ⟨b5, 3, none⟩ = some (.int .i64 (s.arg 2 : Int)) := fun m => y3
  have z4 : ∀ m, (w3.drewN m).cell? ⟨b5, 4, none⟩ = some (.int .i64 (s.arg 3 : Int)) := fun m => y4
  have q3 : ∀ m, (w3.drewN m).cell? ⟨z.pk, 3, none⟩ = some (.map (some z.mb)) := fun m => k3
  have q2 : ∀ m, (w3.drewN m).cell? ⟨w.heap.size, 0, none⟩ = some (.pointer (some ⟨z.pk, 0, none⟩)) := fun m => x2
  go_region
  clear hr4 z0 z1 z2 z3 z4 q3 q2
  have KA : Kept z.Foot w w4 := (Kept.mono (K.drewN _) (fun _ _ e => e.elim)).trans (Kept.mono K4 (fun _ _ e => .inr (.inr (.inr (.inl e)))))
  have hs4 := K4.size
  have hs3 : w.heap.size ≤ w3.heap.size := K.size
  have nf : ∀ k, w.heap.size ≤ k → ¬ z.Foot k := fun k hk hf => by have := h.foot_lt hf; omega
  have O2 : w4.heap[w.heap.size]? = some (.cells #[.pointer (some ⟨z.pk, 0, none⟩)] 57) := (K4.block _ (by exact Nat.lt_trans hw2 b3) (fun e => nf _ (Nat.le_refl _) (.inr (.inr (.inr (.inl e)))))).trans (rowIs_obj R2 _ rfl (fun i hi => by
    have hi' : i < 1 := hi
    obtain rfl : i = 0 := by omega
    rfl))
  have O5 : w4.heap[b5]? = some (.cells (sigL s).toArray 98) := (K4.block _ b3 (fun e => nf b5 (by omega) (.inr (.inr (.inr (.inl e)))))).trans (rowIs_obj R5 _ rfl (fun i hi => by
    rcases (by omega : i = 0 ∨ i = 1 ∨ i = 2 ∨ i = 3 ∨ i = 4) with rfl | rfl | rfl | rfl | rfl <;> rfl))
  have H5 := (H4.addStat (w.heap.size, .cells #[.pointer (some ⟨z.pk, 0, none⟩)] 57) O2 hbase (nf _ (Nat.le_refl _))).addStat (b5, .cells (sigL s).toArray 98) O5 (by show base ≤ b5; omega) (nf b5 (by omega))
  have G5 : Grows w z { z with st := z.st ++ delS z w.heap.size b5 s, kn := fun u => if u = s then some n else z.kn u, ms := z.ms + 1 } := ⟨rfl, fun k hk => .inl hk, rfl, fun x hx => by
    rcases List.mem_append.1 hx with hx | hx
    · exact .inl hx
    · simp [delS] at hx
      rcases hx with rfl | rfl
      · exact .inr (Nat.le_refl _)
      · exact .inr (by show w.heap.size ≤ b5; omega)⟩
  have e2 : z.st ++ [(w.heap.size, .cells #[.pointer (some ⟨z.pk, 0, none⟩)] 57)] ++ [(b5, .cells (sigL s).toArray 98)] = z.st ++ delS z w.heap.size b5 s := by simp [delS]
  simp only [e2] at H5
  clear e2 H4
  have hb4 : base ≤ w4.heap.size := by have : w3.heap.size ≤ w4.heap.size := hs4; omega
  obtain ⟨i0, hi0, hz0, hz1, hz2⟩ := info_parts infoStepC
  obtain ⟨ba, bc, hbv⟩ : ∃ ba bc, z.bv = .slice ba z.bs.length bc := row_form' h.back
  have A4 : ∀ O, (w4.alloc O).cell? ⟨z.pk, 4, none⟩ = some (.slice ba z.bs.length bc) := fun O => by rw [← hbv]; exact (World.rowIs.alloc H5.cls O).cell (i := 4) (by omega)
  have A2 : ∀ O, (w4.alloc O).cell? ⟨w.heap.size, 0, none⟩ = some (.pointer (some ⟨z.pk, 0, none⟩)) := fun O => (World.cell?_of_block (Below.heap_alloc _ _ _ (Array.getElem?_eq_some_iff.1 O2).1)).trans (by simp [World.cell?, O2])
  have a4 : w4.cell? ⟨z.pk, 4, none⟩ = some (.slice ba z.bs.length bc) := by rw [← hbv]; exact H5.k4
  have a2 : w4.cell? ⟨w.heap.size, 0, none⟩ = some (.pointer (some ⟨z.pk, 0, none⟩)) := by simp [World.cell?, O2]
  have OWN : ∀ O, (w4.alloc O).drew.ownsRow base 1 1 (.slice ba z.bs.length bc) z.bs.length z.bs := fun O => by rw [← hbv]; exact World.ownsRow.alloc H5.back O
  have NEW := one_newD w4 0 (delF w.heap.size b5) 1
  have KD : ∀ O, Kept0 w4 (w4.alloc O).drew := fun O => ((Kept.refl _ w4).alloc O).drew
  have PUSH := fun w1 O v' => H5.push (w1 := w1) (KD O) (delF w.heap.size b5) v'
  have hbx : w.heap.size < w4.heap.size := (Array.getElem?_eq_some_iff.1 O2).1
  have BOX : ∀ w5, Kept (fun k => z.bv.ownBlock = some k) w4 w5 → w5.cell? ⟨w.heap.size, 0, none⟩ = some (.pointer (some ⟨z.pk, 0, none⟩)) := fun w5 K5 => (World.cell?_of_block (K5.block w.heap.size hbx (fun e => nf _ (Nat.le_refl _) (.inr (.inr (.inr (.inr e))))))).trans a2
  have PUSH' : ∀ w5 O v', w5.ownsRow base 1 1 v' (z.bs.length + 1) (z.bs ++ [delF w.heap.size b5]) → (w4.alloc O).drew.grownBy w5 (Value.slice ba z.bs.length bc).ownBlock → (v'.ownBlock = (Value.slice ba z.bs.length bc).ownBlock ∨ ∀ k, v'.ownBlock = some k → (w4.alloc O).drew.heap.size ≤ k) → _ := fun w5 O v' h1 h2 h3 => PUSH w5 O v' h1 (by rw [← hbv] at h2; exact h2) (by rw [← hbv] at h3; exact h3)
  have CEL : ∀ w5 O v', w5.ownsRow base 1 1 v' (z.bs.length + 1) (z.bs ++ [.func (.func 75) #[] #[.pointer (some ⟨w.heap.size, 0, none⟩), .pointer (some ⟨b5, 0, none⟩)]]) → (w4.alloc O).drew.grownBy w5 (Value.slice ba z.bs.length bc).ownBlock → (v'.ownBlock = (Value.slice ba z.bs.length bc).ownBlock ∨ ∀ k, v'.ownBlock = some k → (w4.alloc O).drew.heap.size ≤ k) →
      w5.cell? ⟨z.pk, 4, none⟩ = some (.slice ba z.bs.length bc) ∧ w5.frozen? ⟨z.pk, 4, none⟩ = false ∧ w5.cell? ⟨w.heap.size, 0, none⟩ = some (.pointer (some ⟨z.pk, 0, none⟩)) := fun w5 O v' h1 h2 h3 => by
    obtain ⟨_, _, _, c1, c2, P6⟩ := PUSH' w5 O v' h1 h2 h3
    exact ⟨(by rw [← hbv]; exact c1), c2, BOX w5 P6⟩
  simp only [delF] at NEW
  have ALL : Hid (_ ∧ _ ∧ _) := ⟨PUSH', KA, G5⟩
  clear O2 O5 H x2 k3 y0 y1 y2 y3 y4 R2 R5 PUSH PUSH' KA G5 BOX KD H5 K4 K h hsk hV hle hms hm nf hs4 hs3
  go_wp2_with fail
  go_region_law (refine step_append_here rfl (.tmp 32) (.tmp 34) 69 rfl base 1 i0 _ 1 8 Tryz.underlying69 hi0 hz0 hz1 hz2 rfl (by decide) _ z.bs.length z.bs (by simp [Act.eval]; rfl) (by exact OWN _) ⟨w4.heap.size, 0, none⟩ 1 1 [.func (.func 75) #[] #[.pointer (some ⟨w.heap.size, 0, none⟩), .pointer (some ⟨b5, 0, none⟩)]] (by simp [Act.eval]) rfl (by exact NEW) (by simp [Value.oneCell']) (by unfold maxLen; omega) (by omega) (by simp; omega) ?_; intro v' w5 hown1 hgrow hloc; obtain ⟨kp1, kf1, kc1⟩ := CEL w5 _ v' hown1 hgrow hloc; obtain ⟨b1, cap1, hv1⟩ := ownsRow_succ hown1; subst hv1; replace hown1 : Hid _ := hown1; replace hgrow : Hid _ := hgrow; replace hloc : Hid _ := hloc)
  all_goals
    clear kp1 kf1 kc1 A4 A2 a4 a2 OWN NEW CEL
    go_wp2_with fail
    go_ret
    obtain ⟨PU, KA, G5⟩ := ALL.out
    obtain ⟨P1, P2, P3, _⟩ := PU w5 _ _ hown1.out hgrow.out hloc.out
    exact ⟨rfl, w.heap.size, b5, _, Nat.le_refl _, by omega, P1, KA.trans P2, G5.trans P3 KA.size⟩

end Go.Proofs.YtlehlgipbhfioaaGreat
