/- Package close: like. Package close: together. Package close: join. Package close: what stands behind each step of unite. Package term: the parser, plainly. Package term: the parser's counts; reader and bank together. -/
import Derived.Test.YtlehlgipbhfioaaGreatP11
import Derived.Deep.RegionLaw
import Derived.Deep.RegionHeld3
import Derived.Deep.DeepCutAuto
import Derived.Test.YtlehlgipbhfioaaGreatP13
namespace Go.Proofs.YtlehlgipbhfioaaGreat
open Go.RowKit Go.Maps

theorem sigBox (W : World) (s : Tm) : (W.alloc (.cells #[.string s.name, .int .i64 (s.arg 0 : Int), .int .i64 (s.arg 1 : Int), .int .i64 (s.arg 2 : Int), .int .i64 (s.arg 3 : Int)] 98)).rowIs W.heap.size 98 5 (fun j => (sigL s).toArray[j]?.getD undef) :=
  made_row W (sigL s).toArray 98

set_option maxHeartbeats 1000000 in
set_option maxRecDepth 100000 in
theorem like_old (w : World) (base : Nat) (l : List Tm) (z : Zs) (h : Cz w base l z) (n : Nat) (t : Tm) (ht : l[n]? = some t) (m : Nat) (hm : z.kn (Cc.sg z.g.lo t) = some m) (hle : ∀ i, i < l.length → z.g.lo i ≤ i) :
    Calls Tryz.prog 40 #[.pointer (some ⟨z.pk, 0, none⟩), .int .i64 (n : Int)] w fun e w' => e = .returned (.int .i64 (m : Int)) ∧ Kept0 w w' := by
  have hsk := sg_sk h.bd hle (by have := h.len; omega) ht (h.oks t (List.mem_of_getElem? ht))
  have K1 : Kept0 w (w.alloc (.cells #[.pointer (some ⟨z.pk, 0, none⟩)] 57)) := Kept.alloc (Kept.refl _ w) _
  have R1 := made_row w #[.pointer (some ⟨z.pk, 0, none⟩)] 57
  have r1 : (w.alloc (.cells #[.pointer (some ⟨z.pk, 0, none⟩)] 57)).cell? ⟨w.heap.size, 0, none⟩ = some (.pointer (some ⟨z.pk, 0, none⟩)) := R1.cell (i := 0) (by simp)
  have SG := sig_in _ base l z (h.kept0 K1) n t ht
  have hV : sigV (Cc.sg z.g.lo t) = .agg #[.string (Cc.sg z.g.lo t).name, .int .i64 ((Cc.sg z.g.lo t).arg 0 : Int), .int .i64 ((Cc.sg z.g.lo t).arg 1 : Int), .int .i64 ((Cc.sg z.g.lo t).arg 2 : Int), .int .i64 ((Cc.sg z.g.lo t).arg 3 : Int)] := rfl
  rw [hV] at SG
  generalize Cc.sg z.g.lo t = s at *
  go_enter Tryz.func40, Tryz.ntmps40
  go_wp2_with (go_at_call 34; refine SG.mono ?_; rintro e w2 ⟨rfl, K2⟩)
  have K12 := K1.trans K2
  have K3 : Kept0 w2 (w2.alloc (.cells #[.string s.name, .int .i64 (s.arg 0 : Int), .int .i64 (s.arg 1 : Int), .int .i64 (s.arg 2 : Int), .int .i64 (s.arg 3 : Int)] 98)) := Kept.alloc (Kept.refl _ w2) _
  have R5 := sigBox w2 s
  have hw2 : w.heap.size < w2.heap.size := by have := K2.size; simp at this; omega
  generalize w2.alloc (.cells #[.string s.name, .int .i64 (s.arg 0 : Int), .int .i64 (s.arg 1 : Int), .int .i64 (s.arg 2 : Int), .int .i64 (s.arg 3 : Int)] 98) = w3 at *
  have R2 := World.rowIs.of_block (World.rowIs.of_block R1 (K2.block _ R1.lt (fun e => e))) (K3.block w.heap.size hw2 (fun e => e))
  generalize w2.heap.size = b5 at *
  have K := K12.trans K3
  have H := h.kept0 K
  have b3 := R5.lt
  clear K1 K2 K3 K12 R1 r1 SG
  have x2 : w3.cell? ⟨w.heap.size, 0, none⟩ = some (.pointer (some ⟨z.pk, 0, none⟩)) := R2.cell (i := 0) (by simp)
  have k3 := H.k3
  have y0 : w3.cell? ⟨b5, 0, none⟩ = some (.string s.name) := R5.cell (i := 0) (by omega)
  have y1 : w3.cell? ⟨b5, 1, none⟩ = some (.int .i64 (s.arg 0 : Int)) := R5.cell (i := 1) (by omega)
  have y2 : w3.cell? ⟨b5, 2, none⟩ = some (.int .i64 (s.arg 1 : Int)) := R5.cell (i := 2) (by omega)
  have y3 : w3.cell? ⟨b5, 3, none⟩ = some (.int .i64 (s.arg 2 : Int)) := R5.cell (i := 3) (by omega)
  have y4 : w3.cell? ⟨b5, 4, none⟩ = some (.int .i64 (s.arg 3 : Int)) := R5.cell (i := 4) (by omega)
  have LN := fun m => (H.drewN m).look hsk
  rw [hm, hV] at LN
  simp only [Option.getD_some, Option.isSome_some] at LN
  go_quiet (fail)
  go_wp2_with fail
  go_ret
  exact ⟨rfl, K.drewN _⟩

/-- The step that makes a signature unknown again. -/
def delF (bc bx : Nat) : Value := .func (.func 75) #[] #[.pointer (some ⟨bc, 0, none⟩), .pointer (some ⟨bx, 0, none⟩)]
/-- The boxes that it holds. -/
def delS (z : Zs) (bc bx : Nat) (s : Tm) : List (Nat × Obj) := [(bc, .cells #[.pointer (some ⟨z.pk, 0, none⟩)] 57), (bx, .cells (sigL s).toArray 98)]
/-- What like leaves, if there was none. -/
def likeZ (z : Zs) (n : Nat) (s : Tm) (bc bx : Nat) (v : Value) : Zs := { z with bv := v, bs := z.bs ++ [delF bc bx], st := z.st ++ delS z bc bx s, kn := fun u => if u = s then some n else z.kn u, ms := z.ms + 1 }

set_option maxHeartbeats 2000000 in
set_option maxRecDepth 100000 in
theorem like_new (w : World) (base : Nat) (l : List Tm) (z : Zs) (h : Cz w base l z) (n : Nat) (t : Tm) (ht : l[n]? = some t) (hm : z.kn (Cc.sg z.g.lo t) = none) (hle : ∀ i, i < l.length → z.g.lo i ≤ i) (hms : z.ms < 1000000) (hbs : z.bs.length < 1000000) (hbase : base ≤ w.heap.size) :
    Calls Tryz.prog 40 #[.pointer (some ⟨z.pk, 0, none⟩), .int .i64 (n : Int)] w fun e w' => e = .returned (.int .i64 (n : Int)) ∧ ∃ bc bx v, w.heap.size ≤ bc ∧ w.heap.size ≤ bx ∧ Cz w' base l (likeZ z n (Cc.sg z.g.lo t) bc bx v) ∧ Kept z.Foot w w' ∧ Grows w z (likeZ z n (Cc.sg z.g.lo t) bc bx v) := by
  have hsk := sg_sk h.bd hle (by have := h.len; omega) ht (h.oks t (List.mem_of_getElem? ht))
  have K1 : Kept0 w (w.alloc (.cells #[.pointer (some ⟨z.pk, 0, none⟩)] 57)) := Kept.alloc (Kept.refl _ w) _
  have R1 := made_row w #[.pointer (some ⟨z.pk, 0, none⟩)] 57
  have r1 : (w.alloc (.cells #[.pointer (some ⟨z.pk, 0, none⟩)] 57)).cell? ⟨w.heap.size, 0, none⟩ = some (.pointer (some ⟨z.pk, 0, none⟩)) := R1.cell (i := 0) (by simp)
  have SG := sig_in _ base l z (h.kept0 K1) n t ht
  have hV : sigV (Cc.sg z.g.lo t) = .agg #[.string (Cc.sg z.g.lo t).name, .int .i64 ((Cc.sg z.g.lo t).arg 0 : Int), .int .i64 ((Cc.sg z.g.lo t).arg 1 : Int), .int .i64 ((Cc.sg z.g.lo t).arg 2 : Int), .int .i64 ((Cc.sg z.g.lo t).arg 3 : Int)] := rfl
  rw [hV] at SG
  generalize Cc.sg z.g.lo t = s at *
  go_enter Tryz.func40, Tryz.ntmps40
  go_wp2_with (go_at_call 34; refine SG.mono ?_; rintro e w2 ⟨rfl, K2⟩)
  have K12 := K1.trans K2
  have K3 : Kept0 w2 (w2.alloc (.cells #[.string s.name, .int .i64 (s.arg 0 : Int), .int .i64 (s.arg 1 : Int), .int .i64 (s.arg 2 : Int), .int .i64 (s.arg 3 : Int)] 98)) := Kept.alloc (Kept.refl _ w2) _
  have R5 := sigBox w2 s
  have hw2 : w.heap.size < w2.heap.size := by have := K2.size; simp at this; omega
  generalize w2.alloc (.cells #[.string s.name, .int .i64 (s.arg 0 : Int), .int .i64 (s.arg 1 : Int), .int .i64 (s.arg 2 : Int), .int .i64 (s.arg 3 : Int)] 98) = w3 at *
  have R2 := World.rowIs.of_block (World.rowIs.of_block R1 (K2.block _ R1.lt (fun e => e))) (K3.block w.heap.size hw2 (fun e => e))
  generalize w2.heap.size = b5 at *
  have K := K12.trans K3
  have H := h.kept0 K
  have b3 := R5.lt
  clear K1 K2 K3 K12 R1 r1 SG
  have x2 : w3.cell? ⟨w.heap.size, 0, none⟩ = some (.pointer (some ⟨z.pk, 0, none⟩)) := R2.cell (i := 0) (by simp)
  have k3 := H.k3
  have y0 : w3.cell? ⟨b5, 0, none⟩ = some (.string s.name) := R5.cell (i := 0) (by omega)
  have y1 : w3.cell? ⟨b5, 1, none⟩ = some (.int .i64 (s.arg 0 : Int)) := R5.cell (i := 1) (by omega)
  have y2 : w3.cell? ⟨b5, 2, none⟩ = some (.int .i64 (s.arg 1 : Int)) := R5.cell (i := 2) (by omega)
  have y3 : w3.cell? ⟨b5, 3, none⟩ = some (.int .i64 (s.arg 2 : Int)) := R5.cell (i := 3) (by omega)
  have y4 : w3.cell? ⟨b5, 4, none⟩ = some (.int .i64 (s.arg 3 : Int)) := R5.cell (i := 4) (by omega)
  have LN := fun m => (H.drewN m).look hsk
  rw [hm, hV] at LN
  simp only [Option.getD_none, Option.isSome_none] at LN
  go_quiet (fail)
  go_wp2_with fail
  clear LN
  have hn : n < l.length := (List.getElem?_eq_some_iff.1 ht).1
  have hlen := h.len
  obtain ⟨w4, hr4, H4, K4⟩ := (H.drewN (nq + 1)).store hsk (n := n) (by omega) hms
  rw [hV] at hr4
  have z0 : ∀ m, (w3.drewN m).cell? ⟨b5, 0, none⟩ = some (.string s.name) := fun m => y0
  have z1 : ∀ m, (w3.drewN m).cell? ⟨b5, 1, none⟩ = some (.int .i64 (s.arg 0 : Int)) := fun m => y1
  have z2 : ∀ m, (w3.drewN m).cell? ⟨b5, 2, none⟩ = some (.int .i64 (s.arg 1 : Int)) := fun m => y2
  have z3 : ∀ m, (w3.drewN m).cell? ⟨b5, 3, none⟩ = some (.int .i64 (s.arg 2 : Int)) := fun m => y3
  have z4 : ∀ m, (w3.drewN m).cell? ⟨b5, 4, none⟩ = some (.int .i64 (s.arg 3 : Int)) := fun m => y4
  have q3 : ∀ m, (w3.drewN m).cell? ⟨z.pk, 3, none⟩ = some (.map (some z.mb)) := fun m => k3
  have q2 : ∀ m, (w3.drewN m).cell? ⟨w.heap.size, 0, none⟩ = some (.pointer (some ⟨z.pk, 0, none⟩)) := fun m => x2
  go_region
  clear hr4 z0 z1 z2 z3 z4 q3 q2
  have KA : Kept z.Foot w w4 := (Kept.mono (K.drewN _) (fun _ _ e => e.elim)).trans (Kept.mono K4 (fun _ _ e => .inr (.inr (.inr (.inl e)))))
  have hs4 := K4.size
  have hs3 : w.heap.size ≤ w3.heap.size := K.size
  have nf : ∀ k, w.heap.size ≤ k → ¬ z.Foot k := fun k hk hf => by have := h.foot_lt hf; omega
  have O2 : w4.heap[w.heap.size]? = some (.cells #[.pointer (some ⟨z.pk, 0, none⟩)] 57) := (K4.block _ (by exact Nat.lt_trans hw2 b3) (fun e => nf _ (Nat.le_refl _) (.inr (.inr (.inr (.inl e)))))).trans (rowIs_obj R2 _ rfl (fun i hi => by
    have hi' : i < 1 := hi
    obtain rfl : i = 0 := by omega
    rfl))
  have O5 : w4.heap[b5]? = some (.cells (sigL s).toArray 98) := (K4.block _ b3 (fun e => nf b5 (by omega) (.inr (.inr (.inr (.inl e)))))).trans (rowIs_obj R5 _ rfl (fun i hi => by
    rcases (by omega : i = 0 ∨ i = 1 ∨ i = 2 ∨ i = 3 ∨ i = 4) with rfl | rfl | rfl | rfl | rfl <;> rfl))
  have H5 := (H4.addStat (w.heap.size, .cells #[.pointer (some ⟨z.pk, 0, none⟩)] 57) O2 hbase (nf _ (Nat.le_refl _))).addStat (b5, .cells (sigL s).toArray 98) O5 (by show base ≤ b5; omega) (nf b5 (by omega))
  have G5 : Grows w z { z with st := z.st ++ delS z w.heap.size b5 s, kn := fun u => if u = s then some n else z.kn u, ms := z.ms + 1 } := ⟨rfl, fun k hk => .inl hk, rfl, fun x hx => by
    rcases List.mem_append.1 hx with hx | hx
    · exact .inl hx
    · simp [delS] at hx
      rcases hx with rfl | rfl
      · exact .inr (Nat.le_refl _)
      · exact .inr (by show w.heap.size ≤ b5; omega)⟩
  have e2 : z.st ++ [(w.heap.size, .cells #[.pointer (some ⟨z.pk, 0, none⟩)] 57)] ++ [(b5, .cells (sigL s).toArray 98)] = z.st ++ delS z w.heap.size b5 s := by simp [delS]
  simp only [e2] at H5
  clear e2 H4
  have hb4 : base ≤ w4.heap.size := by have : w3.heap.size ≤ w4.heap.size := hs4; omega
  obtain ⟨i0, hi0, hz0, hz1, hz2⟩ := info_parts infoStepC
  obtain ⟨ba, bc, hbv⟩ : ∃ ba bc, z.bv = .slice ba z.bs.length bc := row_form' h.back
  have A4 : ∀ O, (w4.alloc O).cell? ⟨z.pk, 4, none⟩ = some (.slice ba z.bs.length bc) := fun O => by rw [← hbv]; exact (World.rowIs.alloc H5.cls O).cell (i := 4) (by omega)
  have A2 : ∀ O, (w4.alloc O).cell? ⟨w.heap.size, 0, none⟩ = some (.pointer (some ⟨z.pk, 0, none⟩)) := fun O => (World.cell?_of_block (Below.heap_alloc _ _ _ (Array.getElem?_eq_some_iff.1 O2).1)).trans (by simp [World.cell?, O2])
  have a4 : w4.cell? ⟨z.pk, 4, none⟩ = some (.slice ba z.bs.length bc) := by rw [← hbv]; exact H5.k4
  have a2 : w4.cell? ⟨w.heap.size, 0, none⟩ = some (.pointer (some ⟨z.pk, 0, none⟩)) := by simp [World.cell?, O2]
  have OWN : ∀ O, (w4.alloc O).drew.ownsRow base 1 1 (.slice ba z.bs.length bc) z.bs.length z.bs := fun O => by rw [← hbv]; exact World.ownsRow.alloc H5.back O
  have NEW := one_newD w4 0 (delF w.heap.size b5) 1
  have KD : ∀ O, Kept0 w4 (w4.alloc O).drew := fun O => ((Kept.refl _ w4).alloc O).drew
  have PUSH := fun w1 O v' => H5.push (w1 := w1) (KD O) (delF w.heap.size b5) v'
  have hbx : w.heap.size < w4.heap.size := (Array.getElem?_eq_some_iff.1 O2).1
  have BOX : ∀ w5, Kept (fun k => z.bv.ownBlock = some k) w4 w5 → w5.cell? ⟨w.heap.size, 0, none⟩ = some (.pointer (some ⟨z.pk, 0, none⟩)) := fun w5 K5 => (World.cell?_of_block (K5.block w.heap.size hbx (fun e => nf _ (Nat.le_refl _) (.inr (.inr (.inr (.inr e))))))).trans a2
  have PUSH' : ∀ w5 O v', w5.ownsRow base 1 1 v' (z.bs.length + 1) (z.bs ++ [delF w.heap.size b5]) → (w4.alloc O).drew.grownBy w5 (Value.slice ba z.bs.length bc).ownBlock → (v'.ownBlock = (Value.slice ba z.bs.length bc).ownBlock ∨ ∀ k, v'.ownBlock = some k → (w4.alloc O).drew.heap.size ≤ k) → _ := fun w5 O v' h1 h2 h3 => PUSH w5 O v' h1 (by rw [← hbv] at h2; exact h2) (by rw [← hbv] at h3; exact h3)
  have CEL : ∀ w5 O v', w5.ownsRow base 1 1 v' (z.bs.length + 1) (z.bs ++ [.func (.func 75) #[] #[.pointer (some ⟨w.heap.size, 0, none⟩), .pointer (some ⟨b5, 0, none⟩)]]) → (w4.alloc O).drew.grownBy w5 (Value.slice ba z.bs.length bc).ownBlock → (v'.ownBlock = (Value.slice ba z.bs.length bc).ownBlock ∨ ∀ k, v'.ownBlock = some k → (w4.alloc O).drew.heap.size ≤ k) →
      w5.cell? ⟨z.pk, 4, none⟩ = some (.slice ba z.bs.length bc) ∧ w5.frozen? ⟨z.pk, 4, none⟩ = false ∧ w5.cell? ⟨w.heap.size, 0, none⟩ = some (.pointer (some ⟨z.pk, 0, none⟩)) := fun w5 O v' h1 h2 h3 => by
    obtain ⟨_, _, _, c1, c2, P6⟩ := PUSH' w5 O v' h1 h2 h3
    exact ⟨(by rw [← hbv]; exact c1), c2, BOX w5 P6⟩
  simp only [delF] at NEW
  have ALL : Hid (_ ∧ _ ∧ _) := ⟨PUSH', KA, G5⟩
  clear O2 O5 H x2 k3 y0 y1 y2 y3 y4 R2 R5 PUSH PUSH' KA G5 BOX KD H5 K4 K h hsk hV hle hms hm nf hs4 hs3
  go_wp2_with fail
  go_region_law (refine step_append_here rfl (.tmp 32) (.tmp 34) 69 rfl base 1 i0 _ 1 8 Tryz.underlying69 hi0 hz0 hz1 hz2 rfl (by decide) _ z.bs.length z.bs (by simp [Act.eval]; rfl) (by exact OWN _) ⟨w4.heap.size, 0, none⟩ 1 1 [.func (.func 75) #[] #[.pointer (some ⟨w.heap.size, 0, none⟩), .pointer (some ⟨b5, 0, none⟩)]] (by simp [Act.eval]) rfl (by exact NEW) (by simp [Value.oneCell']) (by unfold maxLen; omega) (by omega) (by simp; omega) ?_; intro v' w5 hown1 hgrow hloc; obtain ⟨kp1, kf1, kc1⟩ := CEL w5 _ v' hown1 hgrow hloc; obtain ⟨b1, cap1, hv1⟩ := ownsRow_succ hown1; subst hv1; replace hown1 : Hid _ := hown1; replace hgrow : Hid _ := hgrow; replace hloc : Hid _ := hloc)
  all_goals
    clear kp1 kf1 kc1 A4 A2 a4 a2 OWN NEW CEL
    go_wp2_with fail
    go_ret
    obtain ⟨PU, KA, G5⟩ := ALL.out
    obtain ⟨P1, P2, P3, _⟩ := PU w5 _ _ hown1.out hgrow.out hloc.out
    exact ⟨rfl, w.heap.size, b5, _, Nat.le_refl _, by omega, P1, KA.trans P2, G5.trans P3 KA.size⟩

end Go.Proofs.YtlehlgipbhfioaaGreat

namespace Go.Proofs.YtlehlgipbhfioaaGreat
open Go.RowKit Go.Maps

theorem infoIntK : (Tryz.prog.info? 3).map (fun i => (i.zero, i.size, i.bytes)) = some (some (.int .i64 0), 1, 8) := by kernel_rfl
def natC (l : List Nat) : List Value := l.map fun x : Nat => Value.int .i64 (x : Int)
theorem natC_len (l : List Nat) : (natC l).length = l.length := by simp [natC]
theorem natC_app (a b : List Nat) : natC a ++ natC b = natC (a ++ b) := by simp [natC]
theorem natC_get (l : List Nat) (j : Nat) : (natC l)[j]? = (l[j]?).map (fun x : Nat => Value.int .i64 (x : Int)) := by simp [natC]
theorem natC_one (l : List Nat) : ∀ u ∈ natC l, u.oneCell' = true := by
  intro u hu
  simp [natC] at hu
  obtain ⟨a, _, rfl⟩ := hu
  rfl

/-- A row of one's own is a block that need not change any more. -/
theorem UseIs.own {w : World} {base : Nat} {v : Value} {xs : List Nat} (h : w.ownsRow base 3 1 v xs.length (natC xs)) (hx : xs ≠ []) :
    ∃ x : Nat × Obj, UseIs [x] v xs ∧ w.heap[x.1]? = some x.2 ∧ v.ownBlock = some x.1 := by
  rcases h.2 with ⟨_, h0⟩ | ⟨g, cap, cur, rfl, hbg, hg, hnc, hcm, hcs, htake⟩
  · exact absurd (List.eq_nil_of_length_eq_zero h0) hx
  · refine ⟨(g, .cells cur 3 (0, 0)), ⟨some ⟨g, 0, none⟩, cap, rfl, hnc, .inr ⟨g, 0, cur, (0, 0), rfl, by simp, fun j x hj => ?_⟩⟩, hg, rfl⟩
    have hlt := (List.getElem?_eq_some_iff.1 hj).1
    have h1 : (natC xs)[j]? = some (.int .i64 (x : Int)) := by rw [natC_get, hj]; rfl
    rw [← htake, List.getElem?_take_of_lt (by omega)] at h1
    rw [Nat.zero_add]
    simpa using h1

theorem UseIs.cells {st : List (Nat × Obj)} {v : Value} {xs : List Nat} (h : UseIs st v xs) {w : World} (hw : Sat st w) (hx : xs ≠ []) :
    ∃ ad cap, v = .slice (some ad) xs.length cap ∧ xs.length ≤ cap ∧ ∀ j u, (natC xs)[j]? = some u → w.cell? (ad.add j) = some u := by
  obtain ⟨x, xs', rfl⟩ := List.exists_cons_of_ne_nil hx
  obtain ⟨b, off, cap, e, hcap, hc⟩ := h.cell hw (j := 0) (x := x) rfl
  refine ⟨⟨b, off, none⟩, cap, e, hcap, fun j u hj => ?_⟩
  rw [natC_get] at hj
  cases e2 : (x :: xs')[j]? with
  | none => rw [e2] at hj; cases hj
  | some y =>
    rw [e2] at hj
    cases hj
    have := hc j y e2
    simp only [Addr.add]
    by_cases hj0 : j = 0
    · subst hj0; simpa using this
    · simpa [hj0] using this

set_option maxHeartbeats 1000000 in
set_option maxRecDepth 100000 in
theorem together_in (w : World) (st : List (Nat × Obj)) (hw : Sat st w) (v1 v2 : Value) (xs ys : List Nat) (h1 : UseIs st v1 xs) (h2 : UseIs st v2 ys) (hl : xs.length + ys.length ≤ 1000000) :
    Calls Tryz.prog 72 #[v1, v2] w fun e w' => ∃ v' st2, e = .returned v' ∧ Kept0 w w' ∧ UseIs (st ++ st2) v' (xs ++ ys) ∧ Sat st2 w' ∧ ∀ x ∈ st2, w.heap.size ≤ x.1 := by
  by_cases hx : xs = []
  · subst hx
    obtain ⟨a1, c1, e1⟩ := h1.form
    subst e1
    have h2' : UseIs (st ++ []) v2 ([] ++ ys) := by simpa using h2
    obtain ⟨a2, c2, e2⟩ := h2.form
    subst e2
    have H2 : Hid _ := h2'
    clear h1 h2 h2' hw
    go_enter Tryz.func72, Tryz.ntmps72
    go_wp2_with fail
    go_ret
    exact ⟨_, [], rfl, Kept.refl _ w, H2.out, fun x hx => by simp at hx, fun x hx => by simp at hx⟩
  · have lx : 0 < xs.length := List.length_pos_iff.2 hx
    have dx : ((xs.length : Int) == 0) = false := beq_eq_false_iff_ne.2 (by omega)
    by_cases hy : ys = []
    · subst hy
      have h1' : UseIs (st ++ []) v1 (xs ++ []) := by simpa using h1
      obtain ⟨a1, c1, e1⟩ := h1.form
      subst e1
      obtain ⟨a2, c2, e2⟩ := h2.form
      subst e2
      have H1 : Hid _ := h1'
      clear h1 h2 h1' hw
      go_enter Tryz.func72, Tryz.ntmps72
      go_wp2_with fail
      go_ret
      exact ⟨_, [], rfl, Kept.refl _ w, H1.out, fun x hx => by simp at hx, fun x hx => by simp at hx⟩
    · have ly : 0 < ys.length := List.length_pos_iff.2 hy
      have dy : ((ys.length : Int) == 0) = false := beq_eq_false_iff_ne.2 (by omega)
      obtain ⟨ad1, c1, e1, p1, g1⟩ := h1.cells hw hx
      obtain ⟨ad2, c2, e2, p2, g2⟩ := h2.cells hw hy
      subst e1 e2
      obtain ⟨i0, hi0, hz0, hz1, hz2⟩ := info_parts infoIntK
      go_enter Tryz.func72, Tryz.ntmps72
      go_wp2_with (at_builtin; refine wpList_append_grows w rfl _ _ 110 rfl 3 i0 _ 1 8 Tryz.underlying110 hi0 hz0 hz1 hz2 rfl (by decide) (some ad1) xs.length xs.length (natC xs) rfl (by simp) (by simp [natC_len]) (fun b hb => by cases hb; exact g1) ad2 ys.length c2 (natC ys) rfl (by simp [natC_len]) g2 (natC_one _) (by omega) (by unfold maxLen; omega) (by omega) ?_; intro v' w' r1 r2)
      have K : Kept0 w w' := Kept.grown (Kept.refl _ w) r2 (fun _ e => by cases e)
      rw [natC_app] at r1
      have r1' : w'.ownsRow w.heap.size 3 1 v' (xs ++ ys).length (natC (xs ++ ys)) := by rw [List.length_append]; exact r1
      obtain ⟨x, u1, u2, u3⟩ := UseIs.own r1' (by simp [hx])
      go_ret
      refine ⟨v', [x], rfl, K, u1.mono (fun y hy => List.mem_append_right _ hy), fun y hy => ?_, fun y hy => ?_⟩
      · simp at hy; subst hy; exact u2
      · simp at hy; subst hy; exact (r1'.lt _ u3).1

end Go.Proofs.YtlehlgipbhfioaaGreat

namespace Go.Proofs.YtlehlgipbhfioaaGreat
open Go.RowKit Go.Maps

theorem Cz.mark {w : World} {base : Nat} {l : List Tm} {z : Zs} (h : Cz w base l z) {W : World} (K : Kept0 w W) :
    Calls Tryz.prog 70 #[.pointer (some ⟨z.ps, 0, none⟩)] W fun e w' => e = .returned (.int .i64 (z.t.length : Int)) ∧ W = w' := by
  have := Mark_in W base z.ps z.nb l.length z.g z.jv _ (h.kept0 K).sets.lies
  rw [Uf.recs_length] at this
  exact this

theorem two_boxes (w : World) (A B : Obj) : ((w.alloc A).alloc B).drew.heap[w.heap.size]? = some A ∧ ((w.alloc A).alloc B).drew.heap[w.heap.size + 1]? = some B ∧ Kept0 w ((w.alloc A).alloc B).drew := by
  refine ⟨?_, ?_, (((Kept.refl _ w).alloc A).alloc B).drew⟩
  · show ((w.alloc A).alloc B).heap[w.heap.size]? = some A
    rw [Below.heap_alloc _ _ _ (by simp)]
    exact Deep.blk_alloc_new w A
  · have := Deep.blk_alloc_new (w.alloc A) B
    rw [show (w.alloc A).heap.size = w.heap.size + 1 by simp] at this
    exact this

theorem Kept.into {S T : Nat → Prop} {a b c : World} (h : Kept S a b) (k : Kept T b c) (hT : ∀ i, T i → S i ∨ a.heap.size ≤ i) : Kept S a c :=
  ⟨k.os.trans h.os, k.tape.trans h.tape, k.output.trans h.output, Nat.le_trans h.size k.size, fun i hi hs => (k.block i (Nat.lt_of_lt_of_le hi h.size) (fun t => (hT i t).elim hs (fun x => by omega))).trans (h.block i hi hs)⟩

/-- The step that takes a join back, and the boxes that it holds. -/
def undoF (bc bm bo bl : Nat) : Value := .func (.func 73) #[] #[.pointer (some ⟨bc, 0, none⟩), .pointer (some ⟨bm, 0, none⟩), .pointer (some ⟨bo, 0, none⟩), .pointer (some ⟨bl, 0, none⟩)]
def undoS (z : Zs) (low : Nat) (bc bm bo bl : Nat) : List (Nat × Obj) := [(bc, .cells #[.pointer (some ⟨z.pk, 0, none⟩)] 57), (bl, .cells #[.int .i64 (low : Int)] 3), (bm, .cells #[.int .i64 (z.t.length : Int)] 3), (bo, .cells #[z.uv low] 110)]

/-- What join leaves. -/
def joinZ (l : List Tm) (z : Zs) (low high bc bm bo bl : Nat) (jv' : Value) (st2 : List (Nat × Obj)) (v' bv' : Value) : Zs :=
  { z with jv := jv', g := joinG l.length z.g low high, t := joinT l.length z.g z.t low high, st := z.st ++ undoS z low bc bm bo bl ++ st2, uv := fun i => if i = low then v' else z.uv i, us := fun i => if i = low then z.us low ++ z.us high else z.us i, bv := bv', bs := z.bs ++ [undoF bc bm bo bl] }

theorem Cz.addStats {w : World} {base : Nat} {l : List Tm} {z : Zs} (h : Cz w base l z) (xs : List (Nat × Obj)) (hx : Sat xs w) (hf : ∀ x ∈ xs, base ≤ x.1 ∧ ¬ z.Foot x.1) : Cz w base l { z with st := z.st ++ xs } := by
  refine ⟨h.cls, h.sets, h.terms, h.uses, h.known, h.back, ?_, ?_, fun i t ht => (h.argsAt i t ht).mono (fun y hy => List.mem_append_left _ hy), fun i hi => (h.usesAt i hi).mono (fun y hy => List.mem_append_left _ hy), h.bd, h.oks, h.len, h.bp, h.bt, h.bu, h.bm⟩
  · intro y hy
    rcases List.mem_append.1 hy with hy | hy
    · exact h.sat y hy
    · exact hx y hy
  · intro y hy
    rcases List.mem_append.1 hy with hy | hy
    · exact h.far y hy
    · exact hf y hy

/-- Two classes of the Sets become one. -/
theorem Cz.join {w : World} {base : Nat} {l : List Tm} {z : Zs} (h : Cz w base l z) (a b : Nat) :
    Calls Tryz.prog 71 #[.pointer (some ⟨z.ps, 0, none⟩), .int .i64 (a : Int), .int .i64 (b : Int)] w fun e w' => e = .returned (.bool (joins l.length z.g a b)) ∧ ∃ jv', Cz w' base l { z with jv := jv', g := joinG l.length z.g a b, t := joinT l.length z.g z.t a b } ∧ Kept z.Foot w w' ∧ Grows w z { z with jv := jv', g := joinG l.length z.g a b, t := joinT l.length z.g z.t a b } := by
  refine (Join_st w base z.ps z.nb z.jv l.length z.g z.t h.sets a b).mono ?_
  rintro e w' ⟨he, jv', hS, K, hloc⟩
  have A := h.apart
  obtain ⟨D, d1, d2, d3⟩ := h.known
  have hfoot : ∀ k, Zs.Foot { z with jv := jv', g := joinG l.length z.g a b, t := joinT l.length z.g z.t a b } k → z.Foot k ∨ w.heap.size ≤ k := by
    rintro k (e | (e | e | e) | e | e | e)
    · exact .inl (.inl e)
    · exact .inl (.inr (.inl (.inl e)))
    · exact .inl (.inr (.inl (.inr (.inl e))))
    · rcases hloc with e2 | e2
      · exact .inl (.inr (.inl (.inr (.inr (e2 ▸ e)))))
      · exact .inr (e2 k e)
    · exact .inl (.inr (.inr (.inl e)))
    · exact .inl (.inr (.inr (.inr (.inl e))))
    · exact .inl (.inr (.inr (.inr (.inr e))))
  refine ⟨he, jv', ⟨h.cls.of_block (K.block _ h.cls.lt ?_), hS, h.terms.of_block (K.block _ h.terms.lt ?_), h.uses.of_block (K.block _ h.uses.lt ?_), ⟨D, mapIs_block d1 (K.block _ (World.ownsMap.lt d1) ?_), d2, d3⟩, ownsRow_blockC h.back (fun k hk => K.block k (h.back.lt k hk).2 ?_), fun x hx => (K.block x.1 (h.st_lt hx) (fun e => (h.far x hx).2 (.inr (.inl e)))).trans (h.sat x hx), fun x hx => ⟨(h.far x hx).1, fun hk => ?_⟩, h.argsAt, h.usesAt, h.bd, h.oks, h.len, h.bp, h.bt, h.bu, h.bm⟩, Kept.mono K (fun k _ e => .inr (.inl e)), ⟨rfl, hfoot, rfl, fun _ hx => .inl hx⟩⟩
  · rintro (e | e | e)
    · exact A.kp e
    · exact A.kn e
    · exact A.kj e
  · rintro (e | e | e)
    · exact A.pt e.symm
    · exact A.nt e.symm
    · exact A.jt e
  · rintro (e | e | e)
    · exact A.pu e.symm
    · exact A.nu e.symm
    · exact A.ju e
  · rintro (e | e | e)
    · exact A.pm e.symm
    · exact A.nm e.symm
    · exact A.jm e
  · rintro (e | e | e)
    · exact A.pb (by rw [hk, e])
    · exact A.nb (by rw [hk, e])
    · exact A.jb k e hk
  · rcases hfoot _ hk with e | e
    · exact (h.far x hx).2 e
    · have := h.st_lt hx; omega

/-- The uses of a class are others now. -/
theorem Cz.setUse {w : World} {base : Nat} {l : List Tm} {z : Zs} (h : Cz w base l z) (low : Nat) (v : Value) (ys : List Nat) (hv : UseIs z.st v ys) :
    Cz (w.setCell ⟨z.ub, low, none⟩ v) base l { z with uv := fun i => if i = low then v else z.uv i, us := fun i => if i = low then ys else z.us i } ∧ Kept z.Foot w (w.setCell ⟨z.ub, low, none⟩ v) := by
  have K : Kept1 z.ub w (w.setCell ⟨z.ub, low, none⟩ v) := Kept1.set (Kept.refl _ w) low v
  have A := h.apart
  obtain ⟨D, d1, d2, d3⟩ := h.known
  refine ⟨⟨h.cls.of_block (K.block _ h.cls.lt A.ku), h.sets.other K A.pu A.nu (fun k hk e => A.ju (by rw [hk, e])), h.terms.of_block (K.block _ h.terms.lt A.ut.symm), h.uses.set low v, ⟨D, mapIs_block d1 (K.block _ (World.ownsMap.lt d1) A.um.symm), d2, d3⟩,
    ownsRow_blockC h.back (fun k hk => K.block k (h.back.lt k hk).2 (fun e => A.ub (by rw [hk, e]))), fun x hx => (K.block x.1 (h.st_lt hx) (fun e => (h.far x hx).2 (.inr (.inr (.inl e))))).trans (h.sat x hx), h.far, h.argsAt, fun i hi => ?_, h.bd, h.oks, h.len, h.bp, h.bt, h.bu, h.bm⟩, Kept.mono K (fun k _ e => .inr (.inr (.inl e)))⟩
  show UseIs z.st (if i = low then v else z.uv i) (if i = low then ys else z.us i)
  by_cases e : i = low
  · rw [if_pos e, if_pos e]; exact hv
  · rw [if_neg e, if_neg e]; exact h.usesAt i hi

set_option maxHeartbeats 2000000 in
set_option maxRecDepth 100000 in
theorem join_in (w : World) (base : Nat) (l : List Tm) (z : Zs) (h : Cz w base l z) (low high : Nat) (hlow : low < l.length) (hhigh : high < l.length) (hbs : z.bs.length < 1000000) (hne : low ≠ high) (hus : (z.us low).length + (z.us high).length ≤ 1000000) (hbase : base ≤ w.heap.size) :
    Calls Tryz.prog 39 #[.pointer (some ⟨z.pk, 0, none⟩), .int .i64 (low : Int), .int .i64 (high : Int)] w fun e w' => e = .returned (.tuple #[]) ∧ ∃ bc bm bo bl jv' st2 v' bv', w.heap.size ≤ bc ∧ w.heap.size ≤ bm ∧ w.heap.size ≤ bo ∧ w.heap.size ≤ bl ∧ (∀ x ∈ st2, w.heap.size ≤ x.1) ∧ Cz w' base l (joinZ l z low high bc bm bo bl jv' st2 v' bv') ∧ Kept z.Foot w w' ∧ Grows w z (joinZ l z low high bc bm bo bl jv' st2 v' bv') := by
  have hlen := h.len
  have K1 : Kept0 w ((w.alloc (.cells #[.pointer (some ⟨z.pk, 0, none⟩)] 57)).alloc (.cells #[.int .i64 (low : Int)] 3)) := Kept.alloc (Kept.alloc (Kept.refl _ w) _) _
  have R3 := World.rowIs.alloc (made_row w #[.pointer (some ⟨z.pk, 0, none⟩)] 57) (.cells #[.int .i64 (low : Int)] 3)
  have R4 := made_row (w.alloc (.cells #[.pointer (some ⟨z.pk, 0, none⟩)] 57)) #[.int .i64 (low : Int)] 3
  have hs1 : (w.alloc (.cells #[.pointer (some ⟨z.pk, 0, none⟩)] 57)).heap.size = w.heap.size + 1 := by simp
  rw [hs1] at R4
  obtain ⟨ua, uc, huv⟩ := (h.usesAt low hlow).form
  go_enter Tryz.func39, Tryz.ntmps39
  go_wp2_with fail
  generalize (w.alloc (.cells #[.pointer (some ⟨z.pk, 0, none⟩)] 57)).alloc (.cells #[.int .i64 (low : Int)] 3) = w1 at *
  have H1 := h.kept0 K1
  have x3 : w1.cell? ⟨w.heap.size, 0, none⟩ = some (.pointer (some ⟨z.pk, 0, none⟩)) := R3.cell (i := 0) (by simp)
  have x4 : w1.cell? ⟨w.heap.size + 1, 0, none⟩ = some (.int .i64 (low : Int)) := R4.cell (i := 0) (by simp)
  have k0 := H1.k0
  have k2 := H1.k2
  have ul := H1.u hlow
  rw [huv] at ul
  have MARK := fun W K => H1.mark (W := W) K
  have stay : ∀ W, Kept0 w1 W → (W.cell? ⟨w.heap.size, 0, none⟩ = some (.pointer (some ⟨z.pk, 0, none⟩)) ∧ W.cell? ⟨w.heap.size + 1, 0, none⟩ = some (.int .i64 (low : Int)) ∧ W.cell? ⟨z.pk, 0, none⟩ = some (.pointer (some ⟨z.ps, 0, none⟩)) ∧ W.cell? ⟨z.pk, 2, none⟩ = some (.slice (some ⟨z.ub, 0, none⟩) l.length l.length) ∧ W.cell? ⟨z.ub, low, none⟩ = some (.slice ua (z.us low).length uc)) := fun W K => by
    have hc : ∀ {b o : Nat} {u : Value}, w1.cell? ⟨b, o, none⟩ = some u → W.cell? ⟨b, o, none⟩ = some u := fun {b o u} hu => (World.cell?_of_block (K.block b (World.block_lt_of_cell? w1 _ hu) (fun e => e)) ).trans hu
    exact ⟨hc x3, hc x4, hc k0, hc k2, hc ul⟩
  clear x3 x4 k0 k2 ul
  go_cut [6, 7] from 8 to 19 (fun v6 v7 wx => ∃ b6 b7, v6 = .pointer (some ⟨b6, 0, none⟩) ∧ v7 = .pointer (some ⟨b7, 0, none⟩) ∧ w1.heap.size ≤ b6 ∧ w1.heap.size ≤ b7 ∧ wx.heap[b6]? = some (.cells #[.int .i64 (z.t.length : Int)] 3) ∧ wx.heap[b7]? = some (.cells #[.slice ua (z.us low).length uc] 110) ∧ Kept0 w1 wx)
  case first =>
    go_region_held3 (fun W => W.cell? ⟨w.heap.size, 0, none⟩ = some (.pointer (some ⟨z.pk, 0, none⟩)) ∧ W.cell? ⟨w.heap.size + 1, 0, none⟩ = some (.int .i64 (low : Int)) ∧ W.cell? ⟨z.pk, 0, none⟩ = some (.pointer (some ⟨z.ps, 0, none⟩)) ∧ W.cell? ⟨z.pk, 2, none⟩ = some (.slice (some ⟨z.ub, 0, none⟩) l.length l.length) ∧ W.cell? ⟨z.ub, low, none⟩ = some (.slice ua (z.us low).length uc)) (exact stay _ (by repeat (first | exact Kept.refl _ _ | apply Kept.drew | apply Kept.drewN | apply Kept.alloc | refine Kept.setNew ?_ (by simp) _))) (first | (go_at_call 70; refine (MARK _ (by repeat (first | exact Kept.refl _ _ | apply Kept.drew | apply Kept.drewN | apply Kept.alloc))).mono ?_; rintro e w' ⟨rfl, rfl⟩))
    all_goals
      go_wp2_with fail
      go_meet
      case rel =>
        first
        | exact ⟨_, _, rfl, rfl, Nat.le_refl _, by omega, (two_boxes w1 _ _).1, (two_boxes w1 _ _).2.1, (two_boxes w1 _ _).2.2⟩
        | exact ⟨_, _, rfl, rfl, by omega, Nat.le_refl _, (two_boxes w1 _ _).2.1, (two_boxes w1 _ _).1, (two_boxes w1 _ _).2.2⟩
  case rest =>
    obtain ⟨b6, b7, rfl, rfl, l6, l7, O6, O7, K2⟩ := hcut
    clear MARK stay
    have l3 := R3.lt
    have l4 := R4.lt
    have K := K1.trans K2
    have O3 : wc.heap[w.heap.size]? = some (.cells #[.pointer (some ⟨z.pk, 0, none⟩)] 57) := (K2.block _ l3 (fun e => e)).trans (rowIs_obj R3 _ rfl (fun i hi => by
      have hi' : i < 1 := hi
      obtain rfl : i = 0 := by omega
      rfl))
    have O4 : wc.heap[w.heap.size + 1]? = some (.cells #[.int .i64 (low : Int)] 3) := (K2.block _ l4 (fun e => e)).trans (rowIs_obj R4 _ rfl (fun i hi => by
      have hi' : i < 1 := hi
      obtain rfl : i = 0 := by omega
      rfl))
    have nf : ∀ k, w.heap.size ≤ k → ¬ z.Foot k := fun k hk hf => by have := h.foot_lt hf; omega
    have S2 : Sat (undoS z low w.heap.size b6 b7 (w.heap.size + 1)) wc := by
      intro x hx
      simp [undoS] at hx
      rcases hx with rfl | rfl | rfl | rfl
      · exact O3
      · exact O4
      · exact O6
      · rw [huv]; exact O7
    have H2 := (h.kept0 K).addStats (undoS z low w.heap.size b6 b7 (w.heap.size + 1)) S2 (by
      intro x hx
      have hx1 : w.heap.size ≤ x.1 := by
        simp [undoS] at hx
        rcases hx with rfl | rfl | rfl | rfl
        · exact Nat.le_refl _
        · exact Nat.le_succ _
        · show w.heap.size ≤ b6; omega
        · show w.heap.size ≤ b7; omega
      exact ⟨by omega, nf _ hx1⟩)
    have k0 := H2.k0
    have x3 : wc.cell? ⟨w.heap.size, 0, none⟩ = some (.pointer (some ⟨z.pk, 0, none⟩)) := by simp [World.cell?, O3]
    have x4 : wc.cell? ⟨w.heap.size + 1, 0, none⟩ = some (.int .i64 (low : Int)) := by simp [World.cell?, O4]
    have JOIN := fun m => (H2.drewN m).join low high
    have G2 : Grows w z { z with st := z.st ++ undoS z low w.heap.size b6 b7 (w.heap.size + 1) } := ⟨rfl, fun _ hk => .inl hk, rfl, fun x hx => by
      rcases List.mem_append.1 hx with hx | hx
      · exact .inl hx
      · refine .inr ?_
        simp [undoS] at hx
        rcases hx with rfl | rfl | rfl | rfl
        · exact Nat.le_refl _
        · exact Nat.le_succ _
        · show w.heap.size ≤ b6; omega
        · show w.heap.size ≤ b7; omega⟩
    go_wp2_with fail
    go_cut [26] from 20 to 26 (fun v wx => v = .bool (joins l.length z.g low high) ∧ ∃ jv', Cz wx base l { z with st := z.st ++ undoS z low w.heap.size b6 b7 (w.heap.size + 1), jv := jv', g := joinG l.length z.g low high, t := joinT l.length z.g z.t low high } ∧ Kept z.Foot w wx ∧ Grows w z { z with st := z.st ++ undoS z low w.heap.size b6 b7 (w.heap.size + 1), jv := jv', g := joinG l.length z.g low high, t := joinT l.length z.g z.t low high } ∧ Kept z.Foot wc wx)
    case first =>
      go_region_with (go_at_call 71; refine (JOIN 1).mono ?_; rintro e w3 ⟨rfl, jv', H3, K3, G3⟩)
      all_goals
        go_wp2_with fail
        go_meet
        case rel =>
          have K3' : Kept z.Foot (wc.drewN 1) w3 := K3
          exact ⟨rfl, jv', H3, (Kept.mono (K.drewN 1) (fun _ _ e => e.elim)).trans K3', G2.trans G3 K.size, (Kept.drewN (Kept.refl _ wc) 1).trans K3'⟩
    case rest =>
      obtain ⟨rfl, jv', H3, K3, G3, K3c⟩ := hcut
      clear JOIN H2 k0 x3 x4 G2
      rename_i w2
      obtain ⟨ha, hc, huh⟩ := (h.usesAt high hhigh).form
      have U1 := H3.usesAt low hlow
      have U2 := H3.usesAt high hhigh
      have nU : ∀ k, w.heap.size ≤ k → k ≠ z.ub := fun k hk e => nf k hk (.inr (.inr (.inl e)))
      have q3 : wc.heap[w.heap.size]? = some (.cells #[.pointer (some ⟨z.pk, 0, none⟩)] 57) := H3.sat (w.heap.size, .cells #[.pointer (some ⟨z.pk, 0, none⟩)] 57) (by simp [undoS])
      have q4 : wc.heap[w.heap.size + 1]? = some (.cells #[.int .i64 (low : Int)] 3) := H3.sat (w.heap.size + 1, .cells #[.int .i64 (low : Int)] 3) (by simp [undoS])
      have q7 : wc.heap[b7]? = some (.cells #[z.uv low] 110) := H3.sat (b7, .cells #[z.uv low] 110) (by simp [undoS])
      have c3 : wc.cell? ⟨w.heap.size, 0, none⟩ = some (.pointer (some ⟨z.pk, 0, none⟩)) := by simp [World.cell?, q3]
      have c4 : wc.cell? ⟨w.heap.size + 1, 0, none⟩ = some (.int .i64 (low : Int)) := by simp [World.cell?, q4]
      have c7 : wc.cell? ⟨b7, 0, none⟩ = some (.slice ua (z.us low).length uc) := by rw [← huv]; simp [World.cell?, q7]
      have ck : wc.cell? ⟨z.pk, 2, none⟩ = some (.slice (some ⟨z.ub, 0, none⟩) l.length l.length) := H3.k2
      have cu : wc.cell? ⟨z.ub, high, none⟩ = some (.slice ha (z.us high).length hc) := by rw [← huh]; exact H3.u hhigh
      have fu := H3.uses.frozen low
      have cl : wc.cell? ⟨z.ub, low, none⟩ = some (.slice ua (z.us low).length uc) := by rw [← huv]; exact H3.u hlow
      have TOG : ∀ W, Kept0 wc W → Calls Tryz.prog 72 #[.slice ua (z.us low).length uc, .slice ha (z.us high).length hc] W fun e w' => ∃ v' st2, e = .returned v' ∧ Kept0 W w' ∧ UseIs (z.st ++ undoS z low w.heap.size b6 b7 (w.heap.size + 1) ++ st2) v' (z.us low ++ z.us high) ∧ Sat st2 w' ∧ ∀ x ∈ st2, W.heap.size ≤ x.1 := fun W KW => by
        rw [← huv, ← huh]
        exact together_in W _ (H3.kept0 KW).sat _ _ _ _ U1 U2 hus
      have stay : ∀ W, Kept0 wc W → (W.cell? ⟨w.heap.size, 0, none⟩ = some (.pointer (some ⟨z.pk, 0, none⟩)) ∧ W.cell? ⟨w.heap.size + 1, 0, none⟩ = some (.int .i64 (low : Int)) ∧ W.cell? ⟨b7, 0, none⟩ = some (.slice ua (z.us low).length uc) ∧ W.cell? ⟨z.pk, 2, none⟩ = some (.slice (some ⟨z.ub, 0, none⟩) l.length l.length) ∧ W.cell? ⟨z.ub, high, none⟩ = some (.slice ha (z.us high).length hc)) := fun W K => by
        have hcc : ∀ {b o : Nat} {u : Value}, wc.cell? ⟨b, o, none⟩ = some u → W.cell? ⟨b, o, none⟩ = some u := fun {b o u} hu => (World.cell?_of_block (K.block b (World.block_lt_of_cell? wc _ hu) (fun e => e)) ).trans hu
        exact ⟨hcc c3, hcc c4, hcc c7, hcc ck, hcc cu⟩
      have hku := H3.apart.ku
      have stay2 : ∀ W v, Kept0 wc W → ((W.setCell ⟨z.ub, low, none⟩ v).cell? ⟨w.heap.size, 0, none⟩ = some (.pointer (some ⟨z.pk, 0, none⟩)) ∧ (W.setCell ⟨z.ub, low, none⟩ v).cell? ⟨w.heap.size + 1, 0, none⟩ = some (.int .i64 (low : Int)) ∧ (W.setCell ⟨z.ub, low, none⟩ v).cell? ⟨b7, 0, none⟩ = some (.slice ua (z.us low).length uc) ∧ (W.setCell ⟨z.ub, low, none⟩ v).cell? ⟨z.pk, 2, none⟩ = some (.slice (some ⟨z.ub, 0, none⟩) l.length l.length) ∧ (W.setCell ⟨z.ub, low, none⟩ v).cell? ⟨z.ub, high, none⟩ = some (.slice ha (z.us high).length hc)) := fun W v KW => by
        obtain ⟨s1, s2, s3, s4, s5⟩ := stay W KW
        have ho : ∀ {b o : Nat} {u : Value}, b ≠ z.ub → W.cell? ⟨b, o, none⟩ = some u → (W.setCell ⟨z.ub, low, none⟩ v).cell? ⟨b, o, none⟩ = some u := fun {b o u} hb hu => (World.cell?_of_block (Below.heap_setCell _ _ _ _ hb)).trans hu
        refine ⟨ho (nU _ (Nat.le_refl _)) s1, ho (nU _ (Nat.le_succ _)) s2, ho (nU b7 (by omega)) s3, ho hku s4, ?_⟩
        have := ((H3.kept0 KW).uses.set low v).cell (i := high) hhigh
        rw [if_neg (Ne.symm hne)] at this
        rw [← huh]; exact this
      have FRZ : ∀ W, Kept0 wc W → W.frozen? ⟨z.ub, low, none⟩ = false ∧ W.cell? ⟨z.ub, low, none⟩ = some (.slice ua (z.us low).length uc) := fun W KW => ⟨(H3.kept0 KW).uses.frozen low, by rw [← huv]; exact (H3.kept0 KW).u hlow⟩
      clear c3 c4 c7 ck cu
      go_wp2_with fail
      go_cut [40] from 27 to 41 (fun v wx => ∃ st2, UseIs (z.st ++ undoS z low w.heap.size b6 b7 (w.heap.size + 1) ++ st2) v (z.us low ++ z.us high) ∧ (∀ x ∈ st2, w.heap.size ≤ x.1) ∧ ∃ w4, Kept0 wc w4 ∧ Sat st2 w4 ∧ (∀ x ∈ st2, wc.heap.size ≤ x.1) ∧ wx = w4.setCell ⟨z.ub, low, none⟩ v)
      case first =>
        go_region_held3 (fun W => W.cell? ⟨w.heap.size, 0, none⟩ = some (.pointer (some ⟨z.pk, 0, none⟩)) ∧ W.cell? ⟨w.heap.size + 1, 0, none⟩ = some (.int .i64 (low : Int)) ∧ W.cell? ⟨b7, 0, none⟩ = some (.slice ua (z.us low).length uc) ∧ W.cell? ⟨z.pk, 2, none⟩ = some (.slice (some ⟨z.ub, 0, none⟩) l.length l.length) ∧ W.cell? ⟨z.ub, high, none⟩ = some (.slice ha (z.us high).length hc)) (first | exact stay _ (by first | assumption | exact (Kept.refl _ _).drew) | exact stay2 _ _ (by first | assumption | exact (Kept.refl _ _).drew)) (first | (go_at_call 72; refine (TOG _ (by first | assumption | exact (Kept.refl _ _).drew)).mono ?_; rintro e w4 ⟨v', st2, rfl, K4, U4, S4, L4⟩; have KS : Kept0 wc w4 := Kept.trans (by first | assumption | exact (Kept.refl _ _).drew) K4; obtain ⟨va, vc, hva⟩ := UseIs.form U4; subst hva; obtain ⟨fz4, cl4⟩ := FRZ w4 KS))
        all_goals
          go_wp2_with fail
          go_meet
          case rel =>
            have hsz : w.heap.size ≤ wc.heap.size := K3.size
            have L4' : ∀ x ∈ st2, wc.heap.size ≤ x.1 := L4
            exact ⟨st2, by simpa using U4, fun x hx => Nat.le_trans hsz (L4' x hx), w4, KS, S4, L4', rfl⟩
      case rest =>
        obtain ⟨st2, U4, L4, w4, K4, S4, L4c, rfl⟩ := hcut
        have H4 := ((H3.kept0 K4).addStats st2 S4 (fun x hx => ⟨by have := L4 x hx; omega, fun hf => by have := H3.foot_lt hf; have := L4c x hx; omega⟩)).setUse low u40 (z.us low ++ z.us high) U4
        have KA : Kept z.Foot w (w4.setCell ⟨z.ub, low, none⟩ u40) := (K3.trans (Kept.mono K4 (fun _ _ e => e.elim))).trans (Kept.setCell (p := ⟨z.ub, low, none⟩) (Kept.refl _ w4) (.inr (.inr (.inl rfl))) u40)
        obtain ⟨H5, _⟩ := H4
        have G4 : Grows w z { z with st := z.st ++ undoS z low w.heap.size b6 b7 (w.heap.size + 1) ++ st2, jv := jv', g := joinG l.length z.g low high, t := joinT l.length z.g z.t low high, uv := fun i => if i = low then u40 else z.uv i, us := fun i => if i = low then z.us low ++ z.us high else z.us i } := ⟨rfl, G3.foot, rfl, fun x hx => by
          rcases List.mem_append.1 hx with hx | hx
          · exact G3.st x hx
          · exact .inr (L4 x hx)⟩
        generalize hw5 : w4.setCell ⟨z.ub, low, none⟩ u40 = w5 at *
        clear hw5 K3c TOG stay stay2 FRZ cl fu U1 U2 H3 S4 U4 K4 L4c q3 q4 q7
        have q3 : w5.heap[w.heap.size]? = some (.cells #[.pointer (some ⟨z.pk, 0, none⟩)] 57) := H5.sat (w.heap.size, .cells #[.pointer (some ⟨z.pk, 0, none⟩)] 57) (by simp [undoS])
        have c3 : w5.cell? ⟨w.heap.size, 0, none⟩ = some (.pointer (some ⟨z.pk, 0, none⟩)) := by simp [World.cell?, q3]
        have hb5 : base ≤ w5.heap.size := by have := KA.size; omega
        obtain ⟨i0, hi0, hz0, hz1, hz2⟩ := info_parts infoStepC
        obtain ⟨ba, bc, hbv⟩ : ∃ ba bc, z.bv = .slice ba z.bs.length bc := row_form' h.back
        have A4 : ∀ O, (w5.alloc O).cell? ⟨z.pk, 4, none⟩ = some (.slice ba z.bs.length bc) := fun O => by rw [← hbv]; exact (World.rowIs.alloc H5.cls O).cell (i := 4) (by omega)
        have a4 : w5.cell? ⟨z.pk, 4, none⟩ = some (.slice ba z.bs.length bc) := by rw [← hbv]; exact H5.k4
        have OWN : ∀ O, (w5.alloc O).drew.ownsRow base 1 1 (.slice ba z.bs.length bc) z.bs.length z.bs := fun O => by rw [← hbv]; exact World.ownsRow.alloc H5.back O
        have NEW := one_newD w5 0 (undoF w.heap.size b6 b7 (w.heap.size + 1)) 1
        have KD : ∀ O, Kept0 w5 (w5.alloc O).drew := fun O => ((Kept.refl _ w5).alloc O).drew
        have PUSH := fun w1 O v' => H5.push (w1 := w1) (KD O) (undoF w.heap.size b6 b7 (w.heap.size + 1)) v'
        have hbx : w.heap.size < w5.heap.size := (Array.getElem?_eq_some_iff.1 q3).1
        have BOX : ∀ w6, Kept (fun k => z.bv.ownBlock = some k) w5 w6 → w6.cell? ⟨w.heap.size, 0, none⟩ = some (.pointer (some ⟨z.pk, 0, none⟩)) := fun w6 K6 => (World.cell?_of_block (K6.block w.heap.size hbx (fun e => nf _ (Nat.le_refl _) (.inr (.inr (.inr (.inr e))))))).trans c3
        have PUSH' : ∀ w6 O v', w6.ownsRow base 1 1 v' (z.bs.length + 1) (z.bs ++ [undoF w.heap.size b6 b7 (w.heap.size + 1)]) → (w5.alloc O).drew.grownBy w6 (Value.slice ba z.bs.length bc).ownBlock → (v'.ownBlock = (Value.slice ba z.bs.length bc).ownBlock ∨ ∀ k, v'.ownBlock = some k → (w5.alloc O).drew.heap.size ≤ k) → _ := fun w6 O v' h1 h2 h3 => PUSH w6 O v' h1 (by rw [← hbv] at h2; exact h2) (by rw [← hbv] at h3; exact h3)
        have CEL : ∀ w6 O v', w6.ownsRow base 1 1 v' (z.bs.length + 1) (z.bs ++ [.func (.func 73) #[] #[.pointer (some ⟨w.heap.size, 0, none⟩), .pointer (some ⟨b6, 0, none⟩), .pointer (some ⟨b7, 0, none⟩), .pointer (some ⟨w.heap.size + 1, 0, none⟩)]]) → (w5.alloc O).drew.grownBy w6 (Value.slice ba z.bs.length bc).ownBlock → (v'.ownBlock = (Value.slice ba z.bs.length bc).ownBlock ∨ ∀ k, v'.ownBlock = some k → (w5.alloc O).drew.heap.size ≤ k) →
            w6.cell? ⟨z.pk, 4, none⟩ = some (.slice ba z.bs.length bc) ∧ w6.frozen? ⟨z.pk, 4, none⟩ = false ∧ w6.cell? ⟨w.heap.size, 0, none⟩ = some (.pointer (some ⟨z.pk, 0, none⟩)) := fun w6 O v' h1 h2 h3 => by
          obtain ⟨_, _, _, c1, c2, P6⟩ := PUSH' w6 O v' h1 h2 h3
          exact ⟨(by rw [← hbv]; exact c1), c2, BOX w6 P6⟩
        simp only [undoF] at NEW
        have npk : w.heap.size ≠ z.pk := fun e => nf _ (Nat.le_refl _) (.inl e)
        have SW : ∀ (W : World) (v : Value), W.cell? ⟨w.heap.size, 0, none⟩ = some (.pointer (some ⟨z.pk, 0, none⟩)) → (W.setCell ⟨z.pk, 4, none⟩ v).cell? ⟨w.heap.size, 0, none⟩ = some (.pointer (some ⟨z.pk, 0, none⟩)) := fun W v hW => (World.cell?_of_block (Below.heap_setCell _ _ _ _ npk)).trans hW
        have SA : ∀ O, (w5.alloc O).drew.cell? ⟨w.heap.size, 0, none⟩ = some (.pointer (some ⟨z.pk, 0, none⟩)) := fun O => (World.cell?_of_block (Below.heap_alloc _ _ _ hbx)).trans c3
        have ALL : Hid (_ ∧ _ ∧ _) := ⟨PUSH', KA, G4⟩
        clear q3 PUSH PUSH' KA G4 BOX KD H5 K1 K2 K3 G3 h S2 nf hus O3 O4 O6 O7 R3 R4 H1 npk nU hku K huv huh
        go_wp2_with fail
        have A3 : ∀ O, (w5.alloc O).cell? ⟨w.heap.size, 0, none⟩ = some (.pointer (some ⟨z.pk, 0, none⟩)) := SA
        clear SA SW
        go_region_law (refine step_append_here rfl (.tmp 46) (.tmp 48) 69 rfl base 1 i0 _ 1 8 Tryz.underlying69 hi0 hz0 hz1 hz2 rfl (by decide) _ z.bs.length z.bs (by simp [Act.eval]; rfl) (by exact OWN _) ⟨w5.heap.size, 0, none⟩ 1 1 [.func (.func 73) #[] #[.pointer (some ⟨w.heap.size, 0, none⟩), .pointer (some ⟨b6, 0, none⟩), .pointer (some ⟨b7, 0, none⟩), .pointer (some ⟨w.heap.size + 1, 0, none⟩)]] (by simp [Act.eval]) rfl (by exact NEW) (by simp [Value.oneCell']) (by unfold maxLen; omega) (by omega) (by simp; omega) ?_; intro v' w6 hown1 hgrow hloc; obtain ⟨kp1, kf1, kc1⟩ := CEL w6 _ v' hown1 hgrow hloc; obtain ⟨b1, cap1, hv1⟩ := ownsRow_succ hown1; subst hv1; replace hown1 : Hid _ := hown1; replace hgrow : Hid _ := hgrow; replace hloc : Hid _ := hloc)
        all_goals
          go_end0
          obtain ⟨PU, KA, G4⟩ := ALL.out
          obtain ⟨P1, P2, P3, _⟩ := PU w6 _ _ hown1.out hgrow.out hloc.out
          exact ⟨rfl, w.heap.size, b6, b7, w.heap.size + 1, jv', st2, u40, _, Nat.le_refl _, by omega, by omega, by omega, L4, P1, KA.into P2 G4.foot, G4.trans P3 KA.size⟩

end Go.Proofs.YtlehlgipbhfioaaGreat

namespace Go.Proofs.YtlehlgipbhfioaaGreat
open Go.RowKit Go.Maps

/-- One state is come to from another by steps that can be taken back. -/
inductive Chain (l : List Tm) : Zs → Zs → Prop
  | refl (z : Zs) : Chain l z z
  | like {a b : Zs} (n : Nat) (s : Tm) (bc bx : Nat) (v : Value) : Chain l a b → b.kn s = none → Sk s → Chain l a (likeZ b n s bc bx v)
  | join {a b : Zs} (low high bc bm bo bl : Nat) (jv : Value) (st2 : List (Nat × Obj)) (v bv : Value) : Chain l a b → joins l.length b.g low high = true → low < l.length → UseIs b.st (b.uv low) (b.us low) → Chain l a (joinZ l b low high bc bm bo bl jv st2 v bv)
theorem Chain.trans {l : List Tm} {a b c : Zs} (h : Chain l a b) (k : Chain l b c) : Chain l a c := by
  induction k with
  | refl => exact h
  | like n s bc bx v _ h1 h2 ih => exact .like n s bc bx v ih h1 h2
  | join low high bc bm bo bl jv st2 v bv _ h1 h2 h3 ih => exact .join low high bc bm bo bl jv st2 v bv ih h1 h2 h3

structure Un (w : World) (base : Nat) (l : List Tm) (z : Zs) (P todo : List (Nat × Nat)) (pend : List Nat) : Prop where
  cz : Cz w base l z
  inv : Cc.Inv l P z.g.lo z.us z.kn todo pend
  ms : z.ms + pend.length ≤ l.length + z.t.length * (4 * l.length)
  bs : z.bs.length + pend.length ≤ z.t.length * (4 * l.length + 1)
  td : todo.length + pend.length ≤ 1 + z.t.length * (4 * l.length)
  low : base ≤ w.heap.size

theorem Un.tle {w : World} {base : Nat} {l : List Tm} {z : Zs} {P todo : List (Nat × Nat)} {pend : List Nat} (h : Un w base l z P todo pend) : z.t.length ≤ l.length := h.cz.ok.num_le
theorem Un.bound {w : World} {base : Nat} {l : List Tm} {z : Zs} {P todo : List (Nat × Nat)} {pend : List Nat} (h : Un w base l z P todo pend) : z.t.length * (4 * l.length) ≤ 90000 ∧ z.t.length * (4 * l.length + 1) ≤ 90150 := by
  have h1 := h.tle
  have h2 := h.cz.len
  have h3 : z.t.length * (4 * l.length) ≤ 150 * 600 := Nat.mul_le_mul (by omega) (by omega)
  have h4 : z.t.length * (4 * l.length + 1) ≤ 150 * 601 := Nat.mul_le_mul (by omega) (by omega)
  omega
theorem Un.keep {w w' : World} {base : Nat} {l : List Tm} {z : Zs} {P todo : List (Nat × Nat)} {pend : List Nat} (h : Un w base l z P todo pend) {S : Nat → Prop} (K : Kept S w w') (hS : ∀ k, z.All k → ¬ S k) : Un w' base l z P todo pend :=
  ⟨h.cz.keep K hS, h.inv, h.ms, h.bs, h.td, Nat.le_trans h.low K.size⟩
theorem Un.kept0 {w w' : World} {base : Nat} {l : List Tm} {z : Zs} {P todo : List (Nat × Nat)} {pend : List Nat} (h : Un w base l z P todo pend) (K : Kept0 w w') : Un w' base l z P todo pend := h.keep K (fun _ _ e => e)

/-- How a step changed the state. -/
structure Went (l : List Tm) (w w' : World) (z z' : Zs) : Prop where
  kept : Kept z.Foot w w'
  grows : Grows w z z'
  chain : Chain l z z'
theorem Went.refl (l : List Tm) {w w' : World} (z : Zs) (K : Kept0 w w') : Went l w w' z z := ⟨Kept.mono K (fun _ _ e => e.elim), Grows.refl w z, .refl z⟩
theorem Went.trans {l : List Tm} {w w' w'' : World} {a b c : Zs} (h : Went l w w' a b) (k : Went l w' w'' b c) : Went l w w'' a c :=
  ⟨h.kept.into k.kept h.grows.foot, h.grows.trans k.grows h.kept.size, h.chain.trans k.chain⟩

theorem like_un (w : World) (base : Nat) (l : List Tm) (z : Zs) (P todo : List (Nat × Nat)) (n : Nat) (pend : List Nat) (h : Un w base l z P todo (n :: pend)) :
    Calls Tryz.prog 40 #[.pointer (some ⟨z.pk, 0, none⟩), .int .i64 (n : Int)] w fun e w' => ∃ (m : Nat) (z' : Zs), e = .returned (.int .i64 (m : Int)) ∧ Un w' base l z' P (todo ++ [(n, m)]) pend ∧ Went l w w' z z' ∧ z'.t = z.t ∧ z'.uv = z.uv ∧ z'.us = z.us := by
  have hn : n < l.length := h.inv.pin n (by simp)
  have ht : l[n]? = some l[n] := List.getElem?_eq_getElem hn
  obtain ⟨b1, b2⟩ := h.bound
  have hms := h.ms
  have hbs := h.bs
  have htd := h.td
  have hlen := h.cz.len
  simp only [List.length_cons] at hms hbs htd
  cases hk : z.kn (Cc.sg z.g.lo l[n]) with
  | some m =>
    refine (like_old w base l z h.cz n _ ht m hk h.inv.le).mono ?_
    rintro e w' ⟨rfl, K⟩
    refine ⟨m, z, rfl, ⟨h.cz.kept0 K, h.inv.old h.cz.bd ht hk, by omega, by omega, by simp; omega, Nat.le_trans h.low K.size⟩, Went.refl l z K, rfl, rfl, rfl⟩
  | none =>
    refine (like_new w base l z h.cz n _ ht hk h.inv.le (by omega) (by omega) h.low).mono ?_
    rintro e w' ⟨rfl, bc, bx, v, _, _, C, K, G⟩
    refine ⟨n, _, rfl, ⟨C, h.inv.new h.cz.bd ht hk (fun s => rfl), ?_, ?_, ?_, Nat.le_trans h.low K.size⟩, ⟨K, G, .like _ _ _ _ _ (.refl z) hk (sg_sk h.cz.bd h.inv.le (by omega) ht (h.cz.oks _ (List.mem_of_getElem? ht)))⟩, rfl, rfl, rfl⟩
    · show z.ms + 1 + pend.length ≤ l.length + z.t.length * (4 * l.length)
      omega
    · show (z.bs ++ [_]).length + pend.length ≤ z.t.length * (4 * l.length + 1)
      simp; omega
    · show (todo ++ [(n, n)]).length + pend.length ≤ 1 + z.t.length * (4 * l.length)
      simp; omega

theorem rt_of_lo {n : Nat} {g : Uf.G} {k : Nat} (h : Uf.Ok n g k) {i j : Nat} (hi : i < n) (hj : j < n) (e : g.lo i = g.lo j) : g.rt i = g.rt j := by rw [← h.loin i hi, e, h.loin j hj]
theorem lo_of_rt {g : Uf.G} {i j : Nat} (e : g.rt i = g.rt j) : g.lo i = g.lo j := by simp [Uf.G.lo, e]

/-- The least numbers behind a join. -/
theorem joinG_lo {n : Nat} {g : Uf.G} {k : Nat} (h : Uf.Ok n g k) {low high : Nat} (hl : low < n) (hh : high < n) (el : g.lo low = low) (eh : g.lo high = high) (hlt : low < high) :
    joins n g low high = true ∧ ∀ i, i < n → (joinG n g low high).lo i = if g.lo i = high then low else g.lo i := by
  have hne : g.rt low ≠ g.rt high := fun e => by have := lo_of_rt e; omega
  have hj : joins n g low high = true := by simp [joins, inB_nat hl, inB_nat hh, hne]
  refine ⟨hj, fun i hi => ?_⟩
  have l1 : (g.N (g.rt low)).lst = low := el
  have l2 : (g.N (g.rt high)).lst = high := eh
  rw [joinG, hj, if_pos rfl, Int.toNat_natCast, Int.toNat_natCast]
  have hp : Uf.pick g low high = if (g.N (g.rt high)).siz < (g.N (g.rt low)).siz then (g.rt high, g.rt low) else (g.rt low, g.rt high) := rfl
  rw [hp]
  have c1 : g.rt i = g.rt high ↔ g.lo i = high := ⟨fun e => by rw [lo_of_rt e, eh], fun e => rt_of_lo h hi hh (by rw [e, eh])⟩
  have c2 : g.rt i = g.rt low ↔ g.lo i = low := ⟨fun e => by rw [lo_of_rt e, el], fun e => rt_of_lo h hi hl (by rw [e, el])⟩
  have fin : (if g.lo i = high ∨ g.lo i = low then low else g.lo i) = if g.lo i = high then low else g.lo i := by
    by_cases e : g.lo i = high
    · simp [e]
    · by_cases e2 : g.lo i = low
      · simp [e2]
      · simp [e, e2]
  split
  · rw [Uf.hang_lo _ _ _ _ hne.symm, l1, l2, ← fin]
    simp only [c1, c2]
    rw [Nat.min_eq_left (by omega)]
  · rw [Uf.hang_lo _ _ _ _ hne, l1, l2, ← fin]
    simp only [c1, c2]
    rw [Nat.min_eq_right (by omega)]
    simp only [or_comm]

theorem join_un (w : World) (base : Nat) (l : List Tm) (z : Zs) (P todo : List (Nat × Nat)) (p : Nat × Nat) (h : Un w base l z P (todo ++ [p]) []) (a b low high : Nat) (hp : p = (a, b) ∨ p = (b, a)) (ha : z.g.lo a = low) (hb : z.g.lo b = high) (hlt : low < high) :
    Calls Tryz.prog 39 #[.pointer (some ⟨z.pk, 0, none⟩), .int .i64 (low : Int), .int .i64 (high : Int)] w fun e w' => e = .returned (.tuple #[]) ∧ ∃ z' : Zs, Un w' base l z' P todo (z.us high) ∧ Went l w w' z z' ∧ z'.t.length = z.t.length + 1 ∧ z'.uv high = z.uv high ∧ z'.us high = z.us high := by
  have hin := h.inv.inr p (by simp)
  have hab : a < l.length ∧ b < l.length := by rcases hp with rfl | rfl <;> exact ⟨by first | exact hin.1 | exact hin.2, by first | exact hin.2 | exact hin.1⟩
  have hl : low < l.length := by have := h.inv.le a hab.1; omega
  have hh : high < l.length := by have := h.inv.le b hab.2; omega
  have el : z.g.lo low = low := by rw [← ha]; exact h.inv.idem a hab.1
  have eh : z.g.lo high = high := by rw [← hb]; exact h.inv.idem b hab.2
  obtain ⟨b1, b2⟩ := h.bound
  have hms := h.ms
  have hbs := h.bs
  have htd := h.td
  simp only [List.length_nil, List.length_append, List.length_cons, Nat.add_zero] at hms hbs htd
  have hlen := h.cz.len
  have u1 := h.inv.ulen h.cz.bd hl el
  have u2 := h.inv.ulen h.cz.bd hh eh
  obtain ⟨hj, hlo⟩ := joinG_lo h.cz.ok hl hh el eh hlt
  refine (join_in w base l z h.cz low high hl hh (by omega) (by omega) (by omega) h.low).mono ?_
  rintro e w' ⟨rfl, bc, bm, bo, bl, jv', st2, v', bv', _, _, _, _, _, C, K, G⟩
  have ht : (joinT l.length z.g z.t low high).length = z.t.length + 1 := by rw [joinT, hj]; simp
  refine ⟨rfl, _, ⟨C, h.inv.join h.cz.bd hp ha hb hlt hlo (fun r _ => rfl), ?_, ?_, ?_, Nat.le_trans h.low K.size⟩, ⟨K, G, .join _ _ _ _ _ _ _ _ _ _ (.refl z) hj hl (h.cz.usesAt low hl)⟩, ht, if_neg (by omega), if_neg (by omega)⟩
  · show z.ms + (z.us high).length ≤ l.length + (joinT l.length z.g z.t low high).length * (4 * l.length)
    rw [ht, Nat.add_mul]
    omega
  · show (z.bs ++ [_]).length + (z.us high).length ≤ (joinT l.length z.g z.t low high).length * (4 * l.length + 1)
    rw [ht, Nat.add_mul]
    simp
    omega
  · show todo.length + (z.us high).length ≤ 1 + (joinT l.length z.g z.t low high).length * (4 * l.length)
    rw [ht, Nat.add_mul]
    omega

end Go.Proofs.YtlehlgipbhfioaaGreat

namespace Go.Proofs.YtlehlgipbhfioaaGreat
open Go.RowKit Go.Maps

/-- What reading answers: a value and where it goes on, or an error and its place; the bank's terms behind it. -/
inductive Res (α : Type) where
  | ok (x : α) (i : Nat) (l : List Tm)
  | bad (e p : Nat) (l : List Tm)

def Res.list {α : Type} : Res α → List Tm
  | .ok _ _ l => l
  | .bad _ _ l => l

/-- A term has ended: its name began at p. -/
def pEnd (t : Tm) (p i : Nat) (l : List Tm) : Res Nat := if fitsB l t then .ok (addN l t) i (addL l t) else .bad 5 p l

mutual
def pTerm (s : ByteArray) : Nat → Nat → Nat → List Tm → Res Nat
  | 0, _, _, l => .bad 0 0 l
  | f + 1, above, i, l =>
    if badNm s i then .bad 2 i l
    else if 12 < above then .bad 4 i l
    else if stands s (bl s (nmE s i)) 40 then
      match pArgs s f (above + 1) (behind s (bl s (nmE s i)) 40) l [] with
      | .bad e p l' => .bad e p l'
      | .ok xs k l' => pEnd ⟨s.extract i (nmE s i), xs⟩ i k l'
    else pEnd ⟨s.extract i (nmE s i), []⟩ i (bl s (nmE s i)) l
def pArgs (s : ByteArray) : Nat → Nat → Nat → List Tm → List Nat → Res (List Nat)
  | 0, _, _, l, _ => .bad 0 0 l
  | f + 1, above, i, l, xs =>
    if i = s.size then .bad 2 i l
    else if xs.length = 4 then .bad 3 i l
    else match pTerm s f above i l with
      | .bad e p l' => .bad e p l'
      | .ok n k l' =>
        if stands s k 41 then .ok (xs ++ [n]) (behind s k 41) l'
        else if stands s k 44 then pArgs s f above (behind s k 44) l' (xs ++ [n])
        else .bad 2 k l'
end

theorem addL_prefix (l : List Tm) (t : Tm) : l <+: addL l t := by
  unfold addL
  split
  · exact List.prefix_refl l
  · exact List.prefix_append l [t]
theorem pEnd_prefix (t : Tm) (p i : Nat) (l : List Tm) : l <+: (pEnd t p i l).list := by
  unfold pEnd
  split
  · exact addL_prefix l t
  · exact List.prefix_refl l

theorem behind_le {s : ByteArray} {i c : Nat} (h : i ≤ s.size) : behind s i c ≤ s.size := by
  unfold behind
  split
  · next hs => exact bl_le (of_decide_eq_true hs).1
  · exact h
theorem behind_lt {s : ByteArray} {i c : Nat} (h : stands s i c = true) : i < behind s i c := by
  rw [behind_true h]
  have := bl_ge s (i + 1)
  omega
theorem nm_lt {s : ByteArray} {i : Nat} (h : badNm s i = false) : i < nmE s i := by
  have h1 := nmE_ge s i
  have h2 : nmE s i ≠ i := fun e => by simp [badNm, e] at h
  omega

/-- The list grows at its end alone; the places grow. -/
theorem p_grows (s : ByteArray) : ∀ f : Nat, (∀ above i l, i ≤ s.size → l <+: (pTerm s f above i l).list ∧ ∀ n k l', pTerm s f above i l = .ok n k l' → i < k ∧ k ≤ s.size) ∧
    (∀ above i l xs, i ≤ s.size → l <+: (pArgs s f above i l xs).list ∧ ∀ x k l', pArgs s f above i l xs = .ok x k l' → i < k ∧ k ≤ s.size)
  | 0 => ⟨fun _ _ l _ => ⟨by rw [pTerm]; exact List.prefix_refl l, fun _ _ _ e => by rw [pTerm] at e; cases e⟩, fun _ _ l _ _ => ⟨by rw [pArgs]; exact List.prefix_refl l, fun _ _ _ e => by rw [pArgs] at e; cases e⟩⟩
  | f + 1 => by
    obtain ⟨IT, IA⟩ := p_grows s f
    constructor
    · intro above i l hi
      rw [pTerm]
      split
      · exact ⟨List.prefix_refl l, fun _ _ _ e => by cases e⟩
      · next hb =>
        have hb' : badNm s i = false := by simpa using hb
        have h1 := nm_lt hb'
        have h2 := nmE_le hi
        have h3 := bl_ge s (nmE s i)
        have h4 := bl_le h2
        split
        · exact ⟨List.prefix_refl l, fun _ _ _ e => by cases e⟩
        · split
          · next hs =>
            have h5 := behind_lt hs
            have h6 := behind_le (c := 40) h4
            obtain ⟨A1, A2⟩ := IA (above + 1) (behind s (bl s (nmE s i)) 40) l [] h6
            split
            · next e p l' hx => rw [hx] at A1; exact ⟨A1, fun _ _ _ e => by cases e⟩
            · next xs k l' hx =>
              rw [hx] at A1
              obtain ⟨B1, B2⟩ := A2 xs k l' hx
              refine ⟨A1.trans (pEnd_prefix _ _ _ _), fun n k' l2 e => ?_⟩
              unfold pEnd at e
              split at e
              · injection e with e1 e2 e3; omega
              · cases e
          · refine ⟨pEnd_prefix _ _ _ _, fun n k' l2 e => ?_⟩
            unfold pEnd at e
            split at e
            · injection e with e1 e2 e3; omega
            · cases e
    · intro above i l xs hi
      rw [pArgs]
      split
      · exact ⟨List.prefix_refl l, fun _ _ _ e => by cases e⟩
      · split
        · exact ⟨List.prefix_refl l, fun _ _ _ e => by cases e⟩
        · obtain ⟨A1, A2⟩ := IT above i l hi
          split
          · next e p l' hx => rw [hx] at A1; exact ⟨A1, fun _ _ _ e => by cases e⟩
          · next n k l' hx =>
            rw [hx] at A1
            obtain ⟨B1, B2⟩ := A2 n k l' hx
            split
            · next hs =>
              have h5 := behind_lt hs
              have h6 := behind_le (c := 41) B2
              refine ⟨A1, fun x k' l2 e => ?_⟩
              injection e with e1 e2 e3
              omega
            · split
              · next hs =>
                have h5 := behind_lt hs
                obtain ⟨C1, C2⟩ := IA above (behind s k 44) l' (xs ++ [n]) (behind_le B2)
                refine ⟨A1.trans C1, fun x k' l2 e => ?_⟩
                obtain ⟨D1, D2⟩ := C2 x k' l2 e
                omega
              · exact ⟨A1, fun _ _ _ e => by cases e⟩

end Go.Proofs.YtlehlgipbhfioaaGreat

namespace Go.Proofs.YtlehlgipbhfioaaGreat
open Go.RowKit Go.Maps

theorem nix_lt {l : List Tm} {t : Tm} {i : Nat} (h : nix l t = some i) : i < l.length := (List.findIdx?_eq_some_iff_getElem.1 h).1
theorem addN_lt (l : List Tm) (t : Tm) : addN l t < (addL l t).length := by
  unfold addN addL
  cases hi : nix l t with
  | some i => simpa using nix_lt hi
  | none => simp
theorem addL_len (l : List Tm) (t : Tm) : (addL l t).length ≤ l.length + 1 := by
  unfold addL
  split <;> simp
theorem addL_ge (l : List Tm) (t : Tm) : l.length ≤ (addL l t).length := (addL_prefix l t).length_le

/-- A term adds no more terms than it has bytes. -/
theorem p_count (s : ByteArray) : ∀ f : Nat,
    (∀ above i l n k l', i ≤ s.size → pTerm s f above i l = .ok n k l' → l'.length + i ≤ l.length + k ∧ n < l'.length) ∧
    (∀ above i l xs x k l', i ≤ s.size → xs.length ≤ 4 → (∀ a ∈ xs, a < l.length) → pArgs s f above i l xs = .ok x k l' → l'.length + i ≤ l.length + k ∧ x.length ≤ 4 ∧ ∀ a ∈ x, a < l'.length)
  | 0 => ⟨fun _ _ _ _ _ _ _ e => (by rw [pTerm] at e; cases e), fun _ _ _ _ _ _ _ _ _ _ e => (by rw [pArgs] at e; cases e)⟩
  | f + 1 => by
    obtain ⟨IT, IA⟩ := p_count s f
    obtain ⟨GT, GA⟩ := p_grows s f
    constructor
    · intro above i l n k l' hi e
      rw [pTerm] at e
      split at e
      · cases e
      · next hb =>
        have hb' : badNm s i = false := by simpa using hb
        have h1 := nm_lt hb'
        have h2 := nmE_le hi
        have h3 := bl_ge s (nmE s i)
        have h4 := bl_le h2
        split at e
        · cases e
        · split at e
          · next hs =>
            have h5 := behind_lt hs
            have h6 := behind_le (c := 40) h4
            split at e
            · cases e
            · next xs k2 l2 hx =>
              obtain ⟨A1, A2, A3⟩ := IA _ _ _ _ _ _ _ h6 (by simp) (by simp) hx
              unfold pEnd at e
              split at e
              · injection e with e1 e2 e3
                subst e1 e2 e3
                have := addL_len l2 ⟨s.extract i (nmE s i), xs⟩
                exact ⟨by omega, addN_lt _ _⟩
              · cases e
          · unfold pEnd at e
            split at e
            · injection e with e1 e2 e3
              subst e1 e2 e3
              have := addL_len l ⟨s.extract i (nmE s i), []⟩
              exact ⟨by omega, addN_lt _ _⟩
            · cases e
    · intro above i l xs x k l' hi hx4 hxs e
      rw [pArgs] at e
      split at e
      · cases e
      · split at e
        · cases e
        · next hn4 =>
          split at e
          · cases e
          · next n k2 l2 hx =>
            obtain ⟨A1, A2⟩ := IT _ _ _ _ _ _ hi hx
            obtain ⟨B0, B1⟩ := GT above i l hi
            obtain ⟨B2, B3⟩ := B1 n k2 l2 hx
            rw [hx] at B0
            have B4 : l.length ≤ l2.length := B0.length_le
            have hxs2 : ∀ a ∈ xs ++ [n], a < l2.length := by
              intro a ha
              rcases List.mem_append.1 ha with ha | ha
              · exact Nat.lt_of_lt_of_le (hxs a ha) B4
              · rw [List.mem_singleton.1 ha]; exact A2
            have hl4 : (xs ++ [n]).length ≤ 4 := by simp; omega
            split at e
            · next hs =>
              have h5 := behind_lt hs
              injection e with e1 e2 e3
              subst e1 e2 e3
              exact ⟨by omega, hl4, hxs2⟩
            · split at e
              · next hs =>
                have h5 := behind_lt hs
                obtain ⟨C1, C2, C3⟩ := IA _ _ _ _ _ _ _ (behind_le B3) hl4 hxs2 e
                exact ⟨by omega, C2, C3⟩
              · cases e

/-- What may change: what is told, and the bank. -/
def RFoot (X : Nat → Prop) (p : Nat) (ev : Value) (nb fb k : Nat) : Prop := X k ∨ BFoot p ev nb fb k

/-- A reader at r over the bank at p. -/
structure RB (w : World) (base r p : Nat) (ev : Value) (nb fb : Nat) (s : ByteArray) (i : Nat) (l : List Tm) : Prop where
  rd : Rd w r (.pointer (some ⟨p, 0, none⟩)) s i
  bk : Bk w base p ev nb fb l
  rp : r ≠ p
  rn : r ≠ nb
  rf : r ≠ fb
  er : ev.ownBlock ≠ some r
  bs : base ≤ w.heap.size

/-- From (w, ev) to (w', ev'): what was there and is not of X or the bank's has stayed; the row stayed or is new. -/
structure Grew (X : Nat → Prop) (p nb fb : Nat) (w : World) (ev : Value) (w' : World) (ev' : Value) : Prop where
  kept : Kept (RFoot X p ev nb fb) w w'
  row : ev'.ownBlock = ev.ownBlock ∨ ∀ k, ev'.ownBlock = some k → w.heap.size ≤ k

theorem Grew.refl (X : Nat → Prop) (p nb fb : Nat) (w : World) (ev : Value) : Grew X p nb fb w ev w ev := ⟨Kept.refl _ w, Or.inl rfl⟩
theorem Grew.mono {X Y : Nat → Prop} {p nb fb : Nat} {a b : World} {ea eb : Value} (h : Grew X p nb fb a ea b eb) (hXY : ∀ k, k < a.heap.size → X k → Y k) : Grew Y p nb fb a ea b eb :=
  ⟨Kept.mono h.kept (fun k hk e => e.elim (fun x => Or.inl (hXY k hk x)) Or.inr), h.row⟩
theorem Grew.trans {X : Nat → Prop} {p nb fb : Nat} {a b c : World} {ea eb ec : Value} (h : Grew X p nb fb a ea b eb) (k : Grew X p nb fb b eb c ec) : Grew X p nb fb a ea c ec := by
  refine ⟨⟨k.kept.os.trans h.kept.os, k.kept.tape.trans h.kept.tape, k.kept.output.trans h.kept.output, Nat.le_trans h.kept.size k.kept.size, ?_⟩, ?_⟩
  · intro x hx hs
    rw [k.kept.block x (Nat.lt_of_lt_of_le hx h.kept.size) ?_]
    · exact h.kept.block x hx hs
    · intro hr
      apply hs
      rcases hr with e | e | e | e | e
      · exact Or.inl e
      · exact Or.inr (Or.inl e)
      · exact Or.inr (Or.inr (Or.inl e))
      · exact Or.inr (Or.inr (Or.inr (Or.inl e)))
      · rcases h.row with e2 | e2
        · exact Or.inr (Or.inr (Or.inr (Or.inr (e2 ▸ e))))
        · have := e2 x e; omega
  · rcases k.row with e | e
    · rcases h.row with e2 | e2
      · exact Or.inl (e.trans e2)
      · exact Or.inr fun x hx => e2 x (e ▸ hx)
    · exact Or.inr fun x hx => Nat.le_trans h.kept.size (e x hx)
theorem Grew.setCell {X : Nat → Prop} {p nb fb : Nat} {a b : World} {ea eb : Value} (h : Grew X p nb fb a ea b eb) {x o : Nat} (hx : X x) (u : Value) : Grew X p nb fb a ea (b.setCell ⟨x, o, none⟩ u) eb :=
  ⟨Kept.setCell (p := ⟨x, o, none⟩) h.kept (Or.inl hx) u, h.row⟩
theorem Grew.drewN {X : Nat → Prop} {p nb fb : Nat} {a b : World} {ea eb : Value} (h : Grew X p nb fb a ea b eb) (m : Nat) : Grew X p nb fb a ea (b.drewN m) eb := ⟨Kept.drewN h.kept m, h.row⟩

/-- The reader alone has gone on. -/
theorem RB.read {w w' : World} {base r p : Nat} {ev : Value} {nb fb : Nat} {s : ByteArray} {i k : Nat} {l : List Tm} (h : RB w base r p ev nb fb s i l) (K : Kept1 r w w') (hR : Rd w' r (.pointer (some ⟨p, 0, none⟩)) s k) :
    RB w' base r p ev nb fb s k l ∧ Grew (fun k => k = r) p nb fb w ev w' ev :=
  ⟨⟨hR, h.bk.kept1 K (Ne.symm h.rp) (Ne.symm h.rn) (Ne.symm h.rf) h.er, h.rp, h.rn, h.rf, h.er, Nat.le_trans h.bs K.size⟩, ⟨Kept.mono K (fun _ _ e => Or.inl e), Or.inl rfl⟩⟩

theorem Rd.of_block {w w' : World} {r : Nat} {bp : Value} {s : ByteArray} {i : Nat} (h : Rd w r bp s i) (hb : w'.heap[r]? = w.heap[r]?) : Rd w' r bp s i := ⟨h.row.of_block hb, h.le, h.small⟩

/-- The bank alone has changed. -/
theorem RB.banked {w w' : World} {base r p : Nat} {ev ev' : Value} {nb fb : Nat} {s : ByteArray} {i : Nat} {l l' : List Tm} (h : RB w base r p ev nb fb s i l) (K : Kept (BFoot p ev nb fb) w w') (hB : Bk w' base p ev' nb fb l') (hr : ev'.ownBlock = ev.ownBlock ∨ ∀ k, ev'.ownBlock = some k → w.heap.size ≤ k) :
    RB w' base r p ev' nb fb s i l' ∧ Grew (fun k => k = r) p nb fb w ev w' ev' := by
  have hrl := h.rd.row.lt
  refine ⟨⟨h.rd.of_block (K.block r hrl ?_), hB, h.rp, h.rn, h.rf, ?_, Nat.le_trans h.bs K.size⟩, ⟨Kept.mono K (fun _ _ e => Or.inr e), hr⟩⟩
  · rintro (e | e | e | e)
    · exact h.rp e
    · exact h.rn e
    · exact h.rf e
    · exact h.er e
  · rcases hr with e | e
    · rw [e]; exact h.er
    · intro e2
      have := e r e2
      omega

theorem RB.kept0 {w w' : World} {base r p : Nat} {ev : Value} {nb fb : Nat} {s : ByteArray} {i : Nat} {l : List Tm} (h : RB w base r p ev nb fb s i l) (K : Kept0 w w') : RB w' base r p ev nb fb s i l ∧ Grew (fun k => k = r) p nb fb w ev w' ev :=
  h.banked (Kept.mono K (fun _ _ e => e.elim)) (h.bk.kept0 K) (Or.inl rfl)
theorem RB.drewN {w : World} {base r p : Nat} {ev : Value} {nb fb : Nat} {s : ByteArray} {i : Nat} {l : List Tm} (h : RB w base r p ev nb fb s i l) (m : Nat) : RB (w.drewN m) base r p ev nb fb s i l :=
  ⟨h.rd.drewN m, h.bk.drewN m, h.rp, h.rn, h.rf, h.er, h.bs⟩

/-- And an entry that is being read, at x. -/
structure RX (w : World) (base r p : Nat) (ev : Value) (nb fb : Nat) (s : ByteArray) (i : Nat) (l : List Tm) (x : Nat) (t : Tm) : Prop where
  rb : RB w base r p ev nb fb s i l
  box : Boxed w x t
  xr : x ≠ r
  xp : x ≠ p
  xn : x ≠ nb
  xf : x ≠ fb
  ex : ev.ownBlock ≠ some x

theorem RX.drewN {w : World} {base r p : Nat} {ev : Value} {nb fb : Nat} {s : ByteArray} {i : Nat} {l : List Tm} {x : Nat} {t : Tm} (h : RX w base r p ev nb fb s i l x t) (m : Nat) : RX (w.drewN m) base r p ev nb fb s i l x t :=
  ⟨h.rb.drewN m, World.rowIs.of_block h.box rfl, h.xr, h.xp, h.xn, h.xf, h.ex⟩
theorem RX.grew {w w' : World} {base r p : Nat} {ev ev' : Value} {nb fb : Nat} {s : ByteArray} {i k : Nat} {l l' : List Tm} {x : Nat} {t : Tm} (h : RX w base r p ev nb fb s i l x t) (G : Grew (fun k => k = r) p nb fb w ev w' ev') (R : RB w' base r p ev' nb fb s k l') : RX w' base r p ev' nb fb s k l' x t := by
  have hlt := World.rowIs.lt h.box
  refine ⟨R, World.rowIs.of_block h.box (G.kept.block x hlt ?_), h.xr, h.xp, h.xn, h.xf, ?_⟩
  · rintro (e | e | e | e | e)
    · exact h.xr e
    · exact h.xp e
    · exact h.xn e
    · exact h.xf e
    · exact h.ex e
  · rcases G.row with e | e
    · rw [e]; exact h.ex
    · intro e2
      have := e x e2
      omega

theorem RB.setOther {w : World} {base r p : Nat} {ev : Value} {nb fb : Nat} {s : ByteArray} {i : Nat} {l : List Tm} (h : RB w base r p ev nb fb s i l) {x : Nat} (xr : x ≠ r) (xp : x ≠ p) (xn : x ≠ nb) (xf : x ≠ fb) (ex : ev.ownBlock ≠ some x) (o : Nat) (u : Value) : RB (w.setCell ⟨x, o, none⟩ u) base r p ev nb fb s i l := by
  have K : Kept1 x w (w.setCell ⟨x, o, none⟩ u) := Kept1.set (Kept.refl _ w) o u
  exact ⟨h.rd.of_block (K.block r h.rd.row.lt (fun e => xr e.symm)), h.bk.kept1 K (Ne.symm xp) (Ne.symm xn) (Ne.symm xf) ex, h.rp, h.rn, h.rf, h.er, Nat.le_trans h.bs K.size⟩

/-- The entry has one more arg. -/
theorem RX.push {w : World} {base r p : Nat} {ev : Value} {nb fb : Nat} {s : ByteArray} {i : Nat} {l : List Tm} {x : Nat} {nm : ByteArray} {xs : List Nat} (h : RX w base r p ev nb fb s i l x ⟨nm, xs⟩) (h4 : xs.length < 4) (n : Nat) :
    RX ((w.setCell ⟨x, 2 + xs.length, none⟩ (.int .i64 (n : Int))).setCell ⟨x, 1, none⟩ (.int .i64 ((xs.length : Int) + 1))) base r p ev nb fb s i l x ⟨nm, xs ++ [n]⟩ := by
  refine ⟨(h.rb.setOther h.xr h.xp h.xn h.xf h.ex _ _).setOther h.xr h.xp h.xn h.xf h.ex _ _, ?_, h.xr, h.xp, h.xn, h.xf, h.ex⟩
  refine World.rowIs.congr (World.rowIs.set (World.rowIs.set h.box (2 + xs.length) (.int .i64 (n : Int))) 1 (.int .i64 ((xs.length : Int) + 1))) ?_
  intro j hj
  match xs, h4 with
  | [], _ => rcases (by omega : j = 0 ∨ j = 1 ∨ j = 2 ∨ j = 3 ∨ j = 4 ∨ j = 5) with rfl | rfl | rfl | rfl | rfl | rfl <;> rfl
  | [a], _ => rcases (by omega : j = 0 ∨ j = 1 ∨ j = 2 ∨ j = 3 ∨ j = 4 ∨ j = 5) with rfl | rfl | rfl | rfl | rfl | rfl <;> rfl
  | [a, b], _ => rcases (by omega : j = 0 ∨ j = 1 ∨ j = 2 ∨ j = 3 ∨ j = 4 ∨ j = 5) with rfl | rfl | rfl | rfl | rfl | rfl <;> rfl
  | [a, b, c], _ => rcases (by omega : j = 0 ∨ j = 1 ∨ j = 2 ∨ j = 3 ∨ j = 4 ∨ j = 5) with rfl | rfl | rfl | rfl | rfl | rfl <;> rfl
  | _ :: _ :: _ :: _ :: _, h4 => simp at h4; omega

end Go.Proofs.YtlehlgipbhfioaaGreat
