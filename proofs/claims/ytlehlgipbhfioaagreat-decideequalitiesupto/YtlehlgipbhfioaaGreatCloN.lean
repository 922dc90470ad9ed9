/- Package close: Merge. -/
import Derived.Test.YtlehlgipbhfioaaGreatP21
namespace Go.Proofs.YtlehlgipbhfioaaGreat
open Go.RowKit Go.Maps

set_option maxHeartbeats 1000000 in
theorem kMerge_no (w : World) (base : Nat) (l : List Tm) (c : Ks) (P : List (Nat × Nat)) (h : Cl w base l c P) (a b : Int) (hno : (inB l.length a && inB l.length b) = false) :
    Calls Tryz.prog 7 #[.pointer (some ⟨c.pc, 0, none⟩), .int .i64 a, .int .i64 b] w fun e w' => e = .returned (.int .i64 7) ∧ w = w' := by
  have HA := khas_in w base l c P h a
  have HB := khas_in w base l c P h b
  clear h
  cases ha : inB l.length a
  · rw [ha] at HA
    clear HB hno
    go_enter Tryz.func7, Tryz.ntmps7
    go_wp2_with (go_at_call 18; refine HA.mono ?_; rintro e w' ⟨rfl, rfl⟩)
    go_ret
    exact ⟨rfl, rfl⟩
  · have hb : inB l.length b = false := by simpa [ha] using hno
    rw [ha] at HA
    rw [hb] at HB
    clear hno
    go_enter Tryz.func7, Tryz.ntmps7
    go_wp2_with fail
    refine HA.mono ?_
    rintro e w' ⟨rfl, rfl⟩
    go_wp2_with fail
    refine HB.mono ?_
    rintro e w' ⟨rfl, rfl⟩
    go_wp2
    go_ret
    exact ⟨rfl, rfl⟩

/-- A pair is noted. -/
theorem Cl.noted {w wa w1 : World} {base : Nat} {l : List Tm} {c : Ks} {P : List (Nat × Nat)} (h : Cl w base l c P) (K0 : Kept0 w wa) (v' : Value) (hown : w1.ownsRow base 3 1 v' (c.told.length + 1) (natC c.told ++ [.int .i64 (c.z.bs.length : Int)])) (hgrow : wa.grownBy w1 c.tv.ownBlock)
    (hloc : v'.ownBlock = c.tv.ownBlock ∨ ∀ k, v'.ownBlock = some k → wa.heap.size ≤ k) :
    w1.cell? ⟨c.pc, 1, none⟩ = some c.tv ∧ w1.frozen? ⟨c.pc, 1, none⟩ = false ∧ w1.cell? ⟨c.pc, 0, none⟩ = some (.pointer (some ⟨c.z.pk, 0, none⟩)) ∧ Kept (fun k => c.tv.ownBlock = some k) w w1 ∧
    (w1.setCell ⟨c.pc, 1, none⟩ v').rowIs c.pc 62 2 (cloC c.z.pk v') ∧ (w1.setCell ⟨c.pc, 1, none⟩ v').ownsRow base 3 1 v' (c.told ++ [c.z.bs.length]).length (natC (c.told ++ [c.z.bs.length])) ∧ Un (w1.setCell ⟨c.pc, 1, none⟩ v') base l c.z P [] [] ∧ Kept c.Foot w (w1.setCell ⟨c.pc, 1, none⟩ v') ∧ (∀ k, v'.ownBlock = some k → ¬ c.z.All k) ∧ (∀ k, v'.ownBlock = some k → c.tv.ownBlock = some k ∨ w.heap.size ≤ k) := by
  have K1 : Kept (fun k => c.tv.ownBlock = some k) w w1 := Kept.grown (Kept.mono K0 (fun _ _ e => e.elim)) hgrow (fun _ e => e)
  have K2 : Kept (fun k => k = c.pc ∨ c.tv.ownBlock = some k) w (w1.setCell ⟨c.pc, 1, none⟩ v') := Kept.setCell (p := ⟨c.pc, 1, none⟩) (Kept.mono K1 (fun _ _ e => .inr e)) (.inl rfl) _
  have hp0 := rowIs_type h.clo (by decide) h.told
  have hp : w1.rowIs c.pc 62 2 (cloC c.z.pk c.tv) := h.clo.of_block (K1.block _ h.clo.lt hp0)
  have np := rowIs_type hp (by decide) hown
  have hnew : ∀ k, v'.ownBlock = some k → c.tv.ownBlock = some k ∨ w.heap.size ≤ k := fun k hk => by
    rcases hloc with e | e
    · exact .inl (e ▸ hk)
    · exact .inr (Nat.le_trans K0.size (e k hk))
  refine ⟨hp.cell (i := 1) (by omega), hp.frozen 1, hp.cell (i := 0) (by omega), K1, (hp.set 1 v').congr (fun i hi => ?_), ?_, h.un.keep K2 ?_, Kept.mono K2 ?_, fun k hk hA => ?_, hnew⟩
  · rcases (by omega : i = 0 ∨ i = 1) with rfl | rfl <;> simp [cloC]
  · rw [List.length_append, ← natC_app]
    exact ownsRow_setCell_other hown np _
  · rintro k hk (e | e)
    · exact h.farP (e ▸ hk)
    · exact h.farT k e hk
  · rintro k _ (e | e)
    · exact .inl e
    · exact .inr (.inl e)
  · rcases hnew k hk with e | e
    · exact h.farT k e hA
    · have := h.un.cz.all_lt hA; omega

/-- .. and all that follows is the same then. -/
theorem Cl.merged {w w2 w3 : World} {base : Nat} {l : List Tm} {c : Ks} {P : List (Nat × Nat)} (h : Cl w base l c P) {v' : Value} {a b : Nat} (R2 : w2.rowIs c.pc 62 2 (cloC c.z.pk v')) (O2 : w2.ownsRow base 3 1 v' (c.told ++ [c.z.bs.length]).length (natC (c.told ++ [c.z.bs.length]))) (K2 : Kept c.Foot w w2)
    (F2 : ∀ k, v'.ownBlock = some k → ¬ c.z.All k) (N2 : ∀ k, v'.ownBlock = some k → c.tv.ownBlock = some k ∨ w.heap.size ≤ k) {z' : Zs} (U3 : Un w3 base l z' (P ++ [(a, b)]) [] []) (G3 : Went l w2 w3 c.z z') :
    ∃ c' : Ks, Cl w3 base l c' (P ++ [(a, b)]) ∧ Kept c.Foot w w3 ∧ c'.pc = c.pc ∧ (∀ k, c'.All k → c.All k ∨ w.heap.size ≤ k) ∧ Chain l c.z c'.z ∧ c'.told = c.told ++ [c.z.bs.length] := by
  have hpc : ¬ c.z.Foot c.pc := fun e => h.farP (.inl e)
  refine ⟨⟨c.pc, v', c.told ++ [c.z.bs.length], z'⟩, ⟨?_, ownsRow_blockC O2 (fun k hk => G3.kept.block k (O2.lt k hk).2 (fun e => F2 k hk (.inl e))), U3, fun hA => ?_, fun k hk hA => ?_, h.bp, by simp [h.num]⟩, K2.trans (Kept.mono G3.kept (fun k _ e => .inr (.inr e))), rfl, fun k hk => ?_, G3.chain, rfl⟩
  · have := R2.of_block (G3.kept.block _ R2.lt hpc)
    show w3.rowIs c.pc 62 2 (cloC z'.pk v')
    rw [G3.grows.pk]
    exact this
  · rcases G3.grows.all hA with e | e
    · exact h.farP e
    · have h1 := R2.lt
      have e' : w2.heap.size ≤ c.pc := e
      omega
  · rcases G3.grows.all hA with e | e
    · exact F2 k hk e
    · have := (O2.lt k hk).2; omega
  · rcases hk with e | e | e
    · exact .inl (.inl e)
    · exact (N2 k e).imp (fun x => .inr (.inl x)) id
    · rcases G3.grows.all e with e | e
      · exact .inl (.inr (.inr e))
      · exact .inr (Nat.le_trans K2.size e)

set_option maxHeartbeats 4000000 in
set_option maxRecDepth 100000 in
theorem kMerge_yes (w : World) (base : Nat) (l : List Tm) (c : Ks) (P : List (Nat × Nat)) (h : Cl w base l c P) (a b : Nat) (ha : a < l.length) (hb : b < l.length) (hn : (P.length + 1) * 8 ≤ 140737488355328) :
    Calls Tryz.prog 7 #[.pointer (some ⟨c.pc, 0, none⟩), .int .i64 (a : Int), .int .i64 (b : Int)] w fun e w' => e = .returned (.int .i64 0) ∧ ∃ c' : Ks, Cl w' base l c' (P ++ [(a, b)]) ∧ Kept c.Foot w w' ∧ c'.pc = c.pc ∧ (∀ k, c'.All k → c.All k ∨ w.heap.size ≤ k) ∧ Chain l c.z c'.z ∧ c'.told = c.told ++ [c.z.bs.length] := by
  have HA := khas_in w base l c P h a
  have HB := khas_in w base l c P h b
  rw [inB_nat ha] at HA
  rw [inB_nat hb] at HB
  obtain ⟨ta, tc, htv⟩ := row_form' h.told
  obtain ⟨ba, bc, hbv⟩ := row_form' h.un.cz.back
  have hbs : c.z.bs.length ≤ 90150 := by have h1 := h.un.bs; have := h.un.bound.2; simp only [List.length_nil] at h1; omega
  have htl : c.told.length = P.length := h.num
  have c0 := h.c0
  have c1 := h.c1
  have k4 := h.un.cz.k4
  rw [htv] at c1
  rw [hbv] at k4
  have A0 : ∀ O, (w.alloc O).cell? ⟨c.pc, 0, none⟩ = some (.pointer (some ⟨c.z.pk, 0, none⟩)) := fun O => (h.kept0 ((Kept.refl _ w).alloc O)).c0
  have A1 : ∀ O, (w.alloc O).cell? ⟨c.pc, 1, none⟩ = some (.slice ta c.told.length tc) := fun O => by rw [← htv]; exact (h.kept0 ((Kept.refl _ w).alloc O)).c1
  have A4 : ∀ O, (w.alloc O).cell? ⟨c.z.pk, 4, none⟩ = some (.slice ba c.z.bs.length bc) := fun O => by rw [← hbv]; exact (h.kept0 ((Kept.refl _ w).alloc O)).un.cz.k4
  have OWN : ∀ O, (w.alloc O).drew.ownsRow base 3 1 (.slice ta c.told.length tc) c.told.length (natC c.told) := fun O => by rw [← htv]; exact World.ownsRow.alloc h.told O
  have NEW := one_newD w 0 (.int .i64 (c.z.bs.length : Int)) 3
  have NOTE : ∀ w1 O v', w1.ownsRow base 3 1 v' (c.told.length + 1) (natC c.told ++ [.int .i64 (c.z.bs.length : Int)]) → (w.alloc O).drew.grownBy w1 (Value.slice ta c.told.length tc).ownBlock → (v'.ownBlock = (Value.slice ta c.told.length tc).ownBlock ∨ ∀ k, v'.ownBlock = some k → (w.alloc O).drew.heap.size ≤ k) → _ := fun w1 O v' h1 h2 h3 => h.noted (w1 := w1) (((Kept.refl _ w).alloc O).drew) v' h1 (by rw [← htv] at h2; exact h2) (by rw [← htv] at h3; exact h3)
  have CEL : ∀ w1 O v', w1.ownsRow base 3 1 v' (c.told.length + 1) (natC c.told ++ [.int .i64 (c.z.bs.length : Int)]) → (w.alloc O).drew.grownBy w1 (Value.slice ta c.told.length tc).ownBlock → (v'.ownBlock = (Value.slice ta c.told.length tc).ownBlock ∨ ∀ k, v'.ownBlock = some k → (w.alloc O).drew.heap.size ≤ k) →
      w1.cell? ⟨c.pc, 1, none⟩ = some (.slice ta c.told.length tc) ∧ w1.frozen? ⟨c.pc, 1, none⟩ = false ∧ w1.cell? ⟨c.pc, 0, none⟩ = some (.pointer (some ⟨c.z.pk, 0, none⟩)) := fun w1 O v' h1 h2 h3 => by
    obtain ⟨q1, q2, q3, _⟩ := NOTE w1 O v' h1 h2 h3
    exact ⟨by rw [← htv]; exact q1, q2, q3⟩
  have hbase := h.un.low
  obtain ⟨i0, hi0, hz0, hz1, hz2⟩ := info_parts infoIntK
  have HH : Hid (_ ∧ _ ∧ _) := ⟨h, NOTE, htl⟩
  rw [← htl] at hn
  clear h NOTE htv hbv htl
  go_enter Tryz.func7, Tryz.ntmps7
  go_wp2_with fail
  refine HA.mono ?_
  rintro e w' ⟨rfl, rfl⟩
  go_wp2_with fail
  refine HB.mono ?_
  rintro e w' ⟨rfl, rfl⟩
  clear HA HB
  go_wp2_with fail
  go_region_law (refine step_append_here rfl (.tmp 21) (.tmp 30) 39 rfl base 3 i0 _ 1 8 Tryz.underlying39 hi0 hz0 hz1 hz2 rfl (by decide) _ c.told.length (natC c.told) (by simp [Act.eval]; rfl) (by exact OWN _) ⟨w.heap.size, 0, none⟩ 1 1 [.int .i64 (c.z.bs.length : Int)] (by simp [Act.eval]) rfl (by exact NEW) (by simp [Value.oneCell']) (by unfold maxLen; omega) (by omega) (by simp; omega) ?_; intro v' w1 hown1 hgrow hloc; obtain ⟨kp1, kf1, kc1⟩ := CEL w1 _ v' hown1 hgrow hloc; obtain ⟨b1, cap1, hv1⟩ := ownsRow_succ hown1; subst hv1; replace hown1 : Hid _ := hown1; replace hgrow : Hid _ := hgrow; replace hloc : Hid _ := hloc)
  all_goals
    obtain ⟨h, NOTE, _⟩ := HH.out
    obtain ⟨_, _, _, _, R2, O2, U2, K2, F2, N2⟩ := NOTE w1 _ _ hown1.out hgrow.out hloc.out
    have U2' : Un (w1.setCell ⟨c.pc, 1, none⟩ (.slice (some ⟨b1, 0, none⟩) (c.told.length + 1) cap1)) base l c.z (P ++ [(a, b)]) [(a, b)] [] := ⟨U2.cz, U2.inv.tell ha hb, U2.ms, U2.bs, by simp, U2.low⟩
    have UN := unite_in _ base l c.z (P ++ [(a, b)]) a b U2'
    have d0 : (w1.setCell ⟨c.pc, 1, none⟩ (.slice (some ⟨b1, 0, none⟩) (c.told.length + 1) cap1)).cell? ⟨c.pc, 0, none⟩ = some (.pointer (some ⟨c.z.pk, 0, none⟩)) := R2.cell (i := 0) (by omega)
    have ALL : Hid (_ ∧ _ ∧ _ ∧ _ ∧ _ ∧ _) := ⟨h, R2, O2, K2, F2, N2⟩
    clear kp1 kf1 kc1 A0 A1 A4 OWN NEW CEL HH hown1 hgrow hloc c0 c1 k4 h NOTE R2 O2 U2 K2 F2 N2 U2'
    generalize w1.setCell ⟨c.pc, 1, none⟩ (.slice (some ⟨b1, 0, none⟩) (c.told.length + 1) cap1) = w2 at *
    go_wp2_with (go_at_call 19; refine UN.mono ?_; rintro e w3 ⟨rfl, z', U3, G3⟩)
    go_ret
    obtain ⟨h, R2, O2, K2, F2, N2⟩ := ALL.out
    exact ⟨rfl, h.merged R2 O2 K2 F2 N2 U3 G3⟩

/-- What Merge does to the pairs. -/
def mergeP (l : List Tm) (P : List (Nat × Nat)) (a b : Int) : List (Nat × Nat) := if inB l.length a && inB l.length b then P ++ [(a.toNat, b.toNat)] else P
def mergeE (l : List Tm) (a b : Int) : Int := if inB l.length a && inB l.length b then 0 else 7

theorem kMerge_in (w : World) (base : Nat) (l : List Tm) (c : Ks) (P : List (Nat × Nat)) (h : Cl w base l c P) (a b : Int) (hn : (P.length + 1) * 8 ≤ 140737488355328) :
    Calls Tryz.prog 7 #[.pointer (some ⟨c.pc, 0, none⟩), .int .i64 a, .int .i64 b] w fun e w' => e = .returned (.int .i64 (mergeE l a b)) ∧ ∃ c' : Ks, Cl w' base l c' (mergeP l P a b) ∧ Kept c.Foot w w' ∧ c'.pc = c.pc ∧ (∀ k, c'.All k → c.All k ∨ w.heap.size ≤ k) := by
  cases hi : inB l.length a && inB l.length b
  · refine (kMerge_no w base l c P h a b hi).mono ?_
    rintro e w' ⟨rfl, rfl⟩
    refine ⟨by simp [mergeE, hi], c, ?_, Kept.refl _ _, rfl, fun k hk => .inl hk⟩
    rw [mergeP, hi, if_neg (by decide)]
    exact h
  · rw [Bool.and_eq_true] at hi
    obtain ⟨a1, a2⟩ := inB_true hi.1
    obtain ⟨b1, b2⟩ := inB_true hi.2
    obtain ⟨x, rfl⟩ := Int.eq_ofNat_of_zero_le a1
    obtain ⟨y, rfl⟩ := Int.eq_ofNat_of_zero_le b1
    refine (kMerge_yes w base l c P h x y (by omega) (by omega) hn).mono ?_
    rintro e w' ⟨rfl, c', C, K, hp, hA, _⟩
    refine ⟨by simp [mergeE, hi.1, hi.2], c', ?_, K, hp, hA⟩
    rw [mergeP, hi.1, hi.2]
    exact C

end Go.Proofs.YtlehlgipbhfioaaGreat
