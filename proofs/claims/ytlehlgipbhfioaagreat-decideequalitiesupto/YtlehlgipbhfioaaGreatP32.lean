/- Package close: Undo. Package close: Merge and Undo of a closure with its past. Package why, plainly: a choice of which none can be left out. Package why, plainly: the pairs that say something new. Package why: enough. Package sat: slices.Sort at literals, up to twelve; Compact. slices.Reverse of a row of numbers. Package sat: slices.Compact at literals: the kit's contract, laid here. Package why: turn. Package why: enough's walk. Package why: Why, what it keeps to. Package sat: slices.Sort of a clause whose greatest literal stands first and whose others rise: the pivot. -/
import Derived.Test.YtlehlgipbhfioaaGreatP28
import Derived.Test.YtlehlgipbhfioaaGreatP25
import Derived.Test.YtlehlgipbhfioaaGreatP30
import Derived.Deep.RegionLaw
import Derived.Shelf.SlicesE.Compact
import Derived.Deep.RegionWith
namespace Go.Proofs.YtlehlgipbhfioaaGreat
open Go.RowKit Go.Maps

/-- A closure, and how it came to be. -/
structure Cq (w : World) (base : Nat) (l : List Tm) (c : Ks) (P : List (Nat × Nat)) : Prop where
  cl : Cl w base l c P
  past : Past l c.z P c.told

theorem re_all {l : List Tm} {z z0 : Zs} {jv bv : Value} (hc : Chain l z0 z) (hj : jv.ownBlock = z.jv.ownBlock) (hb : bv.ownBlock = z.bv.ownBlock) {k : Nat} (h : (z0.re jv bv).All k) : z.All k := by
  obtain ⟨e1, e2, e3, e4, e5, e6, e7⟩ := hc.same
  rcases h with (e | (e | e | e) | e | e | e) | e | ⟨o, e⟩
  · exact .inl (.inl (by rw [e1]; exact e))
  · exact .inl (.inr (.inl (.inl (by rw [e2]; exact e))))
  · exact .inl (.inr (.inl (.inr (.inl (by rw [e3]; exact e)))))
  · exact .inl (.inr (.inl (.inr (.inr (by rw [← hj]; exact e)))))
  · exact .inl (.inr (.inr (.inl (by rw [e5]; exact e))))
  · exact .inl (.inr (.inr (.inr (.inl (by rw [e6]; exact e)))))
  · exact .inl (.inr (.inr (.inr (.inr (by rw [← hb]; exact e)))))
  · exact .inr (.inl (by rw [e4]; exact e))
  · exact .inr (.inr ⟨o, hc.st _ e⟩)

/-- Undo, behind takeBack. -/
theorem Cq.undone {w w1 : World} {base : Nat} {l : List Tm} {c : Ks} {P : List (Nat × Nat)} (h : Cq w base l c P) {m : Nat} (hm : m < P.length) {z0 : Zs} (hp : Past l z0 (P.take m) (c.told.take m)) (hc : Chain l z0 c.z) {jv bv : Value} (hj : jv.ownBlock = c.z.jv.ownBlock) (hb : bv.ownBlock = c.z.bv.ownBlock)
    (C : Cz w1 base l { c.z.with z0 jv with bv := bv, bs := z0.bs }) (K : Kept c.z.Foot w w1) {tb tc : Nat} (htv : c.tv = .slice (some ⟨tb, 0, none⟩) c.told.length tc) :
    w1.cell? ⟨c.pc, 0, none⟩ = some (.pointer (some ⟨c.z.pk, 0, none⟩)) ∧ w1.cell? ⟨c.pc, 1, none⟩ = some (.slice (some ⟨tb, 0, none⟩) c.told.length tc) ∧ w1.frozen? ⟨c.pc, 1, none⟩ = false ∧
    Cq (w1.setCell ⟨c.pc, 1, none⟩ (.slice (some ⟨tb, 0, none⟩) m tc)) base l ⟨c.pc, .slice (some ⟨tb, 0, none⟩) m tc, c.told.take m, z0.re jv bv⟩ (P.take m) ∧ Kept c.Foot w (w1.setCell ⟨c.pc, 1, none⟩ (.slice (some ⟨tb, 0, none⟩) m tc)) := by
  have H := h.cl
  have hn := H.num
  have hpc : ¬ c.z.Foot c.pc := fun e => H.farP (.inl e)
  have hR : w1.rowIs c.pc 62 2 (cloC c.z.pk c.tv) := H.clo.of_block (K.block _ H.clo.lt hpc)
  have hT := H.told
  rw [htv] at hT
  have htb : c.tv.ownBlock = some tb := by rw [htv]; rfl
  have hO : w1.ownsRow base 3 1 (.slice (some ⟨tb, 0, none⟩) m tc) m ((natC c.told).take (m * 1)) := ownsRow_cut hT (K.block tb (hT.lt tb rfl).2 (fun e => H.farT tb htb (.inl e))) (by omega)
  have np := rowIs_type hR (by decide) hO
  have hlen : (c.told.take m).length = m := by rw [List.length_take]; omega
  have K2 : Kept c.Foot w (w1.setCell ⟨c.pc, 1, none⟩ (.slice (some ⟨tb, 0, none⟩) m tc)) := Kept.setCell (p := ⟨c.pc, 1, none⟩) (Kept.mono K (fun _ _ e => .inr (.inr e))) (.inl rfl) _
  have K3 : Kept (fun k => k = c.pc) w1 (w1.setCell ⟨c.pc, 1, none⟩ (.slice (some ⟨tb, 0, none⟩) m tc)) := Kept.setCell (p := ⟨c.pc, 1, none⟩) (Kept.refl (fun k => k = c.pc) w1) rfl _
  have U := C.past_un hc hp.good hj hb (Nat.le_trans H.un.low K.size)
  have epk := hc.same.1
  refine ⟨hR.cell (i := 0) (by omega), by rw [← htv]; exact hR.cell (i := 1) (by omega), hR.frozen 1, ⟨⟨(hR.set 1 _).congr (fun i hi => ?_), ?_, U.keep K3 (fun k hk e => H.farP (e ▸ re_all hc hj hb hk)), fun e => H.farP (re_all hc hj hb e), fun k hk e => H.farT k ?_ (re_all hc hj hb e), H.bp, ?_⟩, hp.re jv bv⟩, K2⟩
  · rcases (by omega : i = 0 ∨ i = 1) with rfl | rfl
    · simp [cloC, Zs.re, epk]
    · simp [cloC]
  · show World.ownsRow _ base 3 1 (.slice (some ⟨tb, 0, none⟩) m tc) (c.told.take m).length (natC (c.told.take m))
    rw [hlen]
    have e : natC (c.told.take m) = (natC c.told).take (m * 1) := by simp [natC, List.map_take]
    rw [e]
    exact ownsRow_setCell_other hO np _
  · rw [htb]
    exact hk
  · show (c.told.take m).length = (P.take m).length
    simp [hn]

set_option maxHeartbeats 1000000 in
theorem kUndo_no (w : World) (base : Nat) (l : List Tm) (c : Ks) (P : List (Nat × Nat)) (h : Cl w base l c P) (m : Int) (hno : m < 0 ∨ (P.length : Int) < m) :
    Calls Tryz.prog 225 #[.pointer (some ⟨c.pc, 0, none⟩), .int .i64 m] w fun e w' => e = .returned (.bool false) ∧ w = w' := by
  have c1 := h.c1
  obtain ⟨ta, tc, htv⟩ := row_form' h.told
  rw [htv] at c1
  have hn := h.num
  rw [← hn] at hno
  clear h hn htv
  by_cases e : m < 0
  · clear hno
    go_enter Tryz.func225, Tryz.ntmps225
    go_wp2
    go_ret
    exact ⟨rfl, rfl⟩
  · have e2 : (c.told.length : Int) < m := by omega
    have e3 : 0 ≤ m := by omega
    clear hno
    go_enter Tryz.func225, Tryz.ntmps225
    go_wp2
    go_ret
    exact ⟨rfl, rfl⟩

set_option maxHeartbeats 1000000 in
theorem kUndo_all (w : World) (base : Nat) (l : List Tm) (c : Ks) (P : List (Nat × Nat)) (h : Cl w base l c P) :
    Calls Tryz.prog 225 #[.pointer (some ⟨c.pc, 0, none⟩), .int .i64 (P.length : Int)] w fun e w' => e = .returned (.bool true) ∧ w = w' := by
  have c1 := h.c1
  obtain ⟨ta, tc, htv⟩ := row_form' h.told
  rw [htv] at c1
  have hn := h.num
  rw [← hn]
  clear h hn htv
  go_enter Tryz.func225, Tryz.ntmps225
  go_wp2
  go_ret
  exact ⟨rfl, rfl⟩

set_option maxRecDepth 100000 in
set_option maxHeartbeats 2000000 in
theorem kUndo_yes (w : World) (base : Nat) (l : List Tm) (c : Ks) (P : List (Nat × Nat)) (h : Cq w base l c P) (m : Nat) (hm : m < P.length) :
    Calls Tryz.prog 225 #[.pointer (some ⟨c.pc, 0, none⟩), .int .i64 (m : Int)] w fun e w' => e = .returned (.bool true) ∧ ∃ c' : Ks, Cq w' base l c' (P.take m) ∧ Kept c.Foot w w' ∧ c'.pc = c.pc ∧ (∀ k, c'.All k → c.All k) := by
  have H := h.cl
  have hn := H.num
  obtain ⟨z0, hp, hc, ht⟩ := h.past.cut m (by omega)
  have c0 := H.c0
  have c1 := H.c1
  obtain ⟨tb, tc, cur, htv, _, _, hcap, hmax, _⟩ : ∃ g cap cur, c.tv = .slice (some ⟨g, 0, none⟩) c.told.length cap ∧ base ≤ g ∧ w.heap[g]? = some (.cells cur 3 (0, 0)) ∧ c.told.length ≤ cap ∧ cap ≤ maxLen ∧ cur.size = cap * 1 ∧ cur.toList.take (c.told.length * 1) = natC c.told := by
    rcases H.told.2 with hh | hh
    · have := hh.2; omega
    · exact hh
  have hT := H.told
  rw [htv] at hT
  have hx : w.cell? ⟨tb, m, none⟩ = some (.int .i64 (z0.bs.length : Int)) := by
    rw [hT.cellAt m (by omega)]
    simp [natC, ht]
  rw [htv] at c1
  have hbs : c.z.bs.length ≤ 100000 := by have h1 := H.un.bs; have := H.un.bound.2; simp only [List.length_nil] at h1; omega
  have KD : ∀ n, Kept0 w (w.drewN n) := fun n => (Kept.refl _ w).drewN n
  have TB := fun n => callsIn_wide.1 (takeBack_all (w.drewN n) base l c.z z0 (H.un.cz.kept0 (KD n)) hc hbs)
  have UNDONE := fun n w1 jv bv hj hb C K => (show Cq (w.drewN n) base l c P from ⟨H.kept0 (KD n), h.past⟩).undone (w1 := w1) hm hp hc (jv := jv) (bv := bv) hj hb C K htv
  have hmt : m < c.told.length := by omega
  have HALL : Hid (∀ jv bv : Value, jv.ownBlock = c.z.jv.ownBlock → bv.ownBlock = c.z.bv.ownBlock → ∀ k, (⟨c.pc, .slice (some ⟨tb, 0, none⟩) m tc, c.told.take m, z0.re jv bv⟩ : Ks).All k → c.All k) := fun jv bv hj hb k hk => by
    rcases hk with e | e | e
    · exact .inl e
    · exact .inr (.inl (by rw [htv]; exact e))
    · exact .inr (.inr (re_all hc hj hb e))
  unfold maxLen at hmax
  have HU : Hid _ := UNDONE
  clear UNDONE H hn hp hc ht hT h hm htv
  go_enter Tryz.func225, Tryz.ntmps225
  go_wp2_with fail
  go_region_with (go_at_call 249; refine (TB 1).mono ?_; rintro e w1 ⟨rfl, jv, bv, hj, hb, C, K⟩; obtain ⟨d0, d1, d2, D, DK⟩ := HU.out 1 w1 jv bv hj hb C K; replace D : Hid _ := D; replace DK : Hid _ := DK; replace C : Hid _ := C; replace K : Hid _ := K)
  all_goals
    go_wp2
    go_ret
    exact ⟨rfl, _, D.out, (Kept.mono (KD 1) (fun _ _ e => e.elim)).trans DK.out, rfl, HALL.out jv bv hj hb⟩

end Go.Proofs.YtlehlgipbhfioaaGreat

namespace Go.Proofs.YtlehlgipbhfioaaGreat
open Go.RowKit Go.Maps

theorem Cq.kept0 {w w' : World} {base : Nat} {l : List Tm} {c : Ks} {P : List (Nat × Nat)} (h : Cq w base l c P) (K : Kept0 w w') : Cq w' base l c P := ⟨h.cl.kept0 K, h.past⟩

theorem qMerge_in (w : World) (base : Nat) (l : List Tm) (c : Ks) (P : List (Nat × Nat)) (h : Cq w base l c P) (a b : Int) (hn : (P.length + 1) * 8 ≤ 140737488355328) :
    Calls Tryz.prog 7 #[.pointer (some ⟨c.pc, 0, none⟩), .int .i64 a, .int .i64 b] w fun e w' => e = .returned (.int .i64 (mergeE l a b)) ∧ ∃ c' : Ks, Cq w' base l c' (mergeP l P a b) ∧ Kept c.Foot w w' ∧ c'.pc = c.pc ∧ (∀ k, c'.All k → c.All k ∨ w.heap.size ≤ k) := by
  cases hi : inB l.length a && inB l.length b
  · refine (kMerge_no w base l c P h.cl a b hi).mono ?_
    rintro e w' ⟨rfl, rfl⟩
    refine ⟨by simp [mergeE, hi], c, ?_, Kept.refl _ _, rfl, fun k hk => .inl hk⟩
    rw [mergeP, hi, if_neg (by decide)]
    exact h
  · have hi0 := hi
    rw [Bool.and_eq_true] at hi
    obtain ⟨a1, a2⟩ := inB_true hi.1
    obtain ⟨b1, b2⟩ := inB_true hi.2
    obtain ⟨x, rfl⟩ := Int.eq_ofNat_of_zero_le a1
    obtain ⟨y, rfl⟩ := Int.eq_ofNat_of_zero_le b1
    refine (kMerge_yes w base l c P h.cl x y (by omega) (by omega) hn).mono ?_
    rintro e w' ⟨rfl, c', C', K', hp, hA, hc, ht⟩
    refine ⟨by simp [mergeE, hi0], c', ?_, K', hp, hA⟩
    rw [mergeP, hi0, if_pos rfl]
    refine ⟨C', ?_⟩
    rw [ht]
    exact .tell (x, y) h.past hc C'.un.good

/-- What Undo does to the pairs. -/
def undoB (P : List (Nat × Nat)) (m : Int) : Bool := decide (0 ≤ m) && decide (m ≤ (P.length : Int))
def undoP (P : List (Nat × Nat)) (m : Int) : List (Nat × Nat) := if undoB P m then P.take m.toNat else P

theorem qUndo_in (w : World) (base : Nat) (l : List Tm) (c : Ks) (P : List (Nat × Nat)) (h : Cq w base l c P) (m : Int) :
    Calls Tryz.prog 225 #[.pointer (some ⟨c.pc, 0, none⟩), .int .i64 m] w fun e w' => e = .returned (.bool (undoB P m)) ∧ ∃ c' : Ks, Cq w' base l c' (undoP P m) ∧ Kept c.Foot w w' ∧ c'.pc = c.pc ∧ (∀ k, c'.All k → c.All k) := by
  by_cases hi : 0 ≤ m ∧ m ≤ (P.length : Int)
  · have hB : undoB P m = true := by simp [undoB, hi]
    obtain ⟨k, rfl⟩ := Int.eq_ofNat_of_zero_le hi.1
    rw [undoP, hB, if_pos rfl, Int.toNat_natCast]
    by_cases e : k < P.length
    · exact kUndo_yes w base l c P h k e
    · have ek : k = P.length := by omega
      subst ek
      refine (kUndo_all w base l c P h.cl).mono ?_
      rintro e w' ⟨rfl, rfl⟩
      exact ⟨rfl, c, by rw [List.take_length]; exact h, Kept.refl _ _, rfl, fun k hk => hk⟩
  · have hB : undoB P m = false := by
      unfold undoB
      rw [Bool.and_eq_false_iff]
      by_cases e : 0 ≤ m
      · exact .inr (by simp; omega)
      · exact .inl (by simpa using e)
    rw [undoP, hB, if_neg (by decide)]
    refine (kUndo_no w base l c P h.cl m (by omega)).mono ?_
    rintro e w' ⟨rfl, rfl⟩
    exact ⟨rfl, c, h, Kept.refl _ _, rfl, fun k hk => hk⟩

/-- A closure that was told nothing. -/
theorem Cl.fresh {w : World} {base : Nat} {l : List Tm} {c : Ks} (h : Cl w base l c []) : Cq w base l c [] := by
  refine ⟨h, ?_⟩
  have e : c.told = [] := List.length_eq_zero_iff.1 h.num
  rw [e]
  exact .start _ h.un.good

end Go.Proofs.YtlehlgipbhfioaaGreat

namespace Go.Proofs.YtlehlgipbhfioaaGreat
namespace Wm

/-- More pairs say no less. -/
def Mon (F : List Nat → Prop) : Prop := ∀ a b : List Nat, (∀ x, x ∈ a → x ∈ b) → F a → F b

structure Wy (F : List Nat → Prop) (needed rest : List Nat) : Prop where
  all : F (needed ++ rest)
  need : ∀ m, m ∈ needed → ¬ F (needed.filter (· != m) ++ rest)
  up : rest.Pairwise (· < ·)
  dn : needed.Pairwise (· > ·)
  below : ∀ a, a ∈ rest → ∀ b, b ∈ needed → a < b

theorem Wy.start {F : List Nat → Prop} {rest : List Nat} (h : F rest) (hu : rest.Pairwise (· < ·)) : Wy F [] rest :=
  ⟨h, fun _ hm => absurd hm (by simp), hu, List.Pairwise.nil, fun _ _ _ hb => absurd hb (by simp)⟩

theorem Wy.step {F : List Nat → Prop} (hF : Mon F) {needed rest : List Nat} (h : Wy F needed rest) {i : Nat} (hi : i < rest.length) (hy : F (needed ++ rest.take (i + 1))) (hn : ¬ F (needed ++ rest.take i)) : Wy F (needed ++ [rest[i]]) (rest.take i) := by
  have ht : rest.take (i + 1) = rest.take i ++ [rest[i]] := by rw [List.take_add_one, List.getElem?_eq_getElem hi]; rfl
  have hup : (rest.take (i + 1)).Pairwise (· < ·) := h.up.sublist (List.take_sublist _ _)
  rw [ht] at hup
  obtain ⟨p1, _, p2⟩ := List.pairwise_append.1 hup
  have hlt : ∀ a, a ∈ rest.take i → a < rest[i] := fun a ha => p2 a ha _ (by simp)
  have hmem : rest[i] ∈ rest := List.getElem_mem hi
  refine ⟨hF _ _ (fun x hx => ?_) hy, fun m hm hf => ?_, p1, ?_, fun a ha b hb => ?_⟩
  · rw [ht] at hx
    simp only [List.mem_append] at hx ⊢
    rcases hx with h1 | h1 | h1
    · exact .inl (.inl h1)
    · exact .inr h1
    · exact .inl (.inr h1)
  · rcases List.mem_append.1 hm with hm | hm
    · refine h.need m hm (hF _ _ (fun x hx => ?_) hf)
      simp only [List.mem_append, List.mem_filter] at hx ⊢
      rcases hx with ⟨h1 | h1, h2⟩ | h1
      · exact .inl ⟨h1, h2⟩
      · rw [List.mem_singleton] at h1
        exact .inr (h1 ▸ hmem)
      · exact .inr (List.mem_of_mem_take h1)
    · rw [List.mem_singleton] at hm
      refine hn (hF _ _ (fun x hx => ?_) hf)
      simp only [List.mem_append, List.mem_filter] at hx ⊢
      rcases hx with ⟨h1 | h1, h2⟩ | h1
      · exact .inl h1
      · rw [List.mem_singleton] at h1
        rw [hm, h1] at h2
        simp at h2
      · exact .inr h1
  · refine List.pairwise_append.2 ⟨h.dn, List.pairwise_singleton _ _, fun a ha b hb => ?_⟩
    rw [List.mem_singleton] at hb
    rw [hb]
    exact h.below _ hmem a ha
  · rcases List.mem_append.1 hb with hb | hb
    · exact h.below a (List.mem_of_mem_take ha) b hb
    · rw [List.mem_singleton] at hb
      rw [hb]
      exact hlt a ha

/-- What Why answers. -/
theorem Wy.fin {F : List Nat → Prop} (hF : Mon F) {needed rest : List Nat} (h : Wy F needed rest) (hy : F needed) :
    needed.reverse.Pairwise (· < ·) ∧ F needed.reverse ∧ ∀ m, m ∈ needed.reverse → ∀ xs : List Nat, (∀ x, x ∈ xs → x ∈ needed.reverse ∧ x ≠ m) → ¬ F xs := by
  refine ⟨List.pairwise_reverse.2 h.dn, hF _ _ (fun x hx => List.mem_reverse.2 hx) hy, fun m hm xs hxs hf => ?_⟩
  refine h.need m (List.mem_reverse.1 hm) (hF _ _ (fun x hx => ?_) hf)
  obtain ⟨h1, h2⟩ := hxs x hx
  exact List.mem_append_left _ (List.mem_filter.2 ⟨List.mem_reverse.1 h1, by simpa using h2⟩)

/-- Where it follows by all, there is a first at which it does. -/
theorem Wy.turn {F : List Nat → Prop} (hF : Mon F) {needed rest : List Nat} (h : Wy F needed rest) (hn : ¬ F needed) : ∃ i, i < rest.length ∧ F (needed ++ rest.take (i + 1)) ∧ ∀ j, j ≤ i → ¬ F (needed ++ rest.take j) := by
  have hex : ∀ k, k ≤ rest.length → F (needed ++ rest.take k) → ∃ i, i < k ∧ F (needed ++ rest.take (i + 1)) ∧ ∀ j, j ≤ i → ¬ F (needed ++ rest.take j) := by
    intro k
    induction k with
    | zero => intro _ hf; exact absurd (by simpa using hf) hn
    | succ k ih =>
      intro hk hf
      by_cases e : F (needed ++ rest.take k)
      · obtain ⟨i, h1, h2, h3⟩ := ih (by omega) e
        exact ⟨i, by omega, h2, h3⟩
      · refine ⟨k, by omega, hf, fun j hj hfj => e (hF _ _ (fun x hx => ?_) hfj)⟩
        rcases List.mem_append.1 hx with hx | hx
        · exact List.mem_append_left _ hx
        · exact List.mem_append_right _ ((List.take_sublist_take_left hj).subset hx)
  exact hex rest.length (Nat.le_refl _) (by rw [List.take_length]; exact h.all)

end Wm
end Go.Proofs.YtlehlgipbhfioaaGreat

namespace Go.Proofs.YtlehlgipbhfioaaGreat
namespace Wm
open Cc

/-- The pair, if both are terms. -/
def okP (N : Nat) (p : Int × Int) : Option (Nat × Nat) := if inB N p.1 && inB N p.2 then some (p.1.toNat, p.2.toNat) else none
/-- The pairs with these numbers, those that say nothing aside. -/
def prs (N : Nat) (ps : List (Int × Int)) (ns : List Nat) : List (Nat × Nat) := ns.filterMap fun n => (ps[n]?).bind (okP N)

theorem mem_prs {N : Nat} {ps : List (Int × Int)} {ns : List Nat} {q : Nat × Nat} : q ∈ prs N ps ns ↔ ∃ n, n ∈ ns ∧ (ps[n]?).bind (okP N) = some q := by simp [prs, List.mem_filterMap]
theorem prs_app (N : Nat) (ps : List (Int × Int)) (a b : List Nat) : prs N ps (a ++ b) = prs N ps a ++ prs N ps b := by simp [prs]

/-- x and y are the same by the pairs with these numbers. -/
def Fol (l : List Tm) (ps : List (Int × Int)) (x y : Nat) (ns : List Nat) : Prop := Cg l (prs l.length ps ns) x y

theorem fol_mon (l : List Tm) (ps : List (Int × Int)) (x y : Nat) : Mon (Fol l ps x y) := fun a b h hf => by
  refine Cg.mono (fun i j hm hi hj => .told ?_ hi hj) hf
  obtain ⟨n, h1, h2⟩ := mem_prs.1 hm
  exact mem_prs.2 ⟨n, h _ h1, h2⟩

/-- What enough has come to, ahead of pair k. -/
structure En (l : List Tm) (ps : List (Int × Int)) (k : Nat) (ns : List Nat) : Prop where
  up : ns.Pairwise (· < ·)
  lt : ∀ n, n ∈ ns → n < k
  ok : ∀ n, n ∈ ns → ∃ q, (ps[n]?).bind (okP l.length) = some q
  all : ∀ n, n < k → ∀ q, (ps[n]?).bind (okP l.length) = some q → Cg l (prs l.length ps ns) q.1 q.2

theorem En.start (l : List Tm) (ps : List (Int × Int)) : En l ps 0 [] := ⟨.nil, fun _ h => absurd h (by simp), fun _ h => absurd h (by simp), fun _ h => absurd h (Nat.not_lt_zero _)⟩
theorem En.skip {l : List Tm} {ps : List (Int × Int)} {k : Nat} {ns : List Nat} (h : En l ps k ns) (hk : ∀ q, (ps[k]?).bind (okP l.length) = some q → Cg l (prs l.length ps ns) q.1 q.2) : En l ps (k + 1) ns :=
  ⟨h.up, fun n hn => Nat.lt_succ_of_lt (h.lt n hn), h.ok, fun n hn q hq => by
    rcases Nat.lt_succ_iff_lt_or_eq.1 hn with e | e
    · exact h.all n e q hq
    · subst e; exact hk q hq⟩
theorem En.take {l : List Tm} {ps : List (Int × Int)} {k : Nat} {ns : List Nat} (h : En l ps k ns) {q : Nat × Nat} (hq : (ps[k]?).bind (okP l.length) = some q) (h1 : q.1 < l.length) (h2 : q.2 < l.length) : En l ps (k + 1) (ns ++ [k]) := by
  have hm : ∀ i j, Cg l (prs l.length ps ns) i j → Cg l (prs l.length ps (ns ++ [k])) i j := fun i j hc => fol_mon l ps i j _ _ (fun x hx => List.mem_append_left _ hx) hc
  refine ⟨List.pairwise_append.2 ⟨h.up, List.pairwise_singleton _ _, fun a ha b hb => ?_⟩, fun n hn => ?_, fun n hn => ?_, fun n hn p hp => ?_⟩
  · rw [List.mem_singleton] at hb
    rw [hb]
    exact h.lt a ha
  · rcases List.mem_append.1 hn with e | e
    · exact Nat.lt_succ_of_lt (h.lt n e)
    · rw [List.mem_singleton] at e
      omega
  · rcases List.mem_append.1 hn with e | e
    · exact h.ok n e
    · rw [List.mem_singleton] at e
      subst e
      exact ⟨q, hq⟩
  · rcases Nat.lt_succ_iff_lt_or_eq.1 hn with e | e
    · exact hm _ _ (h.all n e p hp)
    · subst e
      rw [hq] at hp
      cases hp
      exact .told (mem_prs.2 ⟨n, by simp, hq⟩) h1 h2

/-- At the end these pairs say all that all of them say. -/
theorem En.fin {l : List Tm} {ps : List (Int × Int)} {ns : List Nat} (h : En l ps ps.length ns) (x y : Nat) : Fol l ps x y ns ↔ Fol l ps x y (List.range ps.length) := by
  constructor
  · exact fol_mon l ps x y _ _ (fun n hn => List.mem_range.2 (h.lt n hn))
  · intro hf
    refine Cg.mono (fun i j hm _ _ => ?_) hf
    obtain ⟨n, h1, h2⟩ := mem_prs.1 hm
    exact h.all n (List.mem_range.1 h1) (i, j) h2
theorem En.some {l : List Tm} {ps : List (Int × Int)} {k : Nat} {ns : List Nat} (h : En l ps k ns) (hk : k ≤ ps.length) {x y : Nat} (hf : Fol l ps x y ns) : Fol l ps x y (List.range ps.length) :=
  fol_mon l ps x y _ _ (fun n hn => List.mem_range.2 (Nat.lt_of_lt_of_le (h.lt n hn) hk)) hf

end Wm
end Go.Proofs.YtlehlgipbhfioaaGreat

namespace Go.Proofs.YtlehlgipbhfioaaGreat
open Go.RowKit Go.Maps

/-- Pairs in memory. -/
def Prw (w : World) (a : Option Addr) (ps : List (Int × Int)) : Prop := ∀ (k : Nat) (x : Int × Int), ps[k]? = some x → ∃ b off, a = some ⟨b, off, none⟩ ∧ b < w.heap.size ∧ w.cell? ⟨b, off + k * 2, none⟩ = some (.int .i64 x.1) ∧ w.cell? ⟨b, off + k * 2 + 1, none⟩ = some (.int .i64 x.2)
theorem Prw.kept0 {w w' : World} {a : Option Addr} {ps : List (Int × Int)} (h : Prw w a ps) (K : Kept0 w w') : Prw w' a ps := fun k x hx => by
  obtain ⟨b, off, h1, h2, h3, h4⟩ := h k x hx
  have e : ∀ o, w'.cell? ⟨b, o, none⟩ = w.cell? ⟨b, o, none⟩ := fun o => by unfold World.cell?; rw [K.block b h2 (fun e => e)]
  exact ⟨b, off, h1, Nat.lt_of_lt_of_le h2 K.size, by rw [e]; exact h3, by rw [e]; exact h4⟩

open Classical in
/-- Are x and y the same by some pairs? -/
noncomputable def cgB (l : List Tm) (P : List (Nat × Nat)) (x y : Int) : Bool := inB l.length x && inB l.length y && decide (Cc.Cg l P x.toNat y.toNat)
theorem cgB_iff {l : List Tm} {P : List (Nat × Nat)} {x y : Int} : cgB l P x y = true ↔ inB l.length x = true ∧ inB l.length y = true ∧ Cc.Cg l P x.toNat y.toNat := by
  simp [cgB, and_assoc]

theorem Cl.sameB {w : World} {base : Nat} {l : List Tm} {c : Ks} {P : List (Nat × Nat)} (h : Cl w base l c P) (x y : Int) : Go.Proofs.YtlehlgipbhfioaaGreat.sameB l.length c.z.g x y = cgB l P x y := by
  rw [Bool.eq_iff_iff, cgB_iff]
  constructor
  · intro hs
    have h2 : inB l.length x = true ∧ inB l.length y = true := by
      unfold Go.Proofs.YtlehlgipbhfioaaGreat.sameB at hs
      simp only [Bool.and_eq_true] at hs
      exact ⟨hs.1.1, hs.1.2⟩
    obtain ⟨a1, a2⟩ := inB_true h2.1
    obtain ⟨b1, b2⟩ := inB_true h2.2
    obtain ⟨i, rfl⟩ := Int.eq_ofNat_of_zero_le a1
    obtain ⟨j, rfl⟩ := Int.eq_ofNat_of_zero_le b1
    exact ⟨h2.1, h2.2, (h.un.same (i := i) (j := j) (by omega) (by omega)).1 hs⟩
  · rintro ⟨h1, h2, h3⟩
    obtain ⟨a1, a2⟩ := inB_true h1
    obtain ⟨b1, b2⟩ := inB_true h2
    obtain ⟨i, rfl⟩ := Int.eq_ofNat_of_zero_le a1
    obtain ⟨j, rfl⟩ := Int.eq_ofNat_of_zero_le b1
    exact (h.un.same (i := i) (j := j) (by omega) (by omega)).2 h3

theorem qSame_in (w : World) (base : Nat) (l : List Tm) (c : Ks) (P : List (Nat × Nat)) (h : Cl w base l c P) (x y : Int) :
    Calls Tryz.prog 11 #[.pointer (some ⟨c.pc, 0, none⟩), .int .i64 x, .int .i64 y] w fun e w' => e = .returned (.bool (cgB l P x y)) ∧ ∃ m, w' = w.drewN m := by
  rw [← h.sameB]
  exact kSame_in w base l c P h x y

theorem qSame_k (w : World) (base : Nat) (l : List Tm) (c : Ks) (P : List (Nat × Nat)) (h : Cl w base l c P) (x y : Int) :
    Calls Tryz.prog 11 #[.pointer (some ⟨c.pc, 0, none⟩), .int .i64 x, .int .i64 y] w fun e w' => e = .returned (.bool (cgB l P x y)) ∧ Kept0 w w' :=
  (qSame_in w base l c P h x y).mono fun _ _ ⟨h1, m, h2⟩ => ⟨h1, h2 ▸ (Kept.refl _ w).drewN m⟩

/-- What enough has come to. -/
structure Eg (w W : World) (l : List Tm) (ps : List (Int × Int)) (c : Ks) (k : Nat) (ns : List Nat) (v : Value) : Prop where
  cq : Cq W w.heap.size l c (Wm.prs l.length ps ns)
  row : W.ownsRow w.heap.size 3 1 v ns.length (natC ns)
  far : ∀ j, v.ownBlock = some j → ¬ c.All j
  en : Wm.En l ps k ns
  few : ns.length ≤ k
  bel : Kept0 w W

theorem Wm.prs_len (N : Nat) (ps : List (Int × Int)) (ns : List Nat) : (Wm.prs N ps ns).length ≤ ns.length := List.length_filterMap_le _ _
theorem Wm.prs_snoc {N : Nat} {ps : List (Int × Int)} {ns : List Nat} {k : Nat} {q : Nat × Nat} (h : (ps[k]?).bind (Wm.okP N) = some q) : Wm.prs N ps (ns ++ [k]) = Wm.prs N ps ns ++ [q] := by
  rw [Wm.prs_app]
  simp [Wm.prs, h]

theorem Eg.kept0 {w W W' : World} {l : List Tm} {ps : List (Int × Int)} {c : Ks} {k : Nat} {ns : List Nat} {v : Value} (h : Eg w W l ps c k ns v) (K : Kept0 W W') : Eg w W' l ps c k ns v :=
  ⟨h.cq.kept0 K, ownsRow_blockC h.row (fun j hj => K.block j (h.row.lt j hj).2 (fun e => e)), h.far, h.en, h.few, h.bel.trans K⟩
theorem Eg.skip {w W : World} {l : List Tm} {ps : List (Int × Int)} {c : Ks} {k : Nat} {ns : List Nat} {v : Value} (h : Eg w W l ps c k ns v) {p : Int × Int} (hp : ps[k]? = some p) (hs : cgB l (Wm.prs l.length ps ns) p.1 p.2 = true ∨ (inB l.length p.1 && inB l.length p.2) = false) : Eg w W l ps c (k + 1) ns v := by
  refine ⟨h.cq, h.row, h.far, h.en.skip (fun q hq => ?_), Nat.le_succ_of_le h.few, h.bel⟩
  rw [hp] at hq
  simp only [Option.bind_some, Wm.okP] at hq
  rcases hs with hs | hs
  · rw [cgB_iff] at hs
    rw [hs.1, hs.2.1] at hq
    simp at hq
    subst hq
    exact hs.2.2
  · rw [hs] at hq
    simp at hq

/-- The pair is told. -/
theorem Eg.tell {w W : World} {l : List Tm} {ps : List (Int × Int)} {c : Ks} {k : Nat} {ns : List Nat} {v : Value} (h : Eg w W l ps c k ns v) {p : Int × Int} (hp : ps[k]? = some p) (hin : (inB l.length p.1 && inB l.length p.2) = true) (hr : (k + 1) * 8 ≤ 140737488355328) :
    Calls Tryz.prog 7 #[.pointer (some ⟨c.pc, 0, none⟩), .int .i64 p.1, .int .i64 p.2] W fun e W' => e = .returned (.int .i64 0) ∧ ∃ c' : Ks, c'.pc = c.pc ∧ Cq W' w.heap.size l c' (Wm.prs l.length ps (ns ++ [k])) ∧ W'.ownsRow w.heap.size 3 1 v ns.length (natC ns) ∧ (∀ j, v.ownBlock = some j → ¬ c'.All j) ∧ Kept0 w W' := by
  have hq : (ps[k]?).bind (Wm.okP l.length) = some (p.1.toNat, p.2.toNat) := by rw [hp]; simp [Wm.okP, hin]
  have hl := Wm.prs_len l.length ps ns
  have hf := h.few
  refine (qMerge_in W w.heap.size l c _ h.cq p.1 p.2 (by omega)).mono ?_
  rintro e W' ⟨rfl, c', C', K, hpc, hA⟩
  refine ⟨by simp [mergeE, hin], c', hpc, ?_, ownsRow_blockC h.row (fun j hj => K.block j (h.row.lt j hj).2 (fun e => h.far j hj e.all)), fun j hj hA' => ?_, ?_⟩
  · rw [Wm.prs_snoc hq]
    rw [mergeP, hin, if_pos rfl] at C'
    exact C'
  · rcases hA j hA' with e | e
    · exact h.far j hj e
    · have := (h.row.lt j hj).2; omega
  · exact h.bel.into K (fun i hi => .inr (h.cq.cl.foot_ge hi))

/-- .. and its number noted. -/
theorem Eg.note {w W wa w1 : World} {l : List Tm} {ps : List (Int × Int)} {c : Ks} {k : Nat} {ns : List Nat} {v v' : Value} (hen : Wm.En l ps k ns) (few : ns.length ≤ k) {p : Int × Int} (hp : ps[k]? = some p) (hin : (inB l.length p.1 && inB l.length p.2) = true)
    (hc : Cq W w.heap.size l c (Wm.prs l.length ps (ns ++ [k]))) (far : ∀ j, v.ownBlock = some j → ¬ c.All j) (K : Kept0 w W) (K0 : Kept0 W wa) (hrow : W.ownsRow w.heap.size 3 1 v ns.length (natC ns))
    (hown : w1.ownsRow w.heap.size 3 1 v' (ns.length + 1) (natC ns ++ [.int .i64 (k : Int)])) (hgrow : wa.grownBy w1 v.ownBlock) (hloc : v'.ownBlock = v.ownBlock ∨ ∀ k, v'.ownBlock = some k → wa.heap.size ≤ k) : Eg w w1 l ps c (k + 1) (ns ++ [k]) v' := by
  have hq : (ps[k]?).bind (Wm.okP l.length) = some (p.1.toNat, p.2.toNat) := by rw [hp]; simp [Wm.okP, hin]
  have K1 : Kept (fun j => v.ownBlock = some j) W w1 := Kept.grown (Kept.mono K0 (fun _ _ e => e.elim)) hgrow (fun _ e => e)
  rw [Bool.and_eq_true] at hin
  have a1 := inB_true hin.1
  have b1 := inB_true hin.2
  refine ⟨⟨hc.cl.keep K1 (fun j hj e => far j e hj), hc.past⟩, ?_, fun j hj hA => ?_, hen.take hq (by show p.1.toNat < _; omega) (by show p.2.toNat < _; omega), by simp; omega, K.into K1 (fun i hi => .inr (hrow.lt i hi).1)⟩
  · rw [List.length_append, ← natC_app]
    exact hown
  · rcases hloc with e | e
    · exact far j (e ▸ hj) hA
    · have h1 := e j hj
      have h2 := hc.cl.all_lt hA
      have h3 := K0.size
      omega

end Go.Proofs.YtlehlgipbhfioaaGreat

namespace Go.Proofs.YtlehlgipbhfioaaGreat
open Go.RowKit Go.Maps

set_option maxRecDepth 100000 in
set_option maxHeartbeats 1000000 in
theorem len64_in (w : World) (x : Nat) (hx : x ≤ 12) : Calls Tryz.prog 192 #[.int .u64 (x : Int)] w fun e w' => ∃ k : Int, e = .returned (.int .i64 k) ∧ w = w' := by
  have h : x = 0 ∨ x = 1 ∨ x = 2 ∨ x = 3 ∨ x = 4 ∨ x = 5 ∨ x = 6 ∨ x = 7 ∨ x = 8 ∨ x = 9 ∨ x = 10 ∨ x = 11 ∨ x = 12 := by omega
  rcases h with rfl | rfl | rfl | rfl | rfl | rfl | rfl | rfl | rfl | rfl | rfl | rfl | rfl
  all_goals
    go_enter Tryz.func192, Tryz.ntmps192
    go_wp2_with fail
    go_ret
    exact ⟨_, rfl, rfl⟩

set_option maxRecDepth 100000 in
set_option maxHeartbeats 1000000 in
theorem len_in (w : World) (x : Nat) (hx : x ≤ 12) : Calls Tryz.prog 145 #[.int .u64 (x : Int)] w fun e w' => ∃ k : Int, e = .returned (.int .i64 k) ∧ w = w' := by
  have L := len64_in w x hx
  have h1 : IntKind.u64.wrap (x : Int) = (x : Int) := by rw [IntKind.wrap_u64]; omega
  go_enter Tryz.func145, Tryz.ntmps145
  go_wp2_with (first | (go_at_call 192; refine L.mono ?_; rintro e w3 ⟨k, rfl, rfl⟩))
  go_ret
  exact ⟨_, rfl, rfl⟩

set_option maxRecDepth 100000 in
set_option maxHeartbeats 1000000 in
theorem sPdq_in (w : World) (g : Nat) (xs : List Nat) (c : Nat) (h : RowL w g xs) (hn : xs.length ≤ 12) (hc : xs.length ≤ c) (lim : Int) :
    Calls Tryz.prog 162 #[.slice (some ⟨g, 0, none⟩) xs.length c, .int .i64 0, .int .i64 (xs.length : Int), .int .i64 lim] w fun e w' => e = .returned (.tuple #[]) ∧ ∃ ys, RowL w' g ys ∧ ys.Perm xs ∧ ys.Pairwise (· ≤ ·) ∧ Kept (fun k => k = g) w w' := by
  have IN := sInsS_in w g xs c h (by omega) hc
  have d1 : decide ((xs.length : Int) ≤ 12) = true := decide_eq_true (by omega)
  have hw0 := wrap_nat0 (a := xs.length) (by omega)
  have hw1 := wrap_nat (a := xs.length) (by omega)
  clear h
  generalize xs.length = n at *
  go_enter Tryz.func162, Tryz.ntmps162
  go_wp2_with fail
  go_loopw [1, 2, 3, 8, 9] (fun t1 t2 _ _ _ W => t1 = .int .i64 0 ∧ t2 = .int .i64 (n : Int) ∧ W = w) (fun _ _ _ _ _ _ => 0)
  case atStart => exact ⟨rfl, rfl, rfl⟩
  case round =>
    obtain ⟨rfl, rfl, rfl⟩ := hrel
    go_wp2_with (first | (go_at_call 201; refine IN.mono ?_; rintro e w3 ⟨rfl, HY⟩))
    exact ⟨rfl, .tuple #[], by simp [results, Tryz.results162], rfl, HY⟩

set_option maxRecDepth 100000 in
set_option maxHeartbeats 1000000 in
theorem sSort_in (w : World) (g : Nat) (xs : List Nat) (c : Nat) (h : RowL w g xs) (hn : xs.length ≤ 12) (hc : xs.length ≤ c) :
    Calls Tryz.prog 126 #[.slice (some ⟨g, 0, none⟩) xs.length c] w fun e w' => e = .returned (.tuple #[]) ∧ ∃ ys, RowL w' g ys ∧ ys.Perm xs ∧ ys.Pairwise (· ≤ ·) ∧ Kept (fun k => k = g) w w' := by
  have PD := fun (m : Nat) (lim : Int) => sPdq_in (w.drewN m) g xs c h hn hc lim
  have LE := fun (m : Nat) => len_in (w.drewN m) xs.length hn
  have h1 : IntKind.u64.wrap (xs.length : Int) = (xs.length : Int) := by rw [IntKind.wrap_u64]; omega
  have HPD : Hid _ := PD
  have HLE : Hid _ := LE
  clear h PD LE
  generalize xs.length = n at *
  go_enter Tryz.func126, Tryz.ntmps126
  go_wp2_with (first | (go_at_call 162; refine (HPD.out 0 _).mono ?_; rintro e w3 ⟨rfl, HY⟩) | (go_at_call 145; refine (HLE.out 0).mono ?_; rintro e w3 ⟨k, rfl, rfl⟩))
  exact ⟨rfl, .tuple #[], by simp [results, Tryz.results126], rfl, HY⟩

end Go.Proofs.YtlehlgipbhfioaaGreat

namespace Go.Proofs.YtlehlgipbhfioaaGreat
open Go.RowKit Go.Maps

theorem ownsRow_put {W : World} {base : Nat} {e : TypeId} {g cap m : Nat} {ys : List Value} (h : W.ownsRow base e 1 (.slice (some ⟨g, 0, none⟩) m cap) m ys) {o : Nat} (v : Value) : (W.setCell ⟨g, o, none⟩ v).ownsRow base e 1 (.slice (some ⟨g, 0, none⟩) m cap) m (ys.set o v) := by
  refine ⟨by rw [List.length_set]; exact h.1, ?_⟩
  rcases h.2 with ⟨e', _⟩ | ⟨g', c, cur, e', h1, h2, h3, h4, h5, h6⟩
  · cases e'
  · simp only [Value.slice.injEq, Option.some.injEq, Addr.mk.injEq, and_true, true_and] at e'
    obtain ⟨rfl, rfl⟩ := e'
    refine .inr ⟨g, cap, cur.setIfInBounds o v, rfl, h1, ?_, h3, h4, by simpa using h5, ?_⟩
    · simp [World.setCell, Array.getElem?_modify, h2]
    · rw [← h6, Array.toList_setIfInBounds, List.take_set]

/-- Reversed from both ends on. -/
def revTo (xs : List Nat) (i : Nat) : List Nat := (List.range xs.length).map fun k => if k < i ∨ xs.length ≤ k + i then xs[xs.length - 1 - k]?.getD 0 else xs[k]?.getD 0
theorem revTo_len (xs : List Nat) (i : Nat) : (revTo xs i).length = xs.length := by simp [revTo]
theorem revTo_get (xs : List Nat) (i k : Nat) (hk : k < xs.length) : (revTo xs i)[k]? = some (if k < i ∨ xs.length ≤ k + i then xs[xs.length - 1 - k]?.getD 0 else xs[k]?.getD 0) := by
  simp [revTo, hk]
theorem revTo_zero (xs : List Nat) : revTo xs 0 = xs := by
  apply List.ext_getElem?
  intro k
  by_cases hk : k < xs.length
  · rw [revTo_get xs 0 k hk, if_neg (by omega), List.getElem?_eq_getElem hk]
    rfl
  · rw [List.getElem?_eq_none (by rw [revTo_len]; omega), List.getElem?_eq_none (by omega)]
theorem revTo_all (xs : List Nat) (i : Nat) (h : xs.length ≤ 2 * i + 1) : revTo xs i = xs.reverse := by
  apply List.ext_getElem?
  intro k
  by_cases hk : k < xs.length
  · rw [revTo_get xs i k hk, List.getElem?_reverse hk]
    by_cases e : k < i ∨ xs.length ≤ k + i
    · rw [if_pos e, List.getElem?_eq_getElem (by omega)]
      rfl
    · rw [if_neg e, show xs.length - 1 - k = k by omega, List.getElem?_eq_getElem hk]
      rfl
  · rw [List.getElem?_eq_none (by rw [revTo_len]; omega), List.getElem?_eq_none (by rw [List.length_reverse]; omega)]
theorem revTo_succ (xs : List Nat) (i : Nat) (h : 2 * i + 1 < xs.length) : revTo xs (i + 1) = ((revTo xs i).set i (xs[xs.length - 1 - i]?.getD 0)).set (xs.length - 1 - i) (xs[i]?.getD 0) := by
  apply List.ext_getElem?
  intro k
  by_cases hk : k < xs.length
  · rw [revTo_get xs (i + 1) k hk]
    by_cases e1 : k = xs.length - 1 - i
    · have hc : k < i + 1 ∨ xs.length ≤ k + (i + 1) := by omega
      have hl : xs.length - 1 - i < ((revTo xs i).set i (xs[xs.length - 1 - i]?.getD 0)).length := by rw [List.length_set, revTo_len]; omega
      rw [if_pos hc, List.getElem?_set, if_pos e1.symm, if_pos hl, e1, show xs.length - 1 - (xs.length - 1 - i) = i by omega]
    · rw [List.getElem?_set_ne (Ne.symm e1)]
      by_cases e2 : k = i
      · subst e2
        have hc : k < k + 1 ∨ xs.length ≤ k + (k + 1) := by omega
        have hl : k < (revTo xs k).length := by rw [revTo_len]; omega
        rw [if_pos hc, List.getElem?_set, if_pos rfl, if_pos hl]
      · rw [List.getElem?_set_ne (Ne.symm e2), revTo_get xs i k hk]
        congr 1
        by_cases e3 : k < i ∨ xs.length ≤ k + i
        · rw [if_pos e3, if_pos (by omega)]
        · rw [if_neg e3, if_neg (by omega)]
  · rw [List.getElem?_eq_none (by rw [revTo_len]; omega), List.getElem?_eq_none (by rw [List.length_set, List.length_set, revTo_len]; omega)]
theorem natC_set (xs : List Nat) (i x : Nat) : natC (xs.set i x) = (natC xs).set i (.int .i64 (x : Int)) := by simp [natC, List.map_set]

set_option maxHeartbeats 2000000 in
set_option maxRecDepth 100000 in
theorem reverse_in (w : World) (base : Nat) (v : Value) (xs : List Nat) (h : w.ownsRow base 3 1 v xs.length (natC xs)) (hn : xs.length ≤ 17592186044416) :
    Calls Tryz.prog 181 #[v] w fun e w' => e = .returned (.tuple #[]) ∧ w'.ownsRow base 3 1 v xs.length (natC xs.reverse) ∧ Kept (fun k => v.ownBlock = some k) w w' := by
  obtain ⟨va, vc, hv⟩ := row_form' h
  subst hv
  have h0 : w.ownsRow base 3 1 (.slice va xs.length vc) xs.length (natC (revTo xs 0)) := by rw [revTo_zero]; exact h
  clear h
  go_enter Tryz.func181, Tryz.ntmps181
  go_wp2_with fail
  go_loopw [2, 3] (fun t2 t3 W => ∃ i : Nat, 2 * i ≤ xs.length + 1 ∧ t2 = .int .i64 (i : Int) ∧ t3 = .int .i64 ((xs.length : Int) - 1 - i) ∧ W.ownsRow base 3 1 (.slice va xs.length vc) xs.length (natC (revTo xs i)) ∧ Kept (fun k => (Value.slice va xs.length vc).ownBlock = some k) w W) (fun t2 _ _ => xs.length - (intOf t2).toNat)
  case atStart => exact ⟨0, by omega, rfl, by simp, h0, Kept.refl _ _⟩
  case round =>
    clear h0
    obtain ⟨i, hi, rfl, rfl, R, K⟩ := hrel
    by_cases hi2 : 2 * i + 1 < xs.length
    · have di : decide ((i : Int) < (xs.length : Int) - 1 - i) = true := decide_eq_true (by omega)
      have hg : ∃ g, va = some ⟨g, 0, none⟩ := by
        rcases R.2 with ⟨_, e2⟩ | ⟨g, c, cur, e', _⟩
        · omega
        · simp only [Value.slice.injEq] at e'
          exact ⟨g, e'.1⟩
      obtain ⟨g, rfl⟩ := hg
      obtain ⟨j, hj⟩ : ∃ j, j = xs.length - 1 - i := ⟨_, rfl⟩
      have ej : ((xs.length : Int) - 1 - i) = (j : Int) := by omega
      rw [ej] at di ⊢
      have c1 : wr.cell? ⟨g, i, none⟩ = some (.int .i64 ((xs[i]?.getD 0 : Nat) : Int)) := by
        have := R.cellAt i (by omega)
        rw [natC_get, revTo_get xs i i (by omega), if_neg (by omega)] at this
        exact this
      have c2 : wr.cell? ⟨g, j, none⟩ = some (.int .i64 ((xs[j]?.getD 0 : Nat) : Int)) := by
        have := R.cellAt j (by omega)
        rw [natC_get, revTo_get xs i j (by omega), if_neg (by omega)] at this
        exact this
      have f1 := R.frozenAt i
      have f2 := R.frozenAt j
      have hne : i ≠ j := by omega
      have FIN : Hid (((wr.setCell ⟨g, i, none⟩ (.int .i64 ((xs[j]?.getD 0 : Nat) : Int))).setCell ⟨g, j, none⟩ (.int .i64 ((xs[i]?.getD 0 : Nat) : Int))).ownsRow base 3 1 (.slice (some ⟨g, 0, none⟩) xs.length vc) xs.length (natC (revTo xs (i + 1))) ∧ Kept (fun k => (Value.slice (some ⟨g, 0, none⟩) xs.length vc).ownBlock = some k) w ((wr.setCell ⟨g, i, none⟩ (.int .i64 ((xs[j]?.getD 0 : Nat) : Int))).setCell ⟨g, j, none⟩ (.int .i64 ((xs[i]?.getD 0 : Nat) : Int)))) := by
        refine ⟨?_, Kept.setCell (p := ⟨g, j, none⟩) (Kept.setCell (p := ⟨g, i, none⟩) K (by simp [Value.ownBlock]) _) (by simp [Value.ownBlock]) _⟩
        rw [revTo_succ xs i hi2, natC_set, natC_set, ← hj]
        exact ownsRow_put (ownsRow_put R _) _
      have HJ : Hid (j = xs.length - 1 - i) := hj
      have hjl : j < xs.length := by omega
      have hil : i < xs.length := by omega
      have hij : i < j := by omega
      clear R K hj ej
      generalize xs[i]?.getD 0 = x1 at *
      generalize xs[j]?.getD 0 = x2 at *
      go_wp2_with fail
      go_region
      all_goals
        go_wp2_with fail
        refine ⟨⟨i + 1, by omega, by simp, ?_, ownsRow_blockC FIN.out.1 (fun _ _ => rfl), FIN.out.2.drew⟩, by simp [intOf]; omega⟩
        have := HJ.out
        congr 1
        omega
    · have di : decide ((i : Int) < (xs.length : Int) - 1 - i) = false := decide_eq_false (by omega)
      go_wp2_with fail
      go_end0
      have e := revTo_all xs i (by omega)
      rw [e] at R
      exact ⟨rfl, R, K⟩

end Go.Proofs.YtlehlgipbhfioaaGreat

namespace Go.Proofs
open Go.Shelf
def Tryz.laysCm_ren : Go.Shelf.Ren := ⟨fun | 43 => 127 | n => n, fun | 0 => 0 | 3 => 3 | 4 => 4 | 22 => 178 | 23 => 192 | n => n, fun | n => n⟩
theorem Tryz.laysCm : Go.Proofs.SlLaysE.n43 Tryz.prog Tryz.laysCm_ren := {
  mixed := by kernel_rfl
  f43 := ⟨Tryz.f127.name, by kernel_rfl, Tryz.func127.trans (congrArg some (by kernel_rfl))⟩
  t0 := Tryz.underlying0
  a0 := Tryz.isAgg0
  z0 := Tryz.sizeOf0
  v0 := Tryz.zeroValue0
  t3 := Tryz.underlying3
  a3 := Tryz.isAgg3
  z3 := Tryz.sizeOf3
  v3 := Tryz.zeroValue3
  t4 := Tryz.underlying4
  a4 := Tryz.isAgg4
  z4 := Tryz.sizeOf4
  v4 := Tryz.zeroValue4
  t22 := Tryz.underlying178
  a22 := Tryz.isAgg178
  z22 := Tryz.sizeOf178
  v22 := Tryz.zeroValue178
  a23 := Tryz.isAgg192
  z23 := Tryz.sizeOf192 }
end Go.Proofs
namespace Go.Proofs.YtlehlgipbhfioaaGreat
open Go.RowKit Go.Maps Go.Sort Go.Lib

theorem sCompact0 (g cap : Nat) (d : Array Int) (w : World) (hH : Holds (Value.int .i32) w g 0 d) (hsz : d.size ≤ 9223372036854775807) (hcap : d.size ≤ cap) :
    Calls Tryz.prog 127 #[.slice (some ⟨g, 0, none⟩) d.size cap] w fun e w' => e = .returned (.slice (some ⟨g, 0, none⟩) (compactUpTo d d.size).length cap) ∧ ∃ q, w' = putRow (Value.int .i32) (Sort.ahead w q) g 0 (compactUpTo d d.size ++ List.replicate (d.size - (compactUpTo d d.size).length) 0).toArray :=
  AnyE.slices_Compact Tryz.laysCm (Value.int .i32) (fun _ => rfl) (EqlAt.intD _ _ .i32) (NeqAt.intD _ _ .i32) 0 Tryz.zeroValue192 g 0 cap d w hH hsz hcap

end Go.Proofs.YtlehlgipbhfioaaGreat

namespace Go.Proofs.YtlehlgipbhfioaaGreat
open Go.RowKit Go.Maps

/-- What turn has come to: j of the numbers are told. -/
structure Tn (w W : World) (base : Nat) (l : List Tm) (ps : List (Int × Int)) (rest : List Nat) (c : Ks) (P : List (Nat × Nat)) (c' : Ks) (j : Nat) : Prop where
  cq : Cq W base l c' (P ++ Wm.prs l.length ps (rest.take j))
  kept : Kept c.All w W
  pc : c'.pc = c.pc
  all : ∀ k, c'.All k → c.All k ∨ w.heap.size ≤ k

theorem Tn.kept0 {w W W' : World} {base : Nat} {l : List Tm} {ps : List (Int × Int)} {rest : List Nat} {c : Ks} {P : List (Nat × Nat)} {c' : Ks} {j : Nat} (h : Tn w W base l ps rest c P c' j) (K : Kept0 W W') : Tn w W' base l ps rest c P c' j :=
  ⟨h.cq.kept0 K, h.kept.into K (fun _ e => e.elim), h.pc, h.all⟩

theorem prs_take_len (N : Nat) (ps : List (Int × Int)) (rest : List Nat) (j : Nat) : (Wm.prs N ps (rest.take j)).length ≤ rest.length := by
  have h1 := Wm.prs_len N ps (rest.take j)
  have h2 : (rest.take j).length ≤ rest.length := by rw [List.length_take]; exact Nat.min_le_right _ _
  omega

theorem okP_some {N : Nat} {p : Int × Int} {q : Nat × Nat} (h : Wm.okP N p = some q) : (inB N p.1 && inB N p.2) = true ∧ q = (p.1.toNat, p.2.toNat) := by
  unfold Wm.okP at h
  cases hi : inB N p.1 && inB N p.2
  · rw [hi] at h; simp at h
  · rw [hi] at h; simp at h; exact ⟨rfl, h.symm⟩

theorem Tn.tell {w W : World} {base : Nat} {l : List Tm} {ps : List (Int × Int)} {rest : List Nat} {c : Ks} {P : List (Nat × Nat)} {c' : Ks} {j : Nat} (h : Tn w W base l ps rest c P c' j) {n : Nat} (hn : rest[j]? = some n) {p : Int × Int} (hp : ps[n]? = some p) (hin : (inB l.length p.1 && inB l.length p.2) = true) (hb : (P.length + rest.length + 1) * 8 ≤ 140737488355328) :
    Calls Tryz.prog 7 #[.pointer (some ⟨c.pc, 0, none⟩), .int .i64 p.1, .int .i64 p.2] W fun e W' => (∃ x, e = .returned (.int .i64 x)) ∧ ∃ c2 : Ks, Tn w W' base l ps rest c P c2 (j + 1) := by
  have hq : (ps[n]?).bind (Wm.okP l.length) = some (p.1.toNat, p.2.toNat) := by rw [hp]; simp [Wm.okP, hin]
  have hl := prs_take_len l.length ps rest j
  have M := qMerge_in W base l c' _ h.cq p.1 p.2 (by rw [List.length_append]; omega)
  rw [h.pc] at M
  refine M.mono ?_
  rintro e W' ⟨rfl, c2, C2, K, hpc, hA⟩
  refine ⟨⟨_, rfl⟩, c2, ?_, h.kept.into K (fun k hk => h.all k hk.all), hpc, fun k hk => ?_⟩
  · rw [List.take_add_one, hn, Option.toList_some, Wm.prs_snoc hq, ← List.append_assoc]
    rw [mergeP, hin, if_pos rfl] at C2
    exact C2
  · rcases hA k hk with e | e
    · exact h.all k e
    · exact .inr (Nat.le_trans h.kept.size e)

theorem Tn.back {w W : World} {base : Nat} {l : List Tm} {ps : List (Int × Int)} {rest : List Nat} {c : Ks} {P : List (Nat × Nat)} {c' : Ks} {j : Nat} (h : Tn w W base l ps rest c P c' j) :
    Calls Tryz.prog 225 #[.pointer (some ⟨c.pc, 0, none⟩), .int .i64 (P.length : Int)] W fun e W' => (∃ x, e = .returned (.bool x)) ∧ ∃ c2 : Ks, Cq W' base l c2 P ∧ Kept c.All w W' ∧ c2.pc = c.pc ∧ (∀ k, c2.All k → c.All k ∨ w.heap.size ≤ k) := by
  have M := qUndo_in W base l c' _ h.cq (P.length : Int)
  rw [h.pc] at M
  refine M.mono ?_
  rintro e W' ⟨rfl, c2, C2, K, hpc, hA⟩
  refine ⟨⟨_, rfl⟩, c2, ?_, h.kept.into K (fun k hk => h.all k hk.all), hpc, fun k hk => h.all k (hA k hk)⟩
  have e : undoP (P ++ Wm.prs l.length ps (rest.take j)) (P.length : Int) = P := by
    rw [undoP, if_pos (by simp [undoB]; omega)]
    simp
  rw [e] at C2
  exact C2

set_option maxHeartbeats 4000000 in
set_option maxRecDepth 100000 in
theorem turn_in (w : World) (base : Nat) (l : List Tm) (c : Ks) (P : List (Nat × Nat)) (h : Cq w base l c P) (a : Option Addr) (cp : Nat) (ps : List (Int × Int)) (g cap : Nat) (rest : List Nat)
    (hM : ∀ W, Kept c.All w W → Prw W a ps ∧ ∀ (j n : Nat), rest[j]? = some n → W.cell? ⟨g, j, none⟩ = some (.int .i64 (n : Int)))
    (hok : ∀ n, n ∈ rest → ∃ q, (ps[n]?).bind (Wm.okP l.length) = some q)
    (x y : Int) (i : Nat) (hi : i < rest.length) (hy : cgB l (P ++ Wm.prs l.length ps (rest.take (i + 1))) x y = true) (hno : ∀ j, j ≤ i → cgB l (P ++ Wm.prs l.length ps (rest.take j)) x y = false)
    (hn : (P.length + rest.length + 1) * 8 ≤ 140737488355328) :
    Calls Tryz.prog 180 #[.pointer (some ⟨c.pc, 0, none⟩), .slice a ps.length cp, .slice (some ⟨g, 0, none⟩) rest.length cap, .int .i64 x, .int .i64 y] w fun e w' => e = .returned (.int .i64 (i : Int)) ∧
      ∃ c' : Ks, Cq w' base l c' P ∧ Kept c.All w w' ∧ c'.pc = c.pc ∧ (∀ k, c'.All k → c.All k ∨ w.heap.size ≤ k) := by
  have MK := kMark_in w base l c P h.cl
  have T0 : Tn w w base l ps rest c P c 0 := ⟨by simpa [Wm.prs] using h, Kept.refl _ _, rfl, fun k hk => .inl hk⟩
  have HM : Hid _ := hM
  have HNO : Hid _ := hno
  have HOK : Hid _ := hok
  have HN : Hid ((P.length + rest.length + 1) * 8 ≤ 140737488355328) := hn
  have HY : Hid (cgB l (P ++ Wm.prs l.length ps (rest.take (i + 1))) x y = true) := hy
  clear hM hno hok hn hy
  clear h
  go_enter Tryz.func180, Tryz.ntmps180
  go_wp2_with (go_at_call 224; refine MK.mono ?_; rintro e w2 ⟨rfl, rfl⟩)
  clear MK
  go_loopw [12] (fun t12 W => ∃ (j : Nat) (c' : Ks), j ≤ i + 1 ∧ t12 = .int .i64 ((j : Int) - 1) ∧ Tn w W base l ps rest c P c' j) (fun t12 _ => (i - intOf t12).toNat)
  case atStart => exact ⟨0, c, Nat.zero_le _, rfl, T0⟩
  case round =>
    clear T0
    obtain ⟨j, c', hj, rfl, T⟩ := hrel
    have SM : Calls Tryz.prog 11 #[.pointer (some ⟨c.pc, 0, none⟩), .int .i64 x, .int .i64 y] wr fun e w' => e = .returned (.bool (cgB l (P ++ Wm.prs l.length ps (rest.take j)) x y)) ∧ Kept0 wr w' := by
      rw [← T.pc]
      exact qSame_k wr base l c' _ T.cq.cl x y
    by_cases hj2 : j ≤ i
    · rw [HNO.out j hj2] at SM
      have hx : rest[j]? = some rest[j] := List.getElem?_eq_getElem (by omega)
      have hjl : j < rest.length := by omega
      generalize hrj : rest[j] = n at hx
      clear hrj
      obtain ⟨q, hq⟩ := HOK.out n (List.mem_of_getElem? hx)
      obtain ⟨p, hp, hpo⟩ := Option.bind_eq_some_iff.1 hq
      obtain ⟨hin, _⟩ := okP_some hpo
      have hnl : n < ps.length := (List.getElem?_eq_some_iff.1 hp).1
      have CN : Hid (∀ W, Kept0 wr W → W.cell? ⟨g, j, none⟩ = some (.int .i64 (n : Int))) := fun W K => (HM.out W (T.kept0 K).kept).2 j n hx
      obtain ⟨b, off, rfl, hbl, _, _⟩ := (HM.out wr T.kept).1 n p hp
      have Y : Hid (∀ W, Kept0 wr W → W.cell? ⟨b, off + n * 2, none⟩ = some (.int .i64 p.1) ∧ W.cell? ⟨b, off + n * 2 + 1, none⟩ = some (.int .i64 p.2)) := fun W K => by
        obtain ⟨b', off', he, _, y1, y2⟩ := (HM.out W (T.kept0 K).kept).1 n p hp
        cases he
        exact ⟨y1, y2⟩
      have TM : Hid (∀ W, Kept0 wr W → Calls Tryz.prog 7 #[.pointer (some ⟨c.pc, 0, none⟩), .int .i64 p.1, .int .i64 p.2] W fun e W' => (∃ x, e = .returned (.int .i64 x)) ∧ ∃ c2 : Ks, Tn w W' base l ps rest c P c2 (j + 1)) := fun W K => (T.kept0 K).tell hx hp hin HN.out
      have hjb : rest.length ≤ 17592186044416 := by have := HN.out; omega
      clear hx hq hp hpo hin T
      generalize p.1 = pa at *
      generalize p.2 = pb at *
      go_wp2_with (first | (go_at_call 11; refine SM.mono ?_; rintro e w3 ⟨rfl, K3⟩; have cn := CN.out w3 K3; obtain ⟨y1, y2⟩ := Y.out w3 K3; have TM1 := TM.out (w3.alloc (.cells #[.int .i64 pa, .int .i64 pb] 34)) (K3.alloc _); clear SM) | (go_at_call 7; refine TM1.mono ?_; rintro e w4 ⟨⟨x4, rfl⟩, c4, T4⟩))
      exact ⟨⟨j + 1, c4, by omega, by simp, T4⟩, by simp [intOf]; omega⟩
    · obtain rfl : j = i + 1 := by omega
      rw [HY.out] at SM
      have BK : Hid (∀ W, Kept0 wr W → Calls Tryz.prog 225 #[.pointer (some ⟨c.pc, 0, none⟩), .int .i64 (P.length : Int)] W fun e W' => (∃ x, e = .returned (.bool x)) ∧ ∃ c2 : Ks, Cq W' base l c2 P ∧ Kept c.All w W' ∧ c2.pc = c.pc ∧ (∀ k, c2.All k → c.All k ∨ w.heap.size ≤ k)) := fun W K => (T.kept0 K).back
      have e0 : (((i + 1 : Nat) : Int) - 1) = (i : Int) := by omega
      rw [e0]
      clear T
      go_wp2_with (first | (go_at_call 11; refine SM.mono ?_; rintro e w3 ⟨rfl, K3⟩; have BK1 := BK.out w3 K3) | (go_at_call 225; refine BK1.mono ?_; rintro e w4 ⟨⟨x4, rfl⟩, c4, C4, K4, p4, A4⟩))
      go_ret
      exact ⟨rfl, c4, C4, K4, p4, A4⟩

end Go.Proofs.YtlehlgipbhfioaaGreat

namespace Go.Proofs.YtlehlgipbhfioaaGreat
open Go.RowKit Go.Maps

set_option maxHeartbeats 4000000 in
set_option maxRecDepth 100000 in
theorem enough_in (w : World) (base p : Nat) (ev : Value) (nb fb : Nat) (l : List Tm) (h : Bk w base p ev nb fb l) (hb : Cc.Bd l) (hl : l.length ≤ 150) (a : Option Addr) (cp : Nat) (ps : List (Int × Int)) (hP : Prw w a ps) (hr : ps.length * 16 ≤ 140737488355328) (x y : Int) :
    Calls Tryz.prog 179 #[.pointer (some ⟨p, 0, none⟩), .slice a ps.length cp, .int .i64 x, .int .i64 y] w fun e w' => ∃ (ns : List Nat) (v : Value) (k : Nat), e = .returned (.tuple #[v, .bool (cgB l (Wm.prs l.length ps ns) x y)]) ∧ w'.ownsRow w.heap.size 3 1 v ns.length (natC ns) ∧
      Wm.En l ps k ns ∧ k ≤ ps.length ∧ (cgB l (Wm.prs l.length ps ns) x y = false → k = ps.length) ∧ Kept0 w w' ∧ ns.length ≤ ps.length := by
  have NC := kNew_in w base p ev nb fb l h hb hl
  go_enter Tryz.func179, Tryz.ntmps179
  go_wp2_with (go_at_call 5; refine NC.mono ?_; rintro e w1 ⟨c, rfl, C0, K1⟩)
  have E0 : Eg w w1 l ps c 0 [] (.slice none 0 0) := ⟨C0.fresh, World.ownsRow_nil _ _ _ _, fun j hj => by simp [Value.ownBlock] at hj, Wm.En.start _ _, by simp, K1⟩
  clear NC C0 K1 h
  obtain ⟨i0, hi0, hz0, hz1, hz2⟩ := info_parts infoIntK
  have HR : Hid (ps.length * 16 ≤ 140737488355328) := hr
  have hkb : ps.length ≤ 8796093022208 := by omega
  clear hr
  go_loopw [10, 18] (fun t10 t18 W => ∃ (k : Nat) (c' : Ks) (ns : List Nat), k ≤ ps.length ∧ t18 = .int .i64 (k : Int) ∧ c'.pc = c.pc ∧ Eg w W l ps c' k ns t10) (fun _ t18 _ => ps.length - (intOf t18).toNat)
  case atStart => exact ⟨0, c, [], Nat.zero_le _, rfl, rfl, E0⟩
  case round =>
    clear E0
    obtain ⟨k, c', ns, hk, rfl, hpc, E⟩ := hrel
    obtain ⟨va, vc, hv⟩ := row_form' E.row
    subst hv
    have SXY : ∀ W, Kept0 wr W → Calls Tryz.prog 11 #[.pointer (some ⟨c.pc, 0, none⟩), .int .i64 x, .int .i64 y] W fun e w' => e = .returned (.bool (cgB l (Wm.prs l.length ps ns) x y)) ∧ Kept0 W w' := fun W K => by
      rw [← hpc]
      exact qSame_k W w.heap.size l c' _ (E.cq.cl.kept0 K) x y
    have HXY : Hid _ := SXY
    clear SXY
    by_cases hk2 : k < ps.length
    · have dk : decide ((k : Int) < (ps.length : Int)) = true := decide_eq_true (by omega)
      have hx : ps[k]? = some ps[k] := List.getElem?_eq_getElem hk2
      generalize hok : ps[k] = q at hx
      clear hok
      obtain ⟨b, off, rfl, hbl, y1, y2⟩ := hP.kept0 E.bel k q hx
      have S1 := HXY.out (wr.alloc (.cells #[.int .i64 q.1, .int .i64 q.2] 34)) ((Kept.refl _ wr).alloc _)
      cases hxy : cgB l (Wm.prs l.length ps ns) x y
      · rw [hxy] at S1
        have R1 := made_row wr #[.int .i64 q.1, .int .i64 q.2] 34
        have K1 : Kept0 wr (wr.alloc (.cells #[.int .i64 q.1, .int .i64 q.2] 34)) := (Kept.refl _ wr).alloc _
        have E1 := E.kept0 K1
        have hpr := E.row.lt
        have hfew := E.few
        generalize hw1 : wr.alloc (.cells #[.int .i64 q.1, .int .i64 q.2] 34) = w2 at *
        have Z : Hid (∀ W, Kept0 w2 W → W.cell? ⟨wr.heap.size, 0, none⟩ = some (.int .i64 q.1) ∧ W.cell? ⟨wr.heap.size, 1, none⟩ = some (.int .i64 q.2)) := fun W K => by
          have R2 := R1.of_block (K.block _ R1.lt (fun e => e))
          exact ⟨R2.cell (i := 0) (by simp), R2.cell (i := 1) (by simp)⟩
        have SAB : ∀ W, Kept0 w2 W → Calls Tryz.prog 11 #[.pointer (some ⟨c.pc, 0, none⟩), .int .i64 q.1, .int .i64 q.2] W fun e w' => e = .returned (.bool (cgB l (Wm.prs l.length ps ns) q.1 q.2)) ∧ Kept0 W w' := fun W K => by
          rw [← hpc]
          exact qSame_k _ w.heap.size l c' _ (E1.cq.cl.kept0 K) q.1 q.2
        subst hw1
        cases hab : cgB l (Wm.prs l.length ps ns) q.1 q.2
        · cases hin : inB l.length q.1 && inB l.length q.2
          · have E2 : Hid (∀ W, Kept0 (wr.alloc (.cells #[.int .i64 q.1, .int .i64 q.2] 34)) W → Eg w W l ps c' (k + 1) ns (.slice va ns.length vc)) := fun W K => (E1.kept0 K).skip hx (.inr hin)
            have MG : Hid (∀ W, Kept0 (wr.alloc (.cells #[.int .i64 q.1, .int .i64 q.2] 34)) W → Calls Tryz.prog 7 #[.pointer (some ⟨c.pc, 0, none⟩), .int .i64 q.1, .int .i64 q.2] W fun e w' => e = .returned (.int .i64 7) ∧ W = w') := fun W K => by
              rw [← hpc]
              exact kMerge_no W w.heap.size l c' _ (E1.cq.cl.kept0 K) q.1 q.2 hin
            rw [hab] at SAB
            have SAB1 : Hid _ := SAB
            have HPC : Hid (c'.pc = c.pc) := hpc
            clear E E1 hx hxy hab hpr R1 K1 hpc SAB hin
            generalize q.1 = qa at *
            generalize q.2 = qb at *
            go_wp2_with (first | (go_at_call 11; refine S2.mono ?_; rintro e w4 ⟨rfl, K4⟩; have M4 := MG.out w4 (K3.trans K4); obtain ⟨x1, x2⟩ := Z.out w4 (K3.trans K4)) | (go_at_call 11; refine S1.mono ?_; rintro e w3 ⟨rfl, K3⟩; have S2 := SAB1.out w3 K3; obtain ⟨z1, z2⟩ := Z.out w3 K3; clear S1) | (go_at_call 7; refine M4.mono ?_; rintro e w5 ⟨rfl, rfl⟩))
            exact ⟨⟨k + 1, c', ns, hk2, by simp, HPC.out, E2.out w4 (K3.trans K4)⟩, by simp [intOf]; omega⟩
          · have hk8 : (k + 1) * 8 ≤ 140737488355328 := by have := HR.out; omega
            have MG : Hid (∀ W, Kept0 (wr.alloc (.cells #[.int .i64 q.1, .int .i64 q.2] 34)) W → Calls Tryz.prog 7 #[.pointer (some ⟨c.pc, 0, none⟩), .int .i64 q.1, .int .i64 q.2] W fun e W' => e = .returned (.int .i64 0) ∧ ∃ c2 : Ks, c2.pc = c.pc ∧ Cq W' w.heap.size l c2 (Wm.prs l.length ps (ns ++ [k])) ∧ W'.ownsRow w.heap.size 3 1 (.slice va ns.length vc) ns.length (natC ns) ∧ (∀ j, (Value.slice va ns.length vc).ownBlock = some j → ¬ c2.All j) ∧ Kept0 w W') := fun W K => by
              rw [← hpc]
              exact (E1.kept0 K).tell hx hin hk8
            have NT : Hid (∀ (W wa w1 : World) (c2 : Ks) (v' : Value), Cq W w.heap.size l c2 (Wm.prs l.length ps (ns ++ [k])) → (∀ j, (Value.slice va ns.length vc).ownBlock = some j → ¬ c2.All j) → Kept0 w W → Kept0 W wa → W.ownsRow w.heap.size 3 1 (.slice va ns.length vc) ns.length (natC ns) → w1.ownsRow w.heap.size 3 1 v' (ns.length + 1) (natC ns ++ [.int .i64 (k : Int)]) → wa.grownBy w1 (Value.slice va ns.length vc).ownBlock → (v'.ownBlock = (Value.slice va ns.length vc).ownBlock ∨ ∀ k, v'.ownBlock = some k → wa.heap.size ≤ k) → Eg w w1 l ps c2 (k + 1) (ns ++ [k]) v') := fun W wa w1 c2 v' h1 h2 h3 h4 h5 h6 h7 h8 => Eg.note E1.en E1.few hx hin h1 h2 h3 h4 h5 h6 h7 h8
            rw [hab] at SAB
            have SAB1 : Hid _ := SAB
            clear E E1 hx hxy hab hpr R1 K1 hpc SAB hin hk8
            generalize q.1 = qa at *
            generalize q.2 = qb at *
            go_wp2_with (first | (go_at_call 11; refine S2.mono ?_; rintro e w4 ⟨rfl, K4⟩; have M4 := MG.out w4 (K3.trans K4); obtain ⟨x1, x2⟩ := Z.out w4 (K3.trans K4)) | (go_at_call 11; refine S1.mono ?_; rintro e w3 ⟨rfl, K3⟩; have S2 := SAB1.out w3 K3; obtain ⟨z1, z2⟩ := Z.out w3 K3; clear S1) | (go_at_call 7; refine M4.mono ?_; rintro e w5 ⟨rfl, c2, hc2, C2, R5, F5, K5⟩; replace C2 : Hid _ := C2; replace F5 : Hid _ := F5) | (at_builtin; go_loud (refine wpList_append_here rfl _ _ 39 rfl w.heap.size 3 i0 _ 1 8 Tryz.underlying39 hi0 hz0 hz1 hz2 rfl (by decide) _ _ (natC ns) rfl (R5.alloc _) ⟨w5.heap.size, 0, none⟩ 1 1 [.int .i64 (k : Int)] rfl rfl (by exact one_newD w5 0 _ _) (by simp [Value.oneCell']) (by unfold maxLen; omega) (by omega) (by have := K5.size; simp; omega) ?_; intro v6 w6 hown6 hgr6 hloc6)))
            exact ⟨⟨k + 1, c2, ns ++ [k], hk2, by simp, hc2, NT.out w5 _ w6 c2 v6 C2.out F5.out K5 ((Kept.refl _ w5).alloc _) R5 hown6 hgr6 hloc6⟩, by simp [intOf]; omega⟩
        · have E2 : Hid (∀ W, Kept0 (wr.alloc (.cells #[.int .i64 q.1, .int .i64 q.2] 34)) W → Eg w W l ps c' (k + 1) ns (.slice va ns.length vc)) := fun W K => (E1.kept0 K).skip hx (.inl hab)
          rw [hab] at SAB
          have SAB1 : Hid _ := SAB
          have HPC : Hid (c'.pc = c.pc) := hpc
          clear E E1 hx hxy hab hpr R1 K1 hpc SAB
          generalize q.1 = qa at *
          generalize q.2 = qb at *
          go_wp2_with (first | (go_at_call 11; refine S2.mono ?_; rintro e w4 ⟨rfl, K4⟩) | (go_at_call 11; refine S1.mono ?_; rintro e w3 ⟨rfl, K3⟩; have S2 := SAB1.out w3 K3; obtain ⟨z1, z2⟩ := Z.out w3 K3; clear S1))
          exact ⟨⟨k + 1, c', ns, hk2, by simp, HPC.out, E2.out w4 (K3.trans K4)⟩, by simp [intOf]; omega⟩
      · rw [hxy] at S1
        have HE : Hid _ := E
        have HXY2 : Hid (cgB l (Wm.prs l.length ps ns) x y = true) := hxy
        rw [hxy] at HXY
        clear E hpc hx hxy
        generalize q.1 = qa at *
        generalize q.2 = qb at *
        go_wp2_with (first | (go_at_call 11; refine S2.mono ?_; rintro e w4 ⟨rfl, K4⟩) | (go_at_call 11; refine S1.mono ?_; rintro e w3 ⟨rfl, K3⟩; have KK : Kept0 wr w3 := ((Kept.refl _ wr).alloc _).trans K3; have S2 := HXY.out w3 KK; clear S1))
        go_ret2
        exact ⟨ns, .slice va ns.length vc, k, by rw [HXY2.out]; rfl, (HE.out.kept0 (KK.trans K4)).row, HE.out.en, hk, fun e => (by rw [HXY2.out] at e; cases e), HE.out.bel.trans (KK.trans K4), Nat.le_trans HE.out.few hk⟩
    · have dk : decide ((k : Int) < (ps.length : Int)) = false := decide_eq_false (by omega)
      obtain rfl : k = ps.length := by omega
      have S1 := HXY.out wr (Kept.refl _ wr)
      have HE : Hid _ := E
      clear E hpc
      go_wp2_with (go_at_call 11; refine S1.mono ?_; rintro e w2 ⟨rfl, K2⟩)
      go_ret2
      exact ⟨ns, _, ps.length, rfl, (HE.out.kept0 K2).row, HE.out.en, Nat.le_refl _, fun _ => rfl, HE.out.bel.trans K2, HE.out.few⟩

end Go.Proofs.YtlehlgipbhfioaaGreat

namespace Go.Proofs.YtlehlgipbhfioaaGreat
open Go.RowKit Go.Maps

def slLenW : Value → Nat
  | .slice _ n _ => n
  | _ => 0

/-- A closure, and two rows of numbers apart from it. -/
structure Yz (w W : World) (l : List Tm) (c : Ks) (P : List (Nat × Nat)) (needed rest : List Nat) (nv rv : Value) : Prop where
  cq : Cq W w.heap.size l c P
  nrow : W.ownsRow w.heap.size 3 1 nv needed.length (natC needed)
  rrow : W.ownsRow w.heap.size 3 1 rv rest.length (natC rest)
  farN : ∀ j, nv.ownBlock = some j → ¬ c.All j
  farR : ∀ j, rv.ownBlock = some j → ¬ c.All j
  apart : ∀ j, nv.ownBlock = some j → rv.ownBlock ≠ some j
  bel : Kept0 w W

theorem Yz.moved {w W W' : World} {l : List Tm} {c c' : Ks} {P P' : List (Nat × Nat)} {needed rest : List Nat} {nv rv : Value} (h : Yz w W l c P needed rest nv rv) (K : Kept c.All W W') (hc : Cq W' w.heap.size l c' P') (hA : ∀ k, c'.All k → c.All k ∨ W.heap.size ≤ k) : Yz w W' l c' P' needed rest nv rv := by
  refine ⟨hc, ownsRow_blockC h.nrow (fun j hj => K.block j (h.nrow.lt j hj).2 (h.farN j hj)), ownsRow_blockC h.rrow (fun j hj => K.block j (h.rrow.lt j hj).2 (h.farR j hj)), fun j hj hA' => ?_, fun j hj hA' => ?_, h.apart, h.bel.into K (fun i hi => .inr (h.cq.cl.all_ge hi))⟩
  · rcases hA j hA' with e | e
    · exact h.farN j hj e
    · have := (h.nrow.lt j hj).2; omega
  · rcases hA j hA' with e | e
    · exact h.farR j hj e
    · have := (h.rrow.lt j hj).2; omega
theorem Yz.kept0 {w W W' : World} {l : List Tm} {c : Ks} {P : List (Nat × Nat)} {needed rest : List Nat} {nv rv : Value} (h : Yz w W l c P needed rest nv rv) (K : Kept0 W W') : Yz w W' l c P needed rest nv rv :=
  h.moved (Kept.mono K (fun _ _ e => e.elim)) (h.cq.kept0 K) (fun _ hk => .inl hk)
theorem Yz.cut {w W : World} {l : List Tm} {c : Ks} {P : List (Nat × Nat)} {needed rest : List Nat} {nv : Value} {g cap : Nat} (h : Yz w W l c P needed rest nv (.slice (some ⟨g, 0, none⟩) rest.length cap)) (i : Nat) (hi : i ≤ rest.length) : Yz w W l c P needed (rest.take i) nv (.slice (some ⟨g, 0, none⟩) i cap) := by
  have hr := ownsRow_cut h.rrow rfl hi
  rw [Nat.mul_one] at hr
  have e : (rest.take i).length = i := by rw [List.length_take]; omega
  refine ⟨h.cq, h.nrow, ?_, h.farN, h.farR, h.apart, h.bel⟩
  rw [e]
  have e2 : natC (rest.take i) = (natC rest).take i := by simp [natC, List.map_take]
  rw [e2]
  exact hr
theorem Yz.note {w W wa w1 : World} {l : List Tm} {c : Ks} {P : List (Nat × Nat)} {needed rest : List Nat} {nv rv v' : Value} {n : Nat} (h : Yz w W l c P needed rest nv rv) (K0 : Kept0 W wa)
    (hown : w1.ownsRow w.heap.size 3 1 v' (needed.length + 1) (natC needed ++ [.int .i64 (n : Int)])) (hgrow : wa.grownBy w1 nv.ownBlock) (hloc : v'.ownBlock = nv.ownBlock ∨ ∀ k, v'.ownBlock = some k → wa.heap.size ≤ k) : Yz w w1 l c P (needed ++ [n]) rest v' rv := by
  have K1 : Kept (fun j => nv.ownBlock = some j) W w1 := Kept.grown (Kept.mono K0 (fun _ _ e => e.elim)) hgrow (fun _ e => e)
  refine ⟨⟨h.cq.cl.keep K1 (fun j hj e => h.farN j e hj), h.cq.past⟩, ?_, ownsRow_blockC h.rrow (fun j hj => K1.block j (h.rrow.lt j hj).2 (fun e => h.apart j e hj)), fun j hj hA => ?_, h.farR, fun j hj e2 => ?_, h.bel.into K1 (fun i hi => .inr (h.nrow.lt i hi).1)⟩
  · rw [List.length_append, ← natC_app]
    exact hown
  · rcases hloc with e | e
    · exact h.farN j (e ▸ hj) hA
    · have h1 := e j hj
      have h2 := h.cq.cl.all_lt hA
      have h3 := K0.size
      omega
  · rcases hloc with e | e
    · exact h.apart j (e ▸ hj) e2
    · have h1 := e j hj
      have h2 := (h.rrow.lt j e2).2
      have h3 := K0.size
      omega

/-- The pair with the number n is told. -/
theorem Yz.tell {w W : World} {l : List Tm} {ps : List (Int × Int)} {c : Ks} {needed rest : List Nat} {nv rv : Value} (h : Yz w W l c (Wm.prs l.length ps needed) needed rest nv rv) {n : Nat} {p : Int × Int} (hp : ps[n]? = some p) (hin : (inB l.length p.1 && inB l.length p.2) = true) (hb : (needed.length + 1) * 8 ≤ 140737488355328) :
    Calls Tryz.prog 7 #[.pointer (some ⟨c.pc, 0, none⟩), .int .i64 p.1, .int .i64 p.2] W fun e W' => (∃ x, e = .returned (.int .i64 x)) ∧ ∃ c2 : Ks, c2.pc = c.pc ∧ Yz w W' l c2 (Wm.prs l.length ps (needed ++ [n])) needed rest nv rv := by
  have hq : (ps[n]?).bind (Wm.okP l.length) = some (p.1.toNat, p.2.toNat) := by rw [hp]; simp [Wm.okP, hin]
  have hl := Wm.prs_len l.length ps needed
  refine (qMerge_in W w.heap.size l c _ h.cq p.1 p.2 (by omega)).mono ?_
  rintro e W' ⟨rfl, c2, C2, K, hpc, hA⟩
  refine ⟨⟨_, rfl⟩, c2, hpc, h.moved (Kept.mono K (fun _ _ e => e.all)) ?_ hA⟩
  rw [Wm.prs_snoc hq]
  rw [mergeP, hin, if_pos rfl] at C2
  exact C2

/-- Of which Why answers. -/
structure Fits (l : List Tm) (ps : List (Int × Int)) (x y : Int) (ns : List Nat) : Prop where
  up : ns.Pairwise (· < ·)
  lt : ∀ n, n ∈ ns → n < ps.length
  ok : ∀ n, n ∈ ns → ∃ q, (ps[n]?).bind (Wm.okP l.length) = some q
  fol : cgB l (Wm.prs l.length ps ns) x y = true
  less : ∀ m, m ∈ ns → ∀ xs : List Nat, (∀ k, k ∈ xs → k ∈ ns ∧ k ≠ m) → cgB l (Wm.prs l.length ps xs) x y = false

theorem cgB_fol {l : List Tm} {ps : List (Int × Int)} {x y : Int} (hx : inB l.length x = true) (hy : inB l.length y = true) (ns : List Nat) : cgB l (Wm.prs l.length ps ns) x y = true ↔ Wm.Fol l ps x.toNat y.toNat ns := by
  rw [cgB_iff]
  exact ⟨fun h => h.2.2, fun h => ⟨hx, hy, h⟩⟩
theorem cgB_in {l : List Tm} {P : List (Nat × Nat)} {x y : Int} (h : cgB l P x y = true) : inB l.length x = true ∧ inB l.length y = true := ⟨(cgB_iff.1 h).1, (cgB_iff.1 h).2.1⟩

theorem Fits.of {l : List Tm} {ps : List (Int × Int)} {x y : Int} (hx : inB l.length x = true) (hy : inB l.length y = true) {needed rest : List Nat} (h : Wm.Wy (Wm.Fol l ps x.toNat y.toNat) needed rest) (hok : ∀ n, n ∈ needed → ∃ q, (ps[n]?).bind (Wm.okP l.length) = some q) (hf : cgB l (Wm.prs l.length ps needed) x y = true) : Fits l ps x y needed.reverse := by
  obtain ⟨h1, h2, h3⟩ := h.fin (Wm.fol_mon l ps _ _) ((cgB_fol hx hy _).1 hf)
  have hok' : ∀ n, n ∈ needed.reverse → ∃ q, (ps[n]?).bind (Wm.okP l.length) = some q := fun n hn => hok n (List.mem_reverse.1 hn)
  refine ⟨h1, fun n hn => ?_, hok', (cgB_fol hx hy _).2 h2, fun m hm xs hxs => ?_⟩
  · obtain ⟨q, hq⟩ := hok' n hn
    obtain ⟨p, hp, _⟩ := Option.bind_eq_some_iff.1 hq
    exact (List.getElem?_eq_some_iff.1 hp).1
  · rw [Bool.eq_false_iff]
    exact fun e => h3 m hm xs hxs ((cgB_fol hx hy _).1 e)

/-- By all the pairs, or by those that enough has chosen. -/
theorem enough_all {l : List Tm} {ps : List (Int × Int)} {x y : Int} {k : Nat} {ns : List Nat} (h : Wm.En l ps k ns) (hk : k ≤ ps.length) (hn : cgB l (Wm.prs l.length ps ns) x y = false → k = ps.length) : cgB l (Wm.prs l.length ps ns) x y = cgB l (Wm.prs l.length ps (List.range ps.length)) x y := by
  rw [Bool.eq_iff_iff]
  constructor
  · intro e
    obtain ⟨hx, hy⟩ := cgB_in e
    rw [cgB_fol hx hy] at e ⊢
    exact h.some hk e
  · intro e
    obtain ⟨hx, hy⟩ := cgB_in e
    cases hc : cgB l (Wm.prs l.length ps ns) x y
    · obtain rfl := hn hc
      rw [cgB_fol hx hy] at e
      rw [← hc, cgB_fol hx hy]
      exact (h.fin _ _).2 e
    · rfl

end Go.Proofs.YtlehlgipbhfioaaGreat

namespace Go.Proofs.YtlehlgipbhfioaaGreat
open Go.RowKit Go.Maps

/-- A row of literals, by places. -/
def RowG (W : World) (g n : Nat) (G : Nat → Nat) : Prop := W.heap[g]? = some (.cells ((List.range n).map fun t => i32 (G t)).toArray 192)
theorem RowG.cell {W : World} {g n : Nat} {G : Nat → Nat} (h : RowG W g n G) (t : Nat) (ht : t < n) : W.cell? ⟨g, t, none⟩ = some (.int .i32 (G t : Int)) := by
  unfold RowG at h
  simp only [World.cell?, h]
  simp [ht, i32]
theorem RowG.frozen {W : World} {g n : Nat} {G : Nat → Nat} (h : RowG W g n G) (t : Nat) : W.frozen? ⟨g, t, none⟩ = false := by
  unfold RowG at h
  simp only [World.frozen?, h]
  simp
theorem RowG.drew {W : World} {g n : Nat} {G : Nat → Nat} (h : RowG W g n G) (m : Nat) : RowG (W.drewN m) g n G := h
theorem RowG.below {W W' : World} {g n : Nat} {G : Nat → Nat} (h : RowG W g n G) (hB : Below W.heap.size W W') : RowG W' g n G := (hB.block g (Array.getElem?_eq_some_iff.1 h).1).trans h
theorem RowG.congr {W : World} {g n : Nat} {G H : Nat → Nat} (h : RowG W g n G) (e : ∀ t, t < n → H t = G t) : RowG W g n H := by
  unfold RowG at h ⊢
  rw [h]
  congr 3
  refine List.map_congr_left fun t ht => ?_
  rw [e t (by simpa using ht)]
theorem RowG.set {W : World} {g n : Nat} {G : Nat → Nat} (h : RowG W g n G) (i x : Nat) : RowG (W.setCell ⟨g, i, none⟩ (.int .i32 (x : Int))) g n (fun t => if t = i then x else G t) := by
  have h2 : RowL W g ((List.range n).map G) := by
    unfold RowG at h
    unfold RowL
    rw [h, List.map_map]
    rfl
  have := h2.set i x
  unfold RowL at this
  unfold RowG
  rw [this]
  congr 3
  refine List.ext_getElem? fun t => ?_
  rw [List.getElem?_map, List.getElem?_set, List.getElem?_map]
  by_cases hti : t = i
  · subst hti
    by_cases htn : t < n
    · simp [htn]
    · simp [htn]
  · rw [if_neg (fun e => hti e.symm)]
    by_cases htn : t < n
    · simp [htn, hti]
    · simp [htn]

set_option maxHeartbeats 400000 in
theorem ord2_in (w : World) (g n c a b : Nat) (sw : Option Addr) (G : Nat → Nat) (h : RowG w g n G) (ha : a < n) (hb : b < n) (hab : G a ≤ G b) :
    Calls Tryz.prog 252 #[.slice (some ⟨g, 0, none⟩) n c, .int .i64 (a : Int), .int .i64 (b : Int), .pointer sw] w fun e w' => e = .returned (.tuple #[.int .i64 (a : Int), .int .i64 (b : Int)]) ∧ ∃ m, w' = w.drewN m := by
  have c1 := h.cell a ha
  have c2 := h.cell b hb
  have LS := fun W : World => sLess_in W (G b : Int) (G a : Int)
  have d : decide ((G b : Int) < (G a : Int)) = false := decide_eq_false (by omega)
  have d1 := cast_lt ha
  have d2 := cast_lt hb
  clear h ha hb
  generalize G a = x at *
  generalize G b = y at *
  go_enter Tryz.func252, Tryz.ntmps252
  go_wp2_with fail
  go_quiet ((go_at_call 207; exact Calls.quiet_of_same ((LS _).mono fun _ _ x => ⟨x.1, x.2.symm⟩)))
  go_wp2_with fail
  exact ⟨rfl, .tuple #[.int .i64 (a : Int), .int .i64 (b : Int)], by simp [results, Tryz.results252], rfl, _, rfl⟩

set_option maxHeartbeats 400000 in
theorem med_in (w : World) (g n c a b d : Nat) (sw : Option Addr) (G : Nat → Nat) (h : RowG w g n G) (ha : a < n) (hb : b < n) (hd : d < n) (hab : G a ≤ G b) (hbd : G b ≤ G d) :
    Calls Tryz.prog 239 #[.slice (some ⟨g, 0, none⟩) n c, .int .i64 (a : Int), .int .i64 (b : Int), .int .i64 (d : Int), .pointer sw] w fun e w' => e = .returned (.int .i64 (b : Int)) ∧ ∃ m, w' = w.drewN m := by
  have O1 : ∀ m, _ := fun m => ord2_in (w.drewN m) g n c a b sw G (h.drew m) ha hb hab
  have O2 : ∀ m, _ := fun m => ord2_in (w.drewN m) g n c b d sw G (h.drew m) hb hd hbd
  have H1 : Hid _ := O1
  have H2 : Hid _ := O2
  clear h hab hbd ha hb hd O1 O2
  go_enter Tryz.func239, Tryz.ntmps239
  go_wp2_with (first | (go_at_call 252; refine (H1.out 0).mono ?_; rintro e w1 ⟨rfl, m1, rfl⟩; refine Aside.out ?_))
  delta Aside
  apply_assumption
  go_wp2_with (first | (go_at_call 252; refine (H2.out m1).mono ?_; rintro e w2 ⟨rfl, m2, rfl⟩; refine Aside.out ?_))
  delta Aside
  apply_assumption
  go_wp2_with (first | (go_at_call 252; refine (H1.out (m1 + m2)).mono ?_; rintro e w3 ⟨rfl, m3, rfl⟩))
  go_ret
  exact ⟨rfl, m1 + m2 + m3, by simp⟩

set_option maxHeartbeats 400000 in
theorem medA_in (w : World) (g n c a : Nat) (sw : Option Addr) (G : Nat → Nat) (h : RowG w g n G) (ha : a + 2 < n) (hn : n ≤ 1048576) (h1 : G a ≤ G (a + 1)) (h2 : G (a + 1) ≤ G (a + 2)) :
    Calls Tryz.prog 238 #[.slice (some ⟨g, 0, none⟩) n c, .int .i64 ((a + 1 : Nat) : Int), .pointer sw] w fun e w' => e = .returned (.int .i64 ((a + 1 : Nat) : Int)) ∧ ∃ m, w' = w.drewN m := by
  have M := med_in w g n c a (a + 1) (a + 2) sw G h (by omega) (by omega) ha h1 h2
  have hw1 : IntKind.i64.wrap (((a + 1 : Nat) : Int) - 1) = (a : Int) := by rw [IntKind.wrap_i64]; omega
  have hw2 : IntKind.i64.wrap (((a + 1 : Nat) : Int) + 1) = ((a + 2 : Nat) : Int) := by rw [IntKind.wrap_i64]; omega
  generalize ((a + 1 : Nat) : Int) = p at *
  generalize ((a + 2 : Nat) : Int) = q at *
  clear h ha h1 h2
  go_enter Tryz.func238, Tryz.ntmps238
  go_wp2_with (first | (go_at_call 239; refine M.mono ?_; rintro e w1 ⟨rfl, m1, rfl⟩))
  go_ret
  exact ⟨rfl, m1, rfl⟩

theorem medP_in (w : World) (g n c p : Nat) (sw : Option Addr) (G : Nat → Nat) (h : RowG w g n G) (hp : 1 ≤ p) (ha : p + 1 < n) (hn : n ≤ 1048576) (h1 : G (p - 1) ≤ G p) (h2 : G p ≤ G (p + 1)) :
    Calls Tryz.prog 238 #[.slice (some ⟨g, 0, none⟩) n c, .int .i64 (p : Int), .pointer sw] w fun e w' => e = .returned (.int .i64 (p : Int)) ∧ ∃ m, w' = w.drewN m := by
  obtain ⟨a, rfl⟩ : ∃ a, p = a + 1 := ⟨p - 1, by omega⟩
  exact medA_in w g n c a sw G h (by omega) hn h1 h2
set_option maxRecDepth 100000 in
set_option maxHeartbeats 1000000 in
/-- The pivot of a range whose elements rise, but for the first. -/
theorem choose_in (w : World) (g n c a b : Nat) (G : Nat → Nat) (h : RowG w g n G) (hab : a + 13 ≤ b) (hb : b ≤ n) (hn : n ≤ 1000000) (hr : ∀ s t, a < s → s ≤ t → t < b → G s ≤ G t) :
    Calls Tryz.prog 204 #[.slice (some ⟨g, 0, none⟩) n c, .int .i64 (a : Int), .int .i64 (b : Int)] w fun e w' => e = .returned (.tuple #[.int .i64 ((a + (b - a) / 4 * 2 : Nat) : Int), .int .i64 1]) ∧ Below w.heap.size w w' := by
  obtain ⟨I, hI⟩ : ∃ I : Nat, I = a + (b - a) / 4 * 1 := ⟨_, rfl⟩
  obtain ⟨J, hJ⟩ : ∃ J : Nat, J = a + (b - a) / 4 * 2 := ⟨_, rfl⟩
  obtain ⟨K, hK⟩ : ∃ K : Nat, K = a + (b - a) / 4 * 3 := ⟨_, rfl⟩
  have eI : ((a : Int) + ((b : Int) - (a : Int)) / 4) = (I : Int) := by omega
  have eJ : ((a : Int) + ((b : Int) - (a : Int)) / 4 * 2) = (J : Int) := by omega
  have eK : ((a : Int) + ((b : Int) - (a : Int)) / 4 * 3) = (K : Int) := by omega
  rw [← hJ]
  have h0 : ∀ m, RowG ((w.alloc (.cells #[.int .i64 0] 3)).drewN m) g n G := fun m => RowG.drew (h.below ((Below.refl w.heap.size w).alloc (Nat.le_refl _) _)) m
  have hB : Hid (∀ m, Below w.heap.size w ((w.alloc (.cells #[.int .i64 0] 3)).drewN m)) := fun m => ((Below.refl w.heap.size w).alloc (Nat.le_refl _) _).trans ⟨rfl, rfl, rfl, Nat.le_refl _, fun _ _ => rfl⟩
  have M1 : Hid (∀ m, _) := fun m => medP_in ((w.alloc (.cells #[.int .i64 0] 3)).drewN m) g n c I (some ⟨w.heap.size, 0, none⟩) G (h0 m) (by omega) (by omega) (by omega) (hr _ _ (by omega) (by omega) (by omega)) (hr _ _ (by omega) (by omega) (by omega))
  have M2 : Hid (∀ m, _) := fun m => medP_in ((w.alloc (.cells #[.int .i64 0] 3)).drewN m) g n c J (some ⟨w.heap.size, 0, none⟩) G (h0 m) (by omega) (by omega) (by omega) (hr _ _ (by omega) (by omega) (by omega)) (hr _ _ (by omega) (by omega) (by omega))
  have M3 : Hid (∀ m, _) := fun m => medP_in ((w.alloc (.cells #[.int .i64 0] 3)).drewN m) g n c K (some ⟨w.heap.size, 0, none⟩) G (h0 m) (by omega) (by omega) (by omega) (hr _ _ (by omega) (by omega) (by omega)) (hr _ _ (by omega) (by omega) (by omega))
  have M4 : Hid (∀ m, _) := fun m => med_in ((w.alloc (.cells #[.int .i64 0] 3)).drewN m) g n c I J K (some ⟨w.heap.size, 0, none⟩) G (h0 m) (by omega) (by omega) (by omega) (hr _ _ (by omega) (by omega) (by omega)) (hr _ _ (by omega) (by omega) (by omega))
  have c0 : (w.alloc (.cells #[.int .i64 0] 3)).cell? ⟨w.heap.size, 0, none⟩ = some (.int .i64 0) := by simp
  have h8 : (8 : Int) ≤ (b : Int) - (a : Int) := by omega
  have hwl : IntKind.i64.wrap ((b : Int) - (a : Int)) = (b : Int) - (a : Int) := by rw [IntKind.wrap_i64]; omega
  clear h h0 hI hJ hK hr
  by_cases h50 : (50 : Int) ≤ (b : Int) - (a : Int)
  · go_enter Tryz.func204, Tryz.ntmps204
    go_wp2_with (first | (go_at_call 238; refine (M1.out 0).mono ?_; rintro e w1 ⟨rfl, m1, rfl⟩; refine Aside.out ?_))
    delta Aside
    apply_assumption
    go_wp2_with (first | (go_at_call 238; refine (M2.out m1).mono ?_; rintro e w1 ⟨rfl, m2, rfl⟩; refine Aside.out ?_))
    delta Aside
    apply_assumption
    go_wp2_with (first | (go_at_call 238; refine (M3.out (m1 + m2)).mono ?_; rintro e w1 ⟨rfl, m3, rfl⟩; refine Aside.out ?_))
    delta Aside
    apply_assumption
    go_wp2_with (first | (go_at_call 239; refine (M4.out (m1 + m2 + m3)).mono ?_; rintro e w1 ⟨rfl, m4, rfl⟩))
    exact ⟨rfl, .tuple #[.int .i64 (J : Int), .int .i64 1], by simp [results, Tryz.results204], rfl, (hB.out 0).trans ⟨rfl, rfl, rfl, Nat.le_refl _, fun _ _ => rfl⟩⟩
  · go_enter Tryz.func204, Tryz.ntmps204
    go_wp2_with (first | (go_at_call 239; refine (M4.out 0).mono ?_; rintro e w1 ⟨rfl, m4, rfl⟩))
    exact ⟨rfl, .tuple #[.int .i64 (J : Int), .int .i64 1], by simp [results, Tryz.results204], rfl, (hB.out 0).trans ⟨rfl, rfl, rfl, Nat.le_refl _, fun _ _ => rfl⟩⟩
end Go.Proofs.YtlehlgipbhfioaaGreat
