/- Package sat: slices.Sort of a clause of few literals, or of one whose greatest literal stands first and whose others rise. Package sat: Compact of a rising row; literalsOf. Package sat: check; a clause more in memory. Package decide: ordered, isBelow, rename. Package term: the reader's small functions: skipBlanks, isLetter, isDigit. Package term: name. Package term: the two maps' keys. The plain mathematics of package close: what follows from equalities, by a list of what is to do. No Go here. -/
import Derived.Test.YtlehlgipbhfioaaGreatSbG
import Derived.Test.YtlehlgipbhfioaaGreatP07
import Derived.Test.YtlehlgipbhfioaaGreatP03
import Derived.Test.YtlehlgipbhfioaaGreatP00
import Derived.Laws.Closers25b
import Derived.Maps.OwnSet
import Derived.DeepKeys4
namespace Go.Proofs.YtlehlgipbhfioaaGreat
open Go.RowKit Go.Maps

theorem RowL.places {W : World} {g : Nat} {xs : List Nat} (h : RowL W g xs) : RowG W g xs.length (fun t => xs.getD t 0) := by
  unfold RowL at h
  unfold RowG
  rw [h]
  congr 2
  refine congrArg List.toArray (List.ext_getElem? fun t => ?_)
  by_cases ht : t < xs.length
  · simp [ht]
  · simp [ht]
theorem RowG.list {W : World} {g : Nat} {ys : List Nat} {G : Nat → Nat} (h : RowG W g ys.length G) (e : ∀ t, t < ys.length → G t = ys.getD t 0) : RowL W g ys := by
  unfold RowG at h
  unfold RowL
  rw [h]
  congr 2
  refine congrArg List.toArray (List.ext_getElem? fun t => ?_)
  by_cases ht : t < ys.length
  · simp [ht, e t ht]
  · simp [ht]
theorem shp_g {m : Nat} {r : List Nat} (h1 : r.Pairwise (· < ·)) (h2 : ∀ x ∈ r, x < m) : ShG 0 (m :: r).length (fun t => (m :: r).getD t 0) := by
  refine ⟨fun s t hs hst ht => ?_, fun t ht htb => ?_⟩
  · obtain ⟨s, rfl⟩ : ∃ s', s = s' + 1 := ⟨s - 1, by omega⟩
    obtain ⟨t, rfl⟩ : ∃ t', t = t' + 1 := ⟨t - 1, by omega⟩
    have ht2 : t < r.length := by simpa using ht
    have := List.pairwise_iff_getElem.1 h1 s t (by omega) ht2 (by omega)
    simpa [ht2, show s < r.length by omega] using this
  · obtain ⟨t, rfl⟩ : ∃ t', t = t' + 1 := ⟨t - 1, by omega⟩
    have ht2 : t < r.length := by simpa using htb
    have := h2 r[t] (List.getElem_mem ht2)
    simpa [ht2] using this
theorem rot_list (m : Nat) (r : List Nat) (t : Nat) (ht : t < (r ++ [m]).length) : rotG 0 (m :: r).length (fun t => (m :: r).getD t 0) t = (r ++ [m]).getD t 0 := by
  have h : t < r.length + 1 := by simpa using ht
  unfold rotG
  by_cases e : t < r.length
  · rw [if_pos ⟨Nat.zero_le _, by simp; omega⟩]
    show (m :: r).getD (t + 1) 0 = _
    rw [List.getD_eq_getElem?_getD, List.getD_eq_getElem?_getD, List.getElem?_append_left e, List.getElem?_cons_succ]
  · obtain rfl : t = r.length := by omega
    rw [if_neg (by simp), if_pos ⟨Nat.zero_le _, by simp⟩]
    simp

set_option maxRecDepth 100000 in
set_option maxHeartbeats 1000000 in
theorem sSortG_in (w : World) (g m : Nat) (r : List Nat) (c : Nat) (h : RowL w g (m :: r)) (h1 : r.Pairwise (· < ·)) (h2 : ∀ x ∈ r, x < m) (hn1 : 13 ≤ (m :: r).length) (hn : (m :: r).length ≤ 1000) :
    Calls Tryz.prog 126 #[.slice (some ⟨g, 0, none⟩) (m :: r).length c] w fun e w' => e = .returned (.tuple #[]) ∧ RowL w' g (r ++ [m]) ∧ Kept (fun k => k = g) w w' := by
  have HPD : Hid (∀ lim : Nat, 1 ≤ lim → lim ≤ 100 → Calls Tryz.prog 162 #[.slice (some ⟨g, 0, none⟩) (m :: r).length c, .int .i64 0, .int .i64 ((m :: r).length : Int), .int .i64 (lim : Int)] w fun e w' => e = .returned (.tuple #[]) ∧ RowL w' g (r ++ [m]) ∧ Kept (fun k => k = g) w w') := fun lim l1 l2 => by
    have := pdqG_in ((m :: r).length + 1) w g (m :: r).length c 0 (m :: r).length lim _ (by omega) h.places (Nat.zero_le _) (Nat.le_refl _) (by omega) (shp_g h1 h2) (Or.inl rfl) l1 l2
    refine Calls.mono this ?_
    rintro e w' ⟨rfl, hr, hk⟩
    refine ⟨rfl, RowG.list (ys := r ++ [m]) (G := rotG 0 (m :: r).length (fun t => (m :: r).getD t 0)) ?_ (fun t ht => rot_list m r t ht), hk⟩
    have e : (r ++ [m]).length = (m :: r).length := by simp
    rw [e]
    exact hr
  have LE := len_pos w (m :: r).length hn1 hn
  have HLE : Hid _ := LE
  have hw : IntKind.u64.wrap ((m :: r).length : Int) = ((m :: r).length : Int) := by rw [IntKind.wrap_u64]; omega
  clear h h1 h2 hn1 hn LE
  generalize (m :: r).length = n at *
  go_enter Tryz.func126, Tryz.ntmps126
  go_wp2_with (first | (go_at_call 162; refine (HPD.out _ hk1 hk2).mono ?_; rintro e w3 ⟨rfl, HY⟩) | (go_at_call 145; refine Calls.mono HLE.out ?_; rintro e w3 ⟨k, rfl, hk1, hk2, rfl⟩))
  exact ⟨rfl, .tuple #[], by simp [results, Tryz.results126], rfl, HY⟩

/-- Of either kind. -/
theorem sSort2_in (w : World) (g : Nat) (xs : List Nat) (c : Nat) (h : RowL w g xs) (hn : xs.length ≤ 12 ∨ (xs.length ≤ 1000 ∧ ∃ m r, xs = m :: r ∧ r.Pairwise (· < ·) ∧ ∀ x ∈ r, x < m)) (hc : xs.length ≤ c) :
    Calls Tryz.prog 126 #[.slice (some ⟨g, 0, none⟩) xs.length c] w fun e w' => e = .returned (.tuple #[]) ∧ ∃ ys, RowL w' g ys ∧ ys.Perm xs ∧ ys.Pairwise (· ≤ ·) ∧ Kept (fun k => k = g) w w' := by
  by_cases h12 : xs.length ≤ 12
  · exact sSort_in w g xs c h h12 hc
  · rcases hn with hn | ⟨hn, m, r, rfl, h1, h2⟩
    · exact absurd hn h12
    · refine (sSortG_in w g m r c h h1 h2 (by omega) hn).mono ?_
      rintro e w' ⟨rfl, hr, hk⟩
      refine ⟨rfl, r ++ [m], hr, List.perm_append_singleton m r, List.pairwise_append.2 ⟨h1.imp Nat.le_of_lt, List.pairwise_singleton _ _, fun x hx y hy => ?_⟩, hk⟩
      rw [List.mem_singleton.1 hy]
      exact Nat.le_of_lt (h2 x hx)
end Go.Proofs.YtlehlgipbhfioaaGreat

namespace Go.Proofs.YtlehlgipbhfioaaGreat
open Go.RowKit Go.Maps Go.Sort Go.Lib

theorem RowL.holds {W : World} {g : Nat} {xs : List Nat} (h : RowL W g xs) : Holds (Value.int .i32) W g 0 (xs.map Int.ofNat).toArray := fun j hj => by
  have hj2 : j < xs.length := by simpa using hj
  rw [Nat.zero_add]
  refine ⟨?_, h.frozen j⟩
  rw [h.cell (List.getElem?_eq_getElem hj2)]
  simp [hj2]

theorem RowL.put {W : World} {g : Nat} {xs ys : List Nat} (h : RowL W g xs) (hl : ys.length = xs.length) (q : Nat) : RowL (putRow (Value.int .i32) (Sort.ahead W q) g 0 (ys.map Int.ofNat).toArray) g ys ∧ Kept (fun k => k = g) W (putRow (Value.int .i32) (Sort.ahead W q) g 0 (ys.map Int.ofNat).toArray) := by
  constructor
  · unfold RowL at h ⊢
    unfold putRow mapBlock
    simp only [Sort.ahead, Array.getElem?_modify, h, if_true, Option.map_some, onCells]
    congr 2
    apply Array.ext
    · simp [putCells, hl]
    · intro i h1 h2
      have hi : i < ys.length := by simpa using h2
      simp only [putCells, Array.getElem_mapIdx, Nat.zero_le, Nat.zero_add, Nat.sub_zero, true_and]
      rw [if_pos (by simpa using hi)]
      simp [hi, i32]
  · refine ⟨rfl, rfl, rfl, ?_, fun k _ hk => ?_⟩
    · simp [putRow, mapBlock, Sort.ahead]
    · unfold putRow mapBlock
      simp only [Sort.ahead, Array.getElem?_modify]
      rw [if_neg (fun e => hk e.symm)]

theorem infoLitY : (Tryz.prog.info? 192).map (fun i => (i.zero, i.size, i.bytes)) = some (some (.int .i32 0), 1, 4) := by kernel_rfl
theorem make_lits (w : World) (n : Nat) (hn : n ≤ 1048577) : (Instr.makeSlice 178 (.int .i64 (n : Int)) (.int .i64 (n : Int))).run Tryz.prog w = .ok (.slice (some ⟨w.heap.size, 0, none⟩) n n) (w.alloc (.cells (List.replicate n (.int .i32 0)).toArray 192)) := by
  obtain ⟨i0, hi0, hz0, hz1, hz2⟩ := info_parts infoLitY
  have hmk := run_make (P := Tryz.prog) w 178 192 i0 _ Tryz.underlying178 hi0 hz0 .i64 .i64 (n : Int) (n : Int) (by omega) (Int.le_refl _) (by rw [hz2]; omega) (by omega)
  rw [hz1] at hmk
  simp only [Int.toNat_natCast, Nat.mul_one] at hmk
  rw [← madeCells_one]
  exact hmk

/-- Two strictly rising lists with the same elements are one. -/
theorem rising_eq : ∀ {xs ys : List Nat}, xs.Pairwise (· < ·) → ys.Pairwise (· < ·) → (∀ a, a ∈ xs ↔ a ∈ ys) → xs = ys
  | [], [], _, _, _ => rfl
  | [], y :: ys, _, _, h => by have := (h y).2 (by simp); simp at this
  | x :: xs, [], _, _, h => by have := (h x).1 (by simp); simp at this
  | x :: xs, y :: ys, h1, h2, h => by
    obtain ⟨a1, a2⟩ := List.pairwise_cons.1 h1
    obtain ⟨b1, b2⟩ := List.pairwise_cons.1 h2
    have e : x = y := by
      rcases List.mem_cons.1 ((h x).1 (by simp)) with e | e
      · exact e
      · rcases List.mem_cons.1 ((h y).2 (by simp)) with e2 | e2
        · exact e2.symm
        · have q1 := b1 x e
          have q2 := a1 y e2
          omega
    subst e
    rw [rising_eq a2 b2 (fun a => ⟨fun ha => ?_, fun ha => ?_⟩)]
    · rcases List.mem_cons.1 ((h a).1 (by simp [ha])) with e | e
      · have := a1 a ha; omega
      · exact e
    · rcases List.mem_cons.1 ((h a).2 (by simp [ha])) with e | e
      · have := b1 a ha; omega
      · exact e

/-- Compact of a rising list. -/
theorem compact_rising {xs : List Nat} (h : xs.Pairwise (· ≤ ·)) : ∃ ds : List Nat, compactUpTo (xs.map Int.ofNat).toArray (xs.map Int.ofNat).toArray.size = ds.map Int.ofNat ∧ ds.Pairwise (· < ·) ∧ (∀ a, a ∈ ds ↔ a ∈ xs) ∧ ds.length ≤ xs.length := by
  have hget : ∀ j (hj : j < xs.length), (xs.map Int.ofNat).toArray[j]! = ((xs[j] : Nat) : Int) := fun j hj => by simp [hj]
  have key : ∀ m, m ≤ xs.length → ∃ ds : List Nat, compactUpTo (xs.map Int.ofNat).toArray m = ds.map Int.ofNat ∧ ds.Pairwise (· < ·) ∧ (∀ a, a ∈ ds ↔ a ∈ xs.take m) ∧ ds.length ≤ m := fun m => by
    induction m with
    | zero => intro _; exact ⟨[], by simp [compactUpTo], List.Pairwise.nil, by simp, by simp⟩
    | succ m ih =>
      intro hm
      obtain ⟨ds, e1, e2, e3, e4⟩ := ih (by omega)
      have hml : m < xs.length := by omega
      rw [compactUpTo_succ, e1]
      have htk : ∀ a, a ∈ xs.take (m + 1) ↔ a ∈ xs.take m ∨ a = xs[m] := fun a => by rw [List.take_add_one, List.getElem?_eq_getElem hml, Option.toList_some, List.mem_append, List.mem_singleton]
      by_cases hk : keeps (xs.map Int.ofNat).toArray m = true
      · rw [if_pos hk, hget m hml]
        refine ⟨ds ++ [xs[m]], by simp, ?_, fun a => ?_, by simp; omega⟩
        · rw [List.pairwise_append]
          refine ⟨e2, by simp, fun a ha b hb => ?_⟩
          simp at hb
          subst hb
          have ha2 := (e3 a).1 ha
          obtain ⟨i, hi, rfl⟩ := List.mem_iff_getElem.1 ha2
          have him : i < m := by simp at hi; omega
          simp only [List.getElem_take]
          have hle := List.pairwise_iff_getElem.1 h
          unfold keeps at hk
          have hk := of_decide_eq_true hk
          rcases hk with hk | hk
          · omega
          · rw [hget m hml, hget (m - 1) (by omega)] at hk
            have q1 : xs[i]'(by omega) ≤ xs[m - 1]'(by omega) := by
              by_cases e : i = m - 1
              · subst e; exact Nat.le_refl _
              · exact hle i (m - 1) (by omega) (by omega) (by omega)
            have q2 : xs[m - 1]'(by omega) ≤ xs[m] := hle (m - 1) m (by omega) (by omega) (by omega)
            omega
        · rw [List.mem_append, e3, List.mem_singleton, htk]
      · rw [if_neg hk]
        refine ⟨ds, by simp, e2, fun a => ?_, by omega⟩
        rw [e3, htk]
        refine ⟨Or.inl, fun ha => ha.elim id (fun e => ?_)⟩
        unfold keeps at hk
        simp only [decide_eq_true_eq, not_or, Classical.not_not] at hk
        obtain ⟨hm0, hk⟩ := hk
        rw [hget m hml, hget (m - 1) (by omega)] at hk
        have : xs[m] = xs[m - 1]'(by omega) := by omega
        rw [e, this]
        exact List.mem_iff_getElem.2 ⟨m - 1, by simp; omega, by simp⟩
  obtain ⟨ds, e1, e2, e3, e4⟩ := key xs.length (Nat.le_refl _)
  exact ⟨ds, by simpa using e1, e2, fun a => by rw [e3, List.take_length], e4⟩


theorem sCompact_in (w : World) (g : Nat) (xs : List Nat) (c : Nat) (h : RowL w g xs) (hx : xs.Pairwise (· ≤ ·)) (hn : xs.length ≤ 1048576) (hc : xs.length ≤ c) :
    Calls Tryz.prog 127 #[.slice (some ⟨g, 0, none⟩) xs.length c] w fun e w' => ∃ ds : List Nat, e = .returned (.slice (some ⟨g, 0, none⟩) ds.length c) ∧ ds.Pairwise (· < ·) ∧ (∀ a, a ∈ ds ↔ a ∈ xs) ∧ ds.length ≤ xs.length ∧ RowL w' g (ds ++ List.replicate (xs.length - ds.length) 0) ∧ Kept (fun k => k = g) w w' := by
  obtain ⟨ds, e1, e2, e3, e4⟩ := compact_rising hx
  have C := sCompact0 g c (xs.map Int.ofNat).toArray w h.holds (by simp; omega) (by simpa using hc)
  have hs : (xs.map Int.ofNat).toArray.size = xs.length := by simp
  rw [e1, hs] at C
  refine C.mono ?_
  rintro e w' ⟨rfl, q, rfl⟩
  have hp := h.put (ys := ds ++ List.replicate (xs.length - ds.length) 0) (by simp; omega) q
  have e5 : (ds ++ List.replicate (xs.length - ds.length) 0).map Int.ofNat = ds.map Int.ofNat ++ List.replicate (xs.length - (ds.map Int.ofNat).length) 0 := by simp
  rw [e5] at hp
  exact ⟨ds, by simp, e2, e3, e4, hp.1, hp.2⟩

end Go.Proofs.YtlehlgipbhfioaaGreat
namespace Go.Proofs.YtlehlgipbhfioaaGreat
open Go.RowKit Go.Maps
set_option maxRecDepth 100000 in
set_option maxHeartbeats 1000000 in
theorem litsOf_in (w : World) (ca : Option Addr) (cs : List Int) (cc : Nat) (hcs : ClsAt w ca cs) (hb : ∀ x ∈ cs, x ≠ 0 ∧ x.natAbs ≤ 2000) (hN : cs.length ≤ 12 ∨ (cs.length ≤ 1000 ∧ ∃ m r, cs.map litN = m :: r ∧ r.Pairwise (· < ·) ∧ ∀ x ∈ r, x < m)) :
    Calls Tryz.prog 85 #[.slice ca cs.length cc] w fun e w' => ∃ g c, e = .returned (.slice (some ⟨g, 0, none⟩) (litsN cs).length c) ∧ w.heap.size ≤ g ∧ (litsN cs).length ≤ c ∧ RowL w' g (litsN cs ++ List.replicate (c - (litsN cs).length) 0) ∧ Below w.heap.size w w' := by
  have HN : Hid _ := hN
  have hn : cs.length ≤ 1000 := by
    rcases hN with h | h
    · omega
    · exact h.1
  clear hN
  have m1 : ∀ W : World, _ := fun W => make_lits W cs.length (by omega)
  have hcell : Hid (∀ W : World, Below w.heap.size w W → ∀ (j : Nat) (x : Int), cs[j]? = some x → ∃ b off, ca = some ⟨b, off, none⟩ ∧ W.cell? ⟨b, off + j, none⟩ = some (.int .i64 x)) := fun W hB j x hx => by
    rcases hcs.below hB with e | ⟨b, off, h1, h2⟩
    · rw [e] at hx; simp at hx
    · exact ⟨b, off, h1, h2 j x hx⟩
  have HB : Hid _ := hb
  clear hcs hb
  generalize hln : cs.length = n at *
  have HLN : Hid _ := hln
  clear hln
  go_enter Tryz.func85, Tryz.ntmps85
  go_wp2_with fail
  have V0 : Hid (RowL (w.alloc (Obj.cells (Array.replicate n (Value.int .i32 0)) 192)) w.heap.size ((cs.take 0).map litN ++ List.replicate (n - 0) 0) ∧ Below w.heap.size w (w.alloc (Obj.cells (Array.replicate n (Value.int .i32 0)) 192))) := by
    refine ⟨?_, (Below.refl _ _).alloc (Nat.le_refl _) _⟩
    unfold RowL
    rw [heap_alloc_new]
    simp [i32]
  generalize (w.alloc (Obj.cells (Array.replicate n (Value.int .i32 0)) 192)) = w1 at *
  obtain ⟨g, hg⟩ : ∃ g, w.heap.size = g := ⟨_, rfl⟩
  have hcell := hcell.out
  have V0 := V0.out
  rw [hg] at hcell V0 ⊢
  have HC : Hid _ := hcell
  have HV0 : Hid _ := V0
  have HG : Hid _ := hg
  clear hcell V0 hg m1
  go_loopw [11] (fun t11 W => ∃ i : Nat, i ≤ n ∧ t11 = .int .i64 (i : Int) ∧ Hid (RowL W g ((cs.take i).map litN ++ List.replicate (n - i) 0) ∧ Below g w W)) (fun t11 _ => n - (intOf t11).toNat)
  case atStart => exact ⟨0, Nat.zero_le _, rfl, HV0⟩
  case round =>
    obtain ⟨i, hi, rfl, HV⟩ := hrel
    by_cases hlt : i < n
    · have di : decide ((i : Int) < (n : Int)) = true := decide_eq_true (cast_lt hlt)
      have hic : i < cs.length := by rw [HLN.out]; exact hlt
      obtain ⟨b, off, hca, hc⟩ := HC.out wr HV.out.2 i _ (List.getElem?_eq_getElem hic)
      have hxb := HB.out _ (List.getElem_mem hic)
      have LI := litOf_in wr cs[i] (by omega) (by omega)
      have hlen : ((cs.take i).map litN ++ List.replicate (n - i) 0).length = n := by simp [HLN.out]; omega
      have q1 := HV.out.1.cell (i := i) (List.getElem?_eq_getElem (by rw [hlen]; exact hlt))
      have q2 := HV.out.1.frozen i
      have hwrap := wrap_nat1 (a := i) (by omega)
      have dn := cast_lt hlt
      have hset : Hid (((cs.take i).map litN ++ List.replicate (n - i) 0).set i (litN cs[i]) = (cs.take (i + 1)).map litN ++ List.replicate (n - (i + 1)) 0) := by
        show _ = _
        have e : n - i = (n - (i + 1)) + 1 := by omega
        have hA : ((cs.take i).map litN).length = i := by simp; omega
        rw [List.set_append_right _ _ (by rw [hA]; exact Nat.le_refl _), hA, Nat.sub_self, e, List.replicate_succ, List.set_cons_zero, List.take_add_one, List.getElem?_eq_getElem hic, Option.toList_some, List.map_append, List.append_assoc]
        rfl
      subst hca
      generalize cs[i] = x at *
      generalize (((cs.take i).map litN ++ List.replicate (n - i) 0)[i]'(by rw [hlen]; exact hlt)) = y at *
      clear HV0 hlen
      go_wp2_with (first | (go_at_call 87; refine LI.mono ?_; rintro e w3 ⟨rfl, rfl⟩))
      refine ⟨⟨i + 1, by omega, by simp, ?_, HV.out.2.setCell (p := ⟨g, i, none⟩) (Nat.le_refl _) _⟩, by simp [intOf]; omega⟩
      rw [← hset.out]
      exact HV.out.1.set i (litN x)
    · have di : decide ((i : Int) < (n : Int)) = false := decide_eq_false (by omega)
      have hie : i = n := by omega
      have hrow : RowL wr g (cs.map litN) := by
        have := HV.out.1
        rw [hie, Nat.sub_self, ← HLN.out, List.take_length] at this
        simpa using this
      have hml : (cs.map litN).length = n := by simp [HLN.out]
      have SO := sSort2_in wr g (cs.map litN) n hrow (by rw [hml]; exact HN.out) (by omega)
      rw [hml] at SO
      clear HV0 hrow
      go_wp2_with (first | (go_at_call 126; refine SO.mono ?_; rintro e w3 ⟨rfl, ys, r1, r2, r3, r4⟩; refine Aside.out ?_))
      delta Aside
      have hyl : ys.length = n := by rw [r2.length_eq, hml]
      have CO := sCompact_in w3 g ys n r1 r3 (by omega) (by omega)
      rw [hyl] at CO
      have HR : Hid _ := r2
      have HK : Hid _ := r4
      clear SO r1 r2 r3 r4
      apply_assumption
      go_wp2_with (first | (go_at_call 127; refine CO.mono ?_; rintro e w4 ⟨ds, rfl, e2, e3, e4, e5, e6⟩))
      go_ret
      have hds : ds = litsN cs := rising_eq e2 (litsN_sorted cs) (fun a => by
        rw [e3, HR.out.mem_iff, mem_litsN, List.mem_map])
      rw [← hds]
      refine ⟨g, n, rfl, Nat.le_of_eq HG.out, by omega, e5, ?_⟩
      have k1 := HK.out
      have hgw : g ≤ wr.heap.size := by rw [← HG.out]; exact HV.out.2.size
      rw [HG.out]
      exact HV.out.2.trans ⟨e6.os.trans k1.os, e6.tape.trans k1.tape, e6.output.trans k1.output, Nat.le_trans k1.size e6.size, fun k hk => (e6.block k (Nat.lt_of_lt_of_le (Nat.lt_of_lt_of_le hk hgw) k1.size) (by omega)).trans (k1.block k (Nat.lt_of_lt_of_le hk hgw) (by omega))⟩

end Go.Proofs.YtlehlgipbhfioaaGreat

namespace Go.Proofs.YtlehlgipbhfioaaGreat
open Go.RowKit Go.Maps

theorem wrap_nat8 {a : Nat} (h : a ≤ 100000000) : IntKind.i64.wrap ((a : Int) + 1) = (a : Int) + 1 := by rw [IntKind.wrap_i64]; omega
/-- Clauses in memory. -/
def CssAt (W : World) (ca : Option Addr) (css : List (List Int)) : Prop :=
  css = [] ∨ ∃ b off, ca = some ⟨b, off, none⟩ ∧ ∀ (i : Nat) (cs : List Int), css[i]? = some cs → ∃ ra rc, W.cell? ⟨b, off + i, none⟩ = some (.slice ra cs.length rc) ∧ ClsAt W ra cs
theorem CssAt.below {w w' : World} {ca : Option Addr} {css : List (List Int)} (hB : Below w.heap.size w w') (h : CssAt w ca css) : CssAt w' ca css := by
  rcases h with e | ⟨b, off, h1, h2⟩
  · exact Or.inl e
  · refine Or.inr ⟨b, off, h1, fun i cs hi => ?_⟩
    obtain ⟨ra, rc, h3, h4⟩ := h2 i cs hi
    exact ⟨ra, rc, (hB.cell (World.block_lt_of_cell? w _ h3)).trans h3, h4.below hB⟩
theorem CssAt.drew {w : World} {ca : Option Addr} {css : List (List Int)} (h : CssAt w ca css) (m : Nat) : CssAt (w.drewN m) ca css := h
theorem CssAt.at {W : World} {ca : Option Addr} {css : List (List Int)} (h : CssAt W ca css) {i : Nat} {cs : List Int} (hi : css[i]? = some cs) : ∃ b off ra rc, ca = some ⟨b, off, none⟩ ∧ W.cell? ⟨b, off + i, none⟩ = some (.slice ra cs.length rc) ∧ ClsAt W ra cs := by
  rcases h with e | ⟨b, off, h1, h2⟩
  · rw [e] at hi; simp at hi
  · obtain ⟨ra, rc, h3, h4⟩ := h2 i cs hi
    exact ⟨b, off, ra, rc, h1, h3, h4⟩
theorem ClsAt.at {W : World} {ca : Option Addr} {cs : List Int} (h : ClsAt W ca cs) {i : Nat} {x : Int} (hi : cs[i]? = some x) : ∃ b off, ca = some ⟨b, off, none⟩ ∧ W.cell? ⟨b, off + i, none⟩ = some (.int .i64 x) := by
  rcases h with e | ⟨b, off, h1, h2⟩
  · rw [e] at hi; simp at hi
  · exact ⟨b, off, h1, h2 i x hi⟩

set_option maxRecDepth 100000 in
set_option maxHeartbeats 1000000 in
theorem sCheck_in (w : World) (n : Nat) (hn : n ≤ 2000) (ca : Option Addr) (css : List (List Int)) (cc : Nat) (h : CssAt w ca css) (hcl : css.length ≤ 100000000) (hb : ∀ cs ∈ css, cs.length ≤ 1048576 ∧ ∀ x ∈ cs, x ≠ 0 ∧ x.natAbs ≤ n) :
    Calls Tryz.prog 82 #[.int .i64 (n : Int), .slice ca css.length cc] w fun e w' => e = .returned (.int .i64 0) ∧ ∃ m, w' = w.drewN m := by
  have HC : Hid _ := h
  have HB : Hid _ := hb
  clear h hb
  have d0 : decide ((n : Int) < 0) = false := decide_eq_false (by omega)
  have d1 : decide ((n : Int) > 2000) = false := decide_eq_false (by omega)
  generalize hln : css.length = N at *
  have HLN : Hid _ := hln
  clear hln
  go_enter Tryz.func82, Tryz.ntmps82
  go_wp2_with fail
  have hneg1 : IntKind.i64.wrap (-(n : Int)) = -(n : Int) := by rw [IntKind.wrap_i64]; omega
  have hneg2 : wrap64 (-(n : Int)) = -(n : Int) := by unfold wrap64; omega
  go_loopw [17] (fun t17 W => ∃ i m : Nat, i ≤ N ∧ t17 = .int .i64 (i : Int) ∧ W = w.drewN m) (fun t17 _ => N - (intOf t17).toNat)
  case atStart => exact ⟨0, 0, Nat.zero_le _, rfl, rfl⟩
  case round =>
    obtain ⟨i, m, hi, rfl, rfl⟩ := hrel
    by_cases hlt : i < N
    · have di : decide ((i : Int) < (N : Int)) = true := decide_eq_true (cast_lt hlt)
      have dn := cast_lt hlt
      have hwrap := wrap_nat8 (a := i) (Nat.le_trans hi hcl)
      have hic : i < css.length := by rw [HLN.out]; exact hlt
      obtain ⟨b, off, ra, rc, hca, hc, hcs⟩ := CssAt.at (W := w) (ca := ca) HC.out (List.getElem?_eq_getElem hic)
      have hxb := HB.out _ (List.getElem_mem hic)
      have HCS : Hid _ := hcs
      have HX : Hid _ := hxb
      subst hca
      clear hcs hxb
      generalize css[i] = cs at *
      generalize hL : cs.length = L at *
      have hLl : L ≤ 1048576 := hL ▸ HX.out.1
      have HL : Hid _ := hL
      clear hL
      obtain ⟨w0, hw0⟩ : ∃ w0, w0 = w.drewN m := ⟨_, rfl⟩
      have hc' : (w.drewN m).cell? ⟨b, off + i, none⟩ = some (.slice ra L rc) := hc
      have HCS2 : Hid (ClsAt (w.drewN m) ra cs) := HCS.out
      clear hc HCS hw0 w0
      go_wp2_with fail
      go_loopw [23] (fun t23 W => ∃ j m2 : Nat, j ≤ L ∧ t23 = .int .i64 (j : Int) ∧ W = w.drewN m2) (fun t23 _ => L - (intOf t23).toNat)
      case atStart => exact ⟨0, m, Nat.zero_le _, rfl, rfl⟩
      case round =>
        obtain ⟨j, m2, hj, rfl, rfl⟩ := hrel
        by_cases hjl : j < L
        · have dj : decide ((j : Int) < (L : Int)) = true := decide_eq_true (cast_lt hjl)
          have djn := cast_lt hjl
          have hwrapj := wrap_nat1 (a := j) (Nat.le_trans hj hLl)
          have hjc : j < cs.length := by rw [HL.out]; exact hjl
          obtain ⟨b2, off2, hra, hx⟩ := ClsAt.at HCS2.out (List.getElem?_eq_getElem hjc)
          have hxx := HX.out.2 _ (List.getElem_mem hjc)
          subst hra
          have hx' : (w.drewN m2).cell? ⟨b2, off2 + j, none⟩ = some (.int .i64 cs[j]) := hx
          generalize cs[j] = x at *
          have q1 : (x == 0) = false := by simpa using hxx.1
          have q2 : decide (x > (n : Int)) = false := decide_eq_false (by omega)
          have q3 : decide (x < -(n : Int)) = false := decide_eq_false (by omega)
          have q4 : decide ((n : Int) < x) = false := decide_eq_false (by omega)
          clear hx hxx hc'
          go_wp2_with fail
          exact ⟨⟨j + 1, m2, by omega, by simp, rfl⟩, by simp [intOf]; omega⟩
        · have dj : decide ((j : Int) < (L : Int)) = false := decide_eq_false (by omega)
          clear hc'
          go_wp2_with fail
          exact ⟨⟨i + 1, m2, by omega, by simp, rfl⟩, by simp [intOf]; omega⟩
    · have di : decide ((i : Int) < (N : Int)) = false := decide_eq_false (by omega)
      go_wp2_with fail
      go_ret
      exact ⟨rfl, _, rfl⟩


/-- A clause more lies in memory. -/
def Ad.clause (A : Ad) (c cb g : Nat) (sp : List Value) : Ad := { A with blk := fun r => if r = .clause c then some cb else if r = .crow c then some g else A.blk r, sp := fun r => if r = .crow c then sp else if r = .clause c then [] else A.sp r }

theorem watC_congr {A A' : Ad} : ∀ {L : List (Nat × Nat)}, (∀ p ∈ L, A'.ptr (.clause p.1) = A.ptr (.clause p.1)) → watC A' L = watC A L
  | [], _ => rfl
  | p :: L, h => by
    have ih := watC_congr (A := A) (A' := A') (L := L) (fun q hq => h q (by simp [hq]))
    unfold watC at ih ⊢
    rw [List.flatMap_cons, List.flatMap_cons, ih, h p (by simp)]

theorem Mem.newClause {W : World} {A : Ad} {s : Sv} (h : Mem W A s) (hF : Fit s) {W' : World} {cb g : Nat} {ls : List Nat} {sp : List Value} (hk : ∀ k, A.Foot k → W'.heap[k]? = W.heap[k]?) (hcb : ¬ A.Foot cb) (hg : ¬ A.Foot g) (hne : cb ≠ g)
    (hrow : W'.heap[g]? = some (.cells (ls.map i32 ++ sp).toArray 192)) (hcl : W'.heap[cb]? = some (.cells #[.slice (some ⟨g, 0, none⟩) ls.length (ls.length + sp.length), .int .i64 0, .slice none 0 0, .int .i64 0, .bool false, .bool false] 182)) :
    Mem W' (A.clause s.cl.length cb g sp) (s.more ls) := by
  obtain ⟨c, hc⟩ : ∃ c, c = s.cl.length := ⟨_, rfl⟩
  rw [← hc]
  have hn1 : A.blk (.clause c) = none := by
    cases e : A.blk (.clause c) with
    | none => rfl
    | some b => have := (h.cls c).1 ⟨b, e⟩; omega
  have hn2 : A.blk (.crow c) = none := by
    cases e : A.blk (.crow c) with
    | none => rfl
    | some b => have := (h.rows c).1 ⟨b, e⟩; omega
  have hold : ∀ r, r ≠ .clause c → r ≠ .crow c → (A.clause c cb g sp).blk r = A.blk r ∧ (A.clause c cb g sp).sp r = A.sp r := fun r h1 h2 => ⟨(if_neg h1).trans (if_neg h2), (if_neg h2).trans (if_neg h1)⟩
  have hb1 : (A.clause c cb g sp).blk (.clause c) = some cb := by simp [Ad.clause]
  have hb2 : (A.clause c cb g sp).blk (.crow c) = some g := by simp [Ad.clause]
  have hs2 : (A.clause c cb g sp).sp (.crow c) = sp := by simp [Ad.clause]
  have hslv : ∀ r k z, r ≠ .clause c → r ≠ .crow c → (A.clause c cb g sp).slv r k z = A.slv r k z := fun r k z h1 h2 => by unfold Ad.slv; rw [(hold r h1 h2).1, (hold r h1 h2).2]
  have hlits : ∀ d, (s.more ls).lits d = if d = c then ls else s.lits d := fun d => by rw [hc]; exact lits_more s ls d
  have hwc : ∀ l, watC (A.clause c cb g sp) (s.wat l) = watC A (s.wat l) := fun l => watC_congr (fun p hp => by
    have hlt := (hF.wat l p hp).1
    unfold Ad.ptr
    rw [(hold (.clause p.1) (by intro e; cases e; omega) (by intro e; cases e)).1])
  have hcell : ∀ r, r ≠ .clause c → r ≠ .crow c → cellsR (A.clause c cb g sp) (s.more ls) r = cellsR A s r := by
    intro r h1 h2
    cases r
    case clause d =>
      have hd : d ≠ c := fun e => h1 (by rw [e])
      simp only [cellsR]
      rw [hlits, if_neg hd, hslv _ _ _ (by intro e; cases e) (by intro e; cases e; exact hd rfl)]
    case crow d =>
      have hd : d ≠ c := fun e => h2 (by rw [e])
      simp only [cellsR]
      rw [hlits, if_neg hd, (hold _ h1 h2).2]
    case win l =>
      have : (s.more ls).wat l = s.wat l := rfl
      simp only [cellsR, this, hwc, (hold _ h1 h2).2]
    case wout =>
      simp only [cellsR]
      show s.ws.mapIdx _ = _
      congr 1
    all_goals simp only [cellsR, searchC]
    all_goals first | rfl | skip
    all_goals simp [hslv, hold, Ad.ptr, Sv.more]
  refine ⟨fun r r' b h1 h2 => ?_, fun r b hb => ?_, fun r hr => ?_, fun d => ?_, fun d => ?_, fun l e => ?_, fun e => ?_, fun e => ?_, fun r hr => ?_, fun r hr => ?_, ?_, h.lv, h.lw, h.ls, h.lp, h.small, h.endk⟩
  · have key : ∀ r b, (A.clause c cb g sp).blk r = some b → (r = .clause c ∧ b = cb) ∨ (r = .crow c ∧ b = g) ∨ (A.blk r = some b) := fun r b hb => by
      by_cases e1 : r = .clause c
      · rw [e1, hb1] at hb; cases hb; exact Or.inl ⟨e1, rfl⟩
      · by_cases e2 : r = .crow c
        · rw [e2, hb2] at hb; cases hb; exact Or.inr (Or.inl ⟨e2, rfl⟩)
        · rw [(hold r e1 e2).1] at hb; exact Or.inr (Or.inr hb)
    rcases key r b h1 with ⟨p1, p2⟩ | ⟨p1, p2⟩ | p1 <;> rcases key r' b h2 with ⟨q1, q2⟩ | ⟨q1, q2⟩ | q1
    · rw [p1, q1]
    · exact absurd (p2.symm.trans q2) hne
    · exact absurd ⟨r', p2 ▸ q1⟩ hcb
    · exact absurd (q2.symm.trans p2) hne
    · rw [p1, q1]
    · exact absurd ⟨r', p2 ▸ q1⟩ hg
    · exact absurd ⟨r, q2 ▸ p1⟩ hcb
    · exact absurd ⟨r, q2 ▸ p1⟩ hg
    · exact h.inj _ _ _ p1 q1
  · by_cases e1 : r = .clause c
    · subst e1
      rw [hb1] at hb
      cases hb
      rw [hcl]
      simp only [cellsR, tyR]
      rw [hlits, if_pos rfl]
      simp [Ad.slv, hb2, hs2]
    · by_cases e2 : r = .crow c
      · subst e2
        rw [hb2] at hb
        cases hb
        rw [hrow]
        simp only [cellsR, tyR]
        rw [hlits, if_pos rfl, hs2]
      · rw [(hold r e1 e2).1] at hb
        rw [hcell r e1 e2, hk b ⟨r, hb⟩]
        exact h.has r b hb
  · rw [(hold r (by rintro rfl; cases hr) (by rintro rfl; cases hr)).1]; exact h.fix r hr
  · show _ ↔ d < (s.cl ++ [ls]).length
    by_cases e : d = c
    · exact ⟨fun _ => by rw [e, hc]; simp, fun _ => ⟨cb, by rw [e]; exact hb1⟩⟩
    · rw [(hold (.clause d) (by intro e2; cases e2; exact e rfl) (by intro e2; cases e2)).1, h.cls d]
      simp; omega
  · show _ ↔ d < (s.cl ++ [ls]).length
    by_cases e : d = c
    · exact ⟨fun _ => by rw [e, hc]; simp, fun _ => ⟨g, by rw [e]; exact hb2⟩⟩
    · rw [(hold (.crow d) (by intro e2; cases e2) (by intro e2; cases e2; exact e rfl)).1, h.rows d]
      simp; omega
  · rw [(hold (.win l) (by intro e2; cases e2) (by intro e2; cases e2)).1] at e; exact h.win l e
  · rw [(hold .trail (by intro e2; cases e2) (by intro e2; cases e2)).1] at e; exact h.nil1 e
  · rw [(hold .starts (by intro e2; cases e2) (by intro e2; cases e2)).1] at e; exact h.nil2 e
  · rw [(hold r (by rintro rfl; cases hr) (by rintro rfl; cases hr)).2]; exact h.even r hr
  · rw [(hold r (by rintro rfl; cases hr) (by rintro rfl; cases hr)).2]
    have := h.caps r hr
    cases r <;> first | exact this | cases hr
  · have hf := h.flat
    refine ⟨?_, ?_, ?_, ?_, ?_, ?_, ?_, ?_, ?_⟩
    all_goals rw [(hold _ (by intro e; cases e) (by intro e; cases e)).2]
    · exact hf.1
    · exact hf.2.1
    · exact hf.2.2.1
    · exact hf.2.2.2.1
    · exact hf.2.2.2.2.1
    · exact hf.2.2.2.2.2.1
    · exact hf.2.2.2.2.2.2.1
    · exact hf.2.2.2.2.2.2.2.1
    · exact hf.2.2.2.2.2.2.2.2

end Go.Proofs.YtlehlgipbhfioaaGreat

namespace Go.Proofs.YtlehlgipbhfioaaGreat
open Go.RowKit Go.Maps

set_option maxRecDepth 100000 in
set_option maxHeartbeats 400000 in
theorem below_in (w : World) (a b : Int) : Calls Tryz.prog 116 #[.int .i64 a, .int .i64 b] w fun e w' => e = .returned (.bool (decide (0 ≤ a ∧ a < b))) ∧ w = w' := by
  by_cases h0 : 0 ≤ a
  · have d0 : decide (0 ≤ a) = true := decide_eq_true h0
    go_enter Tryz.func116, Tryz.ntmps116
    go_wp2_with fail
    go_ret
    exact ⟨by simp [h0], rfl⟩
  · have d0 : decide (0 ≤ a) = false := decide_eq_false h0
    go_enter Tryz.func116, Tryz.ntmps116
    go_wp2_with fail
    go_ret
    exact ⟨by simp, rfl⟩

set_option maxRecDepth 100000 in
set_option maxHeartbeats 400000 in
theorem ordered_in (w : World) (a b : Nat) : Calls Tryz.prog 79 #[.int .i64 (a : Int), .int .i64 (b : Int)] w fun e w' => e = .returned (.agg #[.int .i64 (min (a : Int) (b : Int)), .int .i64 (max (a : Int) (b : Int))]) ∧ w' = w.alloc (.cells #[.int .i64 (min (a : Int) (b : Int)), .int .i64 (max (a : Int) (b : Int))] 34) := by
  go_enter Tryz.func79, Tryz.ntmps79
  go_wp2_with fail
  exact ⟨rfl, .agg #[.int .i64 (min (a : Int) (b : Int)), .int .i64 (max (a : Int) (b : Int))], by simp [results, Tryz.results79, go_sem], rfl, rfl⟩

end Go.Proofs.YtlehlgipbhfioaaGreat

namespace Go.Proofs.YtlehlgipbhfioaaGreat
open Go.RowKit

/-- The byte at i; 0 behind the end. -/
def byt (s : ByteArray) (i : Nat) : Nat := if h : i < s.size then (s[i]).toNat else 0
theorem byt_lt {s : ByteArray} {i : Nat} (h : i < s.size) : (s[i]).toNat = byt s i := by simp [byt, h]

/-- Where the blanks from i on end. -/
def bl (s : ByteArray) (i : Nat) : Nat := if h : i < s.size ∧ byt s i = 32 then bl s (i + 1) else i
termination_by s.size - i
decreasing_by omega

theorem bl_at {s : ByteArray} {i : Nat} (h : i < s.size) (hb : byt s i = 32) : bl s i = bl s (i + 1) := by rw [bl]; simp [h, hb]
theorem bl_end {s : ByteArray} {i : Nat} (h : ¬ (i < s.size ∧ byt s i = 32)) : bl s i = i := by rw [bl]; simp [h]
theorem bl_ge (s : ByteArray) (i : Nat) : i ≤ bl s i := by
  induction i using bl.induct s with
  | case1 i h ih => rw [bl_at h.1 h.2]; omega
  | case2 i h => rw [bl_end h]; omega
theorem bl_le {s : ByteArray} {i : Nat} (hi : i ≤ s.size) : bl s i ≤ s.size := by
  induction i using bl.induct s with
  | case1 i h ih => rw [bl_at h.1 h.2]; exact ih (by omega)
  | case2 i h => rw [bl_end h]; exact hi

def readerC (bp : Value) (s : ByteArray) (i : Nat) (j : Nat) : Value := if j = 0 then bp else if j = 1 then .string s else .int .i64 (i : Int)

/-- A reader at block r. -/
structure Rd (w : World) (r : Nat) (bp : Value) (s : ByteArray) (i : Nat) : Prop where
  row : w.rowIs r 86 3 (readerC bp s i)
  le : i ≤ s.size
  small : s.size ≤ 400

theorem Rd.c0 {w : World} {r : Nat} {bp : Value} {s : ByteArray} {i : Nat} (h : Rd w r bp s i) : w.cell? ⟨r, 0, none⟩ = some bp := h.row.cell (by omega)
theorem Rd.c1 {w : World} {r : Nat} {bp : Value} {s : ByteArray} {i : Nat} (h : Rd w r bp s i) : w.cell? ⟨r, 1, none⟩ = some (.string s) := h.row.cell (i := 1) (by omega)
theorem Rd.c2 {w : World} {r : Nat} {bp : Value} {s : ByteArray} {i : Nat} (h : Rd w r bp s i) : w.cell? ⟨r, 2, none⟩ = some (.int .i64 (i : Int)) := h.row.cell (i := 2) (by omega)
theorem Rd.drewN {w : World} {r : Nat} {bp : Value} {s : ByteArray} {i : Nat} (h : Rd w r bp s i) (m : Nat) : Rd (w.drewN m) r bp s i := ⟨h.row, h.le, h.small⟩
theorem Rd.step {w : World} {r : Nat} {bp : Value} {s : ByteArray} {i : Nat} (h : Rd w r bp s i) {k : Nat} (hk : k ≤ s.size) : Rd (w.setCell ⟨r, 2, none⟩ (.int .i64 (k : Int))) r bp s k :=
  ⟨(h.row.set 2 _).congr (fun j hj => by
    rcases (by omega : j = 0 ∨ j = 1 ∨ j = 2) with rfl | rfl | rfl <;> simp [readerC]), hk, h.small⟩

def isLet (c : Nat) : Bool := decide (97 ≤ c ∧ c ≤ 122)
def isDig (c : Nat) : Bool := decide (48 ≤ c ∧ c ≤ 57)
theorem isLet_lt {c : Nat} (h : (c : Int) < 97) : false = isLet c := (decide_eq_false (by omega)).symm
theorem isLet_ge {c : Nat} (h : (97 : Int) ≤ c) : decide ((c : Int) ≤ 122) = isLet c := by
  unfold isLet; exact decide_eq_decide.2 (by omega)
theorem isDig_lt {c : Nat} (h : (c : Int) < 48) : false = isDig c := (decide_eq_false (by omega)).symm
theorem isDig_ge {c : Nat} (h : (48 : Int) ≤ c) : decide ((c : Int) ≤ 57) = isDig c := by
  unfold isDig; exact decide_eq_decide.2 (by omega)

set_option maxHeartbeats 400000 in
theorem letter_any (w : World) (c : Nat) :
    Calls Tryz.prog 149 #[.int .u8 c] w fun e w' => e = .returned (.bool (isLet c)) ∧ w = w' := by
  go_enter Tryz.func149, Tryz.ntmps149
  go_wp2
  · go_ret
    exact ⟨ret_bool (isLet_ge ‹_›), rfl⟩
  · go_ret
    exact ⟨ret_bool (isLet_lt ‹_›), rfl⟩

set_option maxHeartbeats 400000 in
theorem digit_any (w : World) (c : Nat) :
    Calls Tryz.prog 150 #[.int .u8 c] w fun e w' => e = .returned (.bool (isDig c)) ∧ w = w' := by
  go_enter Tryz.func150, Tryz.ntmps150
  go_wp2
  · go_ret
    exact ⟨ret_bool (isDig_ge ‹_›), rfl⟩
  · go_ret
    exact ⟨ret_bool (isDig_lt ‹_›), rfl⟩

set_option maxHeartbeats 400000 in
theorem blanks_in (w : World) (r : Nat) (bp : Value) (s : ByteArray) (i : Nat) (h : Rd w r bp s i) :
    Calls Tryz.prog 58 #[.pointer (some ⟨r, 0, none⟩)] w fun e w' => e = .returned (.tuple #[]) ∧ Rd w' r bp s (bl s i) ∧ Kept1 r w w' := by
  have hs := h.small
  go_enter Tryz.func58, Tryz.ntmps58
  go_wp2
  go_loopw [] (fun W => ∃ k : Nat, Rd W r bp s k ∧ Hid (bl s k = bl s i) ∧ Hid (Kept1 r w W)) (fun W => s.size - (match W.cell? ⟨r, 2, none⟩ with | some v => (intOf v).toNat | none => 0))
  case atStart => exact ⟨i, h, rfl, Kept.refl _ w⟩
  case round =>
    obtain ⟨k, hR, hb, hK⟩ := hrel
    have c1 := hR.c1
    have c2 := hR.c2
    have f2 := hR.row.frozen 2
    have hle := hR.le
    by_cases h1 : k < s.size
    · by_cases h2 : byt s k = 32
      · have d1 : decide ((k : Int) < s.size) = true := decide_eq_true (by omega)
        have e2 : (s[k]).toNat = 32 := (byt_lt h1).trans h2
        go_wp2_with fail
        go_quiet (fail)
        go_wp2_with fail
        refine ⟨⟨k + 1, ?_, (bl_at h1 h2).symm.trans hb, Kept1.set (hK.drewN _) _ _⟩, ?_⟩
        · have := (hR.drewN nq).step (k := k + 1) (by omega)
          simpa using this
        · have hn := ((hR.drewN nq).step (k := k + 1) (by omega)).c2
          have hn' : ((wr.drewN nq).setCell ⟨r, 2, none⟩ (.int .i64 ((k : Int) + 1))).cell? ⟨r, 2, none⟩ = some (.int .i64 ((k : Int) + 1)) := by simpa using hn
          rw [c2, hn']
          simp only [intOf]
          omega
      · have d1 : decide ((k : Int) < s.size) = true := decide_eq_true (by omega)
        have e2 : ¬ (s[k]).toNat = 32 := fun e => h2 ((byt_lt h1).symm.trans e)
        go_wp2_with fail
        go_quiet (fail)
        go_wp2_with fail
        go_end0
        have e : bl s i = k := hb.symm.trans (bl_end (fun x => h2 x.2))
        exact ⟨rfl, e ▸ hR.drewN nq, Kept.drewN hK nq⟩
    · have d1 : decide ((k : Int) < s.size) = false := decide_eq_false (by omega)
      go_wp2_with fail
      go_quiet (fail)
      go_wp2_with fail
      go_end0
      have e : bl s i = k := hb.symm.trans (bl_end (fun x => h1 x.1))
      exact ⟨rfl, e ▸ hR.drewN nq, Kept.drewN hK nq⟩

/-- What refuse panics with. -/
def refusalV (e p : Int) : Value := .iface 134 (.agg #[.int .i64 e, .int .i64 p])

set_option maxHeartbeats 400000 in
theorem refuse_any (w : World) (e p : Int) :
    Calls Tryz.prog 60 #[.int .i64 e, .int .i64 p] w fun x w' => x = .panicked [{ v := refusalV e p, recovered := false }] ∧ w = w' := by
  go_enter Tryz.func60, Tryz.ntmps60
  go_wp2
  exact ⟨rfl, rfl, rfl⟩

/-- Does c stand at i? -/
def stands (s : ByteArray) (i c : Nat) : Bool := decide (i < s.size ∧ byt s i = c)
/-- Where it goes on behind it. -/
def behind (s : ByteArray) (i c : Nat) : Nat := if stands s i c then bl s (i + 1) else i
theorem stands_true {s : ByteArray} {i c : Nat} (h : i < s.size) (hb : byt s i = c) : stands s i c = true := decide_eq_true ⟨h, hb⟩
theorem stands_ne {s : ByteArray} {i c : Nat} (hb : ¬ byt s i = c) : stands s i c = false := decide_eq_false fun x => hb x.2
theorem stands_end {s : ByteArray} {i c : Nat} (h : ¬ i < s.size) : stands s i c = false := decide_eq_false fun x => h x.1
theorem behind_true {s : ByteArray} {i c : Nat} (h : stands s i c = true) : behind s i c = bl s (i + 1) := by simp [behind, h]
theorem behind_false {s : ByteArray} {i c : Nat} (h : stands s i c = false) : behind s i c = i := by simp [behind, h]

set_option maxHeartbeats 400000 in
theorem sign_in (w : World) (r : Nat) (bp : Value) (s : ByteArray) (i : Nat) (h : Rd w r bp s i) (c : Nat) :
    Calls Tryz.prog 102 #[.pointer (some ⟨r, 0, none⟩), .int .u8 c] w fun e w' =>
      e = .returned (.bool (stands s i c)) ∧ Rd w' r bp s (behind s i c) ∧ Kept1 r w w' := by
  have hs := h.small
  have c1 := h.c1
  have c2 := h.c2
  have f2 := h.row.frozen 2
  have hle := h.le
  go_enter Tryz.func102, Tryz.ntmps102
  by_cases h1 : i < s.size
  · have d2 : ¬ ((i : Int) = s.size) := by omega
    by_cases h2 : byt s i = c
    · have e2 : (s[i]).toNat = c := (byt_lt h1).trans h2
      have hst := stands_true h1 h2
      go_wp2_with fail
      go_quiet (fail)
      go_wp2_with (go_at_call 58; refine (blanks_in _ _ _ _ _ (Rd.step (Rd.drewN h nq) (k := i + 1) (by omega))).mono ?_; rintro e w2 ⟨rfl, hR, hK⟩)
      go_ret
      exact ⟨ret_bool (stands_true h1 h2).symm, by rw [behind_true (stands_true h1 h2)]; exact hR, Kept.trans (Kept1.set (Kept.drewN (Kept.refl _ w) nq) _ _) hK⟩
    · have e2 : ¬ (s[i]).toNat = c := fun e => h2 ((byt_lt h1).symm.trans e)
      have e3 : (((s[i]).toNat : Int) != (c : Int)) = true := by simp; omega
      have e4 : ((i : Int) == (s.size : Int)) = false := by simp; omega
      have hst := stands_ne h2
      go_wp2_with fail
      go_quiet (fail)
      go_wp2_with fail
      go_ret
      exact ⟨ret_bool (stands_ne h2).symm, by rw [behind_false (stands_ne h2)]; exact h.drewN nq, Kept.drewN (Kept.refl _ w) nq⟩
  · have d2 : (i : Int) = s.size := by omega
    have hst : stands s i c = false := stands_end h1
    go_wp2_with fail
    go_quiet (fail)
    go_wp2_with fail
    go_ret
    exact ⟨ret_bool (stands_end h1).symm, by rw [behind_false (stands_end h1)]; exact h.drewN nq, Kept.drewN (Kept.refl _ w) nq⟩

end Go.Proofs.YtlehlgipbhfioaaGreat

namespace Go.Proofs.YtlehlgipbhfioaaGreat
open Go.RowKit

def isNm (c : Nat) : Bool := isLet c || isDig c
/-- Where the letters and digits from i on end. -/
def nmE (s : ByteArray) (i : Nat) : Nat := if h : i < s.size ∧ isNm (byt s i) = true then nmE s (i + 1) else i
termination_by s.size - i
decreasing_by omega
theorem nmE_at {s : ByteArray} {i : Nat} (h : i < s.size) (hb : isNm (byt s i) = true) : nmE s i = nmE s (i + 1) := by rw [nmE]; simp [h, hb]
theorem nmE_end {s : ByteArray} {i : Nat} (h : ¬ (i < s.size ∧ isNm (byt s i) = true)) : nmE s i = i := by rw [nmE]; simp [h]
theorem nmE_ge (s : ByteArray) (i : Nat) : i ≤ nmE s i := by
  induction i using nmE.induct s with
  | case1 i h ih => rw [nmE_at h.1 h.2]; omega
  | case2 i h => rw [nmE_end h]; omega
theorem nmE_le {s : ByteArray} {i : Nat} (hi : i ≤ s.size) : nmE s i ≤ s.size := by
  induction i using nmE.induct s with
  | case1 i h ih => rw [nmE_at h.1 h.2]; exact ih (by omega)
  | case2 i h => rw [nmE_end h]; exact hi

/-- No name stands at i. -/
def badNm (s : ByteArray) (i : Nat) : Bool := decide (nmE s i = i) || decide (6 < nmE s i - i) || isDig (byt s i)

theorem ext_size {s : ByteArray} {i k : Nat} (h : i ≤ k) (hk : k ≤ s.size) : (s.extract i k).size = k - i := by simp [ByteArray.size_extract]; omega
theorem ext0 {s : ByteArray} {i k : Nat} (h : i < k) (hk : k ≤ s.size) (hz : 0 < (s.extract i k).size) : (s.extract i k)[0] = s[i] := by simp [ByteArray.getElem_extract]
theorem ext_nil {s : ByteArray} {i k : Nat} (h : i ≤ k) (hk : k ≤ s.size) : (s.extract i k).toList = [] ↔ i = k := by
  rw [toList_nil_iff_emptyBytes, ByteArray.extract_eq_empty_iff]; omega

def NamePost (w : World) (r : Nat) (bp : Value) (s : ByteArray) (i : Nat) (e : Ending) (w' : World) : Prop :=
  Kept1 r w w' ∧ ((badNm s i = true ∧ e = .panicked [{ v := refusalV 2 i, recovered := false }] ∧ ∃ k, Rd w' r bp s k) ∨
    (badNm s i = false ∧ e = .returned (.string (s.extract i (nmE s i))) ∧ Rd w' r bp s (bl s (nmE s i))))

set_option maxHeartbeats 2000000 in
theorem name_in (w : World) (r : Nat) (bp : Value) (s : ByteArray) (i : Nat) (h : Rd w r bp s i) :
    Calls Tryz.prog 101 #[.pointer (some ⟨r, 0, none⟩)] w (NamePost w r bp s i) := by
  have hs := h.small
  have c2 := h.c2
  go_enter Tryz.func101, Tryz.ntmps101
  go_wp2
  go_loopw [] (fun W => ∃ k : Nat, Rd W r bp s k ∧ Hid (nmE s k = nmE s i) ∧ Hid (Kept1 r w W)) (fun W => s.size - (match W.cell? ⟨r, 2, none⟩ with | some v => (intOf v).toNat | none => 0))
  case atStart => exact ⟨i, h, rfl, Kept.refl _ w⟩
  case round =>
    obtain ⟨k, hR, hb, hK⟩ := hrel
    have c1 := hR.c1
    clear c2
    have c2 := hR.c2
    have f2 := hR.row.frozen 2
    have hle := hR.le
    by_cases h1 : k < s.size
    · have d1 : decide ((k : Int) < s.size) = true := decide_eq_true (by omega)
      have LET : ∀ m, Calls Tryz.prog 149 #[.int .u8 ((s[k]).toNat : Nat)] (wr.drewN m) fun e w' => e = .returned (.bool (isLet (byt s k))) ∧ w' = wr.drewN m := fun m => (letter_any _ _).mono fun _ _ x => ⟨by rw [x.1, byt_lt h1], x.2.symm⟩
      have DIG : ∀ m, Calls Tryz.prog 150 #[.int .u8 ((s[k]).toNat : Nat)] (wr.drewN m) fun e w' => e = .returned (.bool (isDig (byt s k))) ∧ w' = wr.drewN m := fun m => (digit_any _ _).mono fun _ _ x => ⟨by rw [x.1, byt_lt h1], x.2.symm⟩
      cases hl : isLet (byt s k) with
      | true =>
        rw [hl] at LET
        have hn : isNm (byt s k) = true := by simp [isNm, hl]
        go_wp2_with fail
        go_quiet ((go_at_call 149; exact Calls.quiet_of_same (LET _)))
        go_wp2_with fail
        refine ⟨⟨k + 1, ?_, (nmE_at h1 hn).symm.trans hb, Kept1.set (hK.drewN _) _ _⟩, ?_⟩
        · have := (hR.drewN nq).step (k := k + 1) (by omega)
          simpa using this
        · have hn := ((hR.drewN nq).step (k := k + 1) (by omega)).c2
          have hn' : ((wr.drewN nq).setCell ⟨r, 2, none⟩ (.int .i64 ((k : Int) + 1))).cell? ⟨r, 2, none⟩ = some (.int .i64 ((k : Int) + 1)) := by simpa using hn
          rw [c2, hn']
          simp only [intOf]
          omega
      | false =>
        rw [hl] at LET
        cases hd : isDig (byt s k) with
        | true =>
          rw [hd] at DIG
          have hn : isNm (byt s k) = true := by simp [isNm, hd]
          go_wp2_with fail
          go_quiet ((first | (go_at_call 149; exact Calls.quiet_of_same (LET _)) | (go_at_call 150; exact Calls.quiet_of_same (DIG _))))
          go_wp2_with fail
          refine ⟨⟨k + 1, ?_, (nmE_at h1 hn).symm.trans hb, Kept1.set (hK.drewN _) _ _⟩, ?_⟩
          · have := (hR.drewN nq).step (k := k + 1) (by omega)
            simpa using this
          · have hn := ((hR.drewN nq).step (k := k + 1) (by omega)).c2
            have hn' : ((wr.drewN nq).setCell ⟨r, 2, none⟩ (.int .i64 ((k : Int) + 1))).cell? ⟨r, 2, none⟩ = some (.int .i64 ((k : Int) + 1)) := by simpa using hn
            rw [c2, hn']
            simp only [intOf]
            omega
        | false =>
          rw [hd] at DIG
          have hn : isNm (byt s k) = false := by simp [isNm, hl, hd]
          go_wp2_with fail
          go_quiet ((first | (go_at_call 149; exact Calls.quiet_of_same (LET _)) | (go_at_call 150; exact Calls.quiet_of_same (DIG _))))
          go_wp2_with fail
          have hE : nmE s i = k := hb.symm.trans (nmE_end (fun x => by have := x.2; rw [hn] at this; cases this))
          clear LET DIG
          have hik : i ≤ k := hE ▸ nmE_ge s i
          have c1' := (hR.drewN nq).c1
          have c2' := (hR.drewN nq).c2
          have hKn : ∀ m, Kept1 r w (wr.drewN m) := fun m => Kept.drewN hK m
          have hRn := hR.drewN
          have hz := ext_size hik hR.le
          have hnil := ext_nil hik hR.le
          clear hb hK hR
          by_cases hA : i = k
          · subst hA
            have hbad : badNm s i = true := by rw [badNm, hE]; simp
            have hn0 := hnil.2 rfl
            clear hnil
            go_quiet (fail)
            go_wp2_with (go_at_call 60; refine (refuse_any _ _ _).mono ?_; rintro e w2 ⟨rfl, rfl⟩)
            exact ⟨rfl, hKn _, Or.inl ⟨hbad, rfl, _, hRn _⟩⟩
          · have hn0 : ¬ (s.extract i k).toList = [] := fun x => hA (hnil.1 x)
            clear hnil
            have hz0 : 0 < (s.extract i k).size := by omega
            have hx0 : ∀ h : 0 < (s.extract i k).size, ((s.extract i k)[0]'h).toNat = byt s i := fun h => by rw [ext0 (by omega) hle h]; exact byt_lt (by omega)
            by_cases hB : 6 < k - i
            · have hbad : badNm s i = true := by simp [badNm, hE, hB]
              have hB' : decide ((6 : Int) < (s.extract i k).size) = true := decide_eq_true (by omega)
              have hB2 : (6 : Int) < (s.extract i k).size := by omega
              go_quiet (fail)
              go_wp2_with (go_at_call 60; refine (refuse_any _ _ _).mono ?_; rintro e w2 ⟨rfl, rfl⟩)
              exact ⟨rfl, hKn _, Or.inl ⟨hbad, rfl, _, hRn _⟩⟩
            · have hB2 : ¬ (6 : Int) < (s.extract i k).size := by omega
              cases hC : isDig (byt s i) with
              | true =>
                have hbad : badNm s i = true := by simp [badNm, hC]
                go_quiet (fail)
                have hNm : ∃ N, s.extract i k = N := ⟨_, rfl⟩
                obtain ⟨N, hNm⟩ := hNm
                rw [hNm] at hz hn0 hz0 hx0 hB2 ⊢
                go_wp2_with (first | (go_at_call 150; refine (digit_any _ _).mono ?_; rintro e w2 ⟨he, rfl⟩; rw [hC] at he; subst he) | (go_at_call 60; refine (refuse_any _ _ _).mono ?_; rintro e w2 ⟨rfl, rfl⟩))
                exact ⟨rfl, hKn _, Or.inl ⟨hbad, rfl, _, hRn _⟩⟩
              | false =>
                have hbad : badNm s i = false := by simp [badNm, hE, hC]; omega
                have hem : (s.extract i k).toList.isEmpty = false := by cases hq : (s.extract i k).toList with | nil => exact absurd hq hn0 | cons a l => rfl
                have hB3 : ¬ (6 : Int) < ((k - i : Nat) : Int) := by omega
                go_quiet (fail)
                have hNm : ∃ N, s.extract i k = N := ⟨_, rfl⟩
                obtain ⟨N, hNm⟩ := hNm
                rw [hNm] at hz hn0 hz0 hx0 hB2 hem ⊢
                go_wp2_with (first | (go_at_call 150; refine (digit_any _ _).mono ?_; rintro e w2 ⟨he, rfl⟩; rw [hC] at he; subst he) | (go_at_call 58; refine (blanks_in _ _ _ _ _ (hRn _)).mono ?_; rintro e w2 ⟨rfl, hR2, hK2⟩))
                go_ret
                refine ⟨Kept.trans (hKn _) hK2, Or.inr ⟨hbad, ?_, by rw [hE]; exact hR2⟩⟩
                rw [hE, hNm]; rfl
    · have d1 : decide ((k : Int) < s.size) = false := decide_eq_false (by omega)
      go_wp2_with fail
      go_quiet (fail)
      go_wp2_with fail
      have hE : nmE s i = k := hb.symm.trans (nmE_end (fun x => h1 x.1))
      have hik : i ≤ k := hE ▸ nmE_ge s i
      have c1' := (hR.drewN nq).c1
      have c2' := (hR.drewN nq).c2
      have hKn : ∀ m, Kept1 r w (wr.drewN m) := fun m => Kept.drewN hK m
      have hRn := hR.drewN
      have hz := ext_size hik hR.le
      have hnil := ext_nil hik hR.le
      clear hb hK hR
      by_cases hA : i = k
      · subst hA
        have hbad : badNm s i = true := by rw [badNm, hE]; simp
        have hn0 := hnil.2 rfl
        clear hnil
        go_quiet (fail)
        go_wp2_with (go_at_call 60; refine (refuse_any _ _ _).mono ?_; rintro e w2 ⟨rfl, rfl⟩)
        exact ⟨rfl, hKn _, Or.inl ⟨hbad, rfl, _, hRn _⟩⟩
      · have hn0 : ¬ (s.extract i k).toList = [] := fun x => hA (hnil.1 x)
        clear hnil
        have hz0 : 0 < (s.extract i k).size := by omega
        have hx0 : ∀ h : 0 < (s.extract i k).size, ((s.extract i k)[0]'h).toNat = byt s i := fun h => by rw [ext0 (by omega) hle h]; exact byt_lt (by omega)
        by_cases hB : 6 < k - i
        · have hbad : badNm s i = true := by simp [badNm, hE, hB]
          have hB' : decide ((6 : Int) < (s.extract i k).size) = true := decide_eq_true (by omega)
          have hB2 : (6 : Int) < (s.extract i k).size := by omega
          go_quiet (fail)
          go_wp2_with (go_at_call 60; refine (refuse_any _ _ _).mono ?_; rintro e w2 ⟨rfl, rfl⟩)
          exact ⟨rfl, hKn _, Or.inl ⟨hbad, rfl, _, hRn _⟩⟩
        · have hB2 : ¬ (6 : Int) < (s.extract i k).size := by omega
          cases hC : isDig (byt s i) with
          | true =>
            have hbad : badNm s i = true := by simp [badNm, hC]
            go_quiet (fail)
            have hNm : ∃ N, s.extract i k = N := ⟨_, rfl⟩
            obtain ⟨N, hNm⟩ := hNm
            rw [hNm] at hz hn0 hz0 hx0 hB2 ⊢
            go_wp2_with (first | (go_at_call 150; refine (digit_any _ _).mono ?_; rintro e w2 ⟨he, rfl⟩; rw [hC] at he; subst he) | (go_at_call 60; refine (refuse_any _ _ _).mono ?_; rintro e w2 ⟨rfl, rfl⟩))
            exact ⟨rfl, hKn _, Or.inl ⟨hbad, rfl, _, hRn _⟩⟩
          | false =>
            have hbad : badNm s i = false := by simp [badNm, hE, hC]; omega
            have hem : (s.extract i k).toList.isEmpty = false := by cases hq : (s.extract i k).toList with | nil => exact absurd hq hn0 | cons a l => rfl
            have hB3 : ¬ (6 : Int) < ((k - i : Nat) : Int) := by omega
            go_quiet (fail)
            have hNm : ∃ N, s.extract i k = N := ⟨_, rfl⟩
            obtain ⟨N, hNm⟩ := hNm
            rw [hNm] at hz hn0 hz0 hx0 hB2 hem ⊢
            go_wp2_with (first | (go_at_call 150; refine (digit_any _ _).mono ?_; rintro e w2 ⟨he, rfl⟩; rw [hC] at he; subst he) | (go_at_call 58; refine (blanks_in _ _ _ _ _ (hRn _)).mono ?_; rintro e w2 ⟨rfl, hR2, hK2⟩))
            go_ret
            refine ⟨Kept.trans (hKn _) hK2, Or.inr ⟨hbad, ?_, by rw [hE]; exact hR2⟩⟩
            rw [hE, hNm]; rfl

end Go.Proofs.YtlehlgipbhfioaaGreat

namespace Go.Proofs.YtlehlgipbhfioaaGreat
open Go.RowKit Go.Maps

theorem tLaid : laidOutB Tryz.prog = true := by kernel_rfl
theorem tRow : (152 : TypeId) < Tryz.prog.types.size := of_decide_eq_true (by kernel_rfl)
theorem tCells : Tryz.prog.cellsOf 152 = 6 := by kernel_rfl
theorem tCells4 : Tryz.prog.cellsOf 96 = 4 := by kernel_rfl
theorem tCellsI : Tryz.prog.cellsOf 3 = 1 := by kernel_rfl
theorem tCellsS : Tryz.prog.cellsOf 9 = 1 := by kernel_rfl
theorem tKeyType : Tryz.prog.keyType 152 = true := by kernel_rfl
theorem tKeyAt : Tryz.prog.keyTypeAt 3 152 = true := by kernel_rfl
theorem tLaw : Keyed Tryz.prog 152 := Keyed.of_law (deep_law_laid tLaid (m := 3) (by omega) tRow tKeyAt (by rw [Tryz.underlying152]))
theorem sLaw : Keyed Tryz.prog 9 := string_keyed Tryz.underlying9
theorem zeroI (w : World) : (zeroValue 3).run Tryz.prog w = .ok (.int .i64 0) w := by kernel_rfl

/-- A term of a bank. -/
structure Tm where
  name : ByteArray
  args : List Nat
deriving DecidableEq

/-- Arg i as the program keeps it: 0 behind the last one. -/
def Tm.arg (t : Tm) (i : Nat) : Nat := t.args.getD i 0

def entryL (t : Tm) : List Value := [.string t.name, .int .i64 (t.args.length : Int), .int .i64 (t.arg 0 : Int), .int .i64 (t.arg 1 : Int), .int .i64 (t.arg 2 : Int), .int .i64 (t.arg 3 : Int)]
def entryV (t : Tm) : Value := .agg (entryL t).toArray

structure Tm.ok (t : Tm) : Prop where
  name : t.name.size ≤ 6
  args : t.args.length ≤ 4
  small : ∀ a ∈ t.args, a < 1000

theorem Tm.ok.arg {t : Tm} (h : t.ok) (i : Nat) : t.arg i < 1000 := by
  unfold Tm.arg
  rw [List.getD_eq_getElem?_getD]
  cases e : t.args[i]? with
  | none => simp
  | some a => simpa using h.small a (List.mem_of_getElem? e)

theorem wf64 {a : Nat} (h : a < 100000) : (Lit.int .i64 (a : Int)).wf = true := WalkArith.wf_i64 (by omega)

theorem entry_formed (t : Tm) : (entryV t).formed Tryz.prog 152 = true := by simp [entryV, entryL, Value.formed, Tryz.underlying152, tCells]

theorem entry_key (t : Tm) (h : t.ok) : ∃ kl, keyOf Tryz.prog 152 (entryV t) = some kl := by
  have h0 : t.name.size ≤ maxLen := Nat.le_trans h.name (by decide)
  have h1 : (Lit.int .i64 (t.args.length : Int)).wf = true := wf64 (by have := h.args; omega)
  have g0 : (Lit.int .i64 (t.arg 0 : Int)).wf = true := wf64 (by have := h.arg 0; omega)
  have g1 : (Lit.int .i64 (t.arg 1 : Int)).wf = true := wf64 (by have := h.arg 1; omega)
  have g2 : (Lit.int .i64 (t.arg 2 : Int)).wf = true := wf64 (by have := h.arg 2; omega)
  have g3 : (Lit.int .i64 (t.arg 3 : Int)).wf = true := wf64 (by have := h.arg 3; omega)
  unfold keyOf
  rw [Tryz.underlying152]
  simp only [tKeyType, entry_formed]
  obtain ⟨m, hm⟩ : ∃ m, Tryz.prog.types.size + 1 = m + 3 := ⟨Tryz.prog.types.size - 2, by have h9 := tRow; generalize Tryz.prog.types.size = z at h9 ⊢; exact (by have h8 : 3 ≤ z := Nat.le_trans (by decide) (Nat.le_of_lt h9); omega)⟩
  rw [hm]
  have hr : List.range 4 = [0, 1, 2, 3] := rfl
  simp [Program.keyLits, Tryz.underlying152, Tryz.underlying96, Tryz.underlying3, Tryz.underlying9, tCells, tCells4, tCellsI, tCellsS, entryV, entryL, Value.cells, hr, h0, h1, g0, g1, g2, g3]

end Go.Proofs.YtlehlgipbhfioaaGreat

namespace Go.Proofs.YtlehlgipbhfioaaGreat.Cc

/-- What a bank's list keeps to. -/
structure Bd (l : List Tm) : Prop where
  args : ∀ (n : Nat) (t : Tm), l[n]? = some t → ∀ a ∈ t.args, a < l.length
  four : ∀ t ∈ l, t.args.length ≤ 4
  one : ∀ t ∈ l, ∀ u ∈ l, t.name = u.name → t.args.length = u.args.length
  nodup : l.Nodup

/-- The class of arg k, 0 behind the last. -/
def ar (lo : Nat → Nat) (t : Tm) (k : Nat) : Nat := match t.args[k]? with
  | some a => lo a
  | none => 0
/-- A term's signature. -/
def sg (lo : Nat → Nat) (t : Tm) : Tm := ⟨t.name, [ar lo t 0, ar lo t 1, ar lo t 2, ar lo t 3]⟩
theorem sg_arg (lo : Nat → Nat) (t : Tm) (k : Nat) (hk : k < 4) : (sg lo t).arg k = ar lo t k := by
  rcases (by omega : k = 0 ∨ k = 1 ∨ k = 2 ∨ k = 3) with rfl | rfl | rfl | rfl <;> rfl
theorem sg_congr {lo lo' : Nat → Nat} {t : Tm} (h : ∀ a ∈ t.args, lo a = lo' a) : sg lo t = sg lo' t := by
  have : ∀ k, ar lo t k = ar lo' t k := by
    intro k
    unfold ar
    cases e : t.args[k]? with
    | none => rfl
    | some a => exact h a (List.mem_of_getElem? e)
  simp [sg, this]

/-- The closure. -/
inductive Cg (l : List Tm) (P : List (Nat × Nat)) : Nat → Nat → Prop
  | told {a b : Nat} : (a, b) ∈ P → a < l.length → b < l.length → Cg l P a b
  | refl {a : Nat} : a < l.length → Cg l P a a
  | symm {a b : Nat} : Cg l P a b → Cg l P b a
  | trans {a b c : Nat} : Cg l P a b → Cg l P b c → Cg l P a c
  | cong {i j : Nat} {t u : Tm} : l[i]? = some t → l[j]? = some u → t.name = u.name → t.args.length = u.args.length → (∀ k a b : Nat, t.args[k]? = some a → u.args[k]? = some b → Cg l P a b) → Cg l P i j

theorem Cg.mono {l : List Tm} {P Q : List (Nat × Nat)} (h : ∀ a b, (a, b) ∈ P → a < l.length → b < l.length → Cg l Q a b) {i j : Nat} (hc : Cg l P i j) : Cg l Q i j := by
  induction hc with
  | told hm ha hb => exact h _ _ hm ha hb
  | refl ha => exact .refl ha
  | symm _ ih => exact .symm ih
  | trans _ _ i1 i2 => exact .trans i1 i2
  | cong h1 h2 h3 h4 _ ih => exact .cong h1 h2 h3 h4 ih

theorem Cg.lt {l : List Tm} {P : List (Nat × Nat)} {i j : Nat} (hc : Cg l P i j) : i < l.length ∧ j < l.length := by
  induction hc with
  | told _ ha hb => exact ⟨ha, hb⟩
  | refl ha => exact ⟨ha, ha⟩
  | symm _ ih => exact ⟨ih.2, ih.1⟩
  | trans _ _ i1 i2 => exact ⟨i1.1, i2.2⟩
  | cong h1 h2 _ _ _ _ => exact ⟨(List.getElem?_eq_some_iff.1 h1).1, (List.getElem?_eq_some_iff.1 h2).1⟩

/-- The same by the classes and what is to do. -/
inductive Ev (N : Nat) (lo : Nat → Nat) (todo : List (Nat × Nat)) : Nat → Nat → Prop
  | same {i j : Nat} : i < N → j < N → lo i = lo j → Ev N lo todo i j
  | todo {i j : Nat} : (i, j) ∈ todo → Ev N lo todo i j
  | symm {i j : Nat} : Ev N lo todo i j → Ev N lo todo j i
  | trans {i j k : Nat} : Ev N lo todo i j → Ev N lo todo j k → Ev N lo todo i k

theorem Ev.mono {N : Nat} {lo lo' : Nat → Nat} {td td' : List (Nat × Nat)} (h1 : ∀ i j, i < N → j < N → lo i = lo j → lo' i = lo' j) (h2 : ∀ i j, (i, j) ∈ td → Ev N lo' td' i j) {i j : Nat} (h : Ev N lo td i j) : Ev N lo' td' i j := by
  induction h with
  | same hi hj he => exact .same hi hj (h1 _ _ hi hj he)
  | todo hm => exact h2 _ _ hm
  | symm _ ih => exact .symm ih
  | trans _ _ i1 i2 => exact .trans i1 i2
theorem Ev.more {N : Nat} {lo : Nat → Nat} {td : List (Nat × Nat)} (ps : List (Nat × Nat)) {i j : Nat} (h : Ev N lo td i j) : Ev N lo (td ++ ps) i j :=
  h.mono (fun _ _ _ _ e => e) (fun _ _ hm => .todo (List.mem_append_left _ hm))
theorem Ev.done {N : Nat} {lo : Nat → Nat} {i j : Nat} (h : Ev N lo [] i j) : lo i = lo j := by
  induction h with
  | same _ _ he => exact he
  | todo hm => cases hm
  | symm _ ih => exact ih.symm
  | trans _ _ i1 i2 => exact i1.trans i2

/-- How often term n uses class r. -/
def uc (l : List Tm) (lo : Nat → Nat) (r n : Nat) : Nat := match l[n]? with
  | some t => t.args.countP (fun a => lo a == r)
  | none => 0

structure Inv (l : List Tm) (P : List (Nat × Nat)) (lo : Nat → Nat) (us : Nat → List Nat) (kn : Tm → Option Nat) (todo : List (Nat × Nat)) (pend : List Nat) : Prop where
  le : ∀ i, i < l.length → lo i ≤ i
  idem : ∀ i, i < l.length → lo (lo i) = lo i
  inr : ∀ p ∈ todo, p.1 < l.length ∧ p.2 < l.length
  pin : ∀ n ∈ pend, n < l.length
  uses : ∀ r, r < l.length → lo r = r → ∀ n, (us r).count n = uc l lo r n
  keys : ∀ (n : Nat) (t : Tm), l[n]? = some t → n ∉ pend → ∃ m, kn (sg lo t) = some m ∧ Ev l.length lo todo n m
  says : ∀ (s : Tm) (m : Nat), kn s = some m → ∃ u : Tm, l[m]? = some u ∧ u.name = s.name ∧ ∀ k, k < 4 → (∀ a, u.args[k]? = some a → s.arg k < l.length ∧ lo a = lo (s.arg k)) ∧ (u.args[k]? = none → s.arg k = 0)
  snd : ∀ i j, i < l.length → j < l.length → lo i = lo j → Cg l P i j
  tsnd : ∀ p ∈ todo, Cg l P p.1 p.2
  tld : ∀ p ∈ P, p.1 < l.length ∧ p.2 < l.length ∧ Ev l.length lo todo p.1 p.2

theorem Inv.used {l : List Tm} {P : List (Nat × Nat)} {lo : Nat → Nat} {us : Nat → List Nat} {kn : Tm → Option Nat} {todo : List (Nat × Nat)} {pend : List Nat} (h : Inv l P lo us kn todo pend) {n : Nat} {t : Tm} (ht : l[n]? = some t) {a : Nat} (ha : a ∈ t.args) {r : Nat} (hr : r < l.length) (hrr : lo r = r) (hl : lo a = r) : n ∈ us r := by
  have hc := h.uses r hr hrr n
  rw [uc, ht] at hc
  simp only at hc
  have : 0 < t.args.countP (fun a => lo a == r) := List.countP_pos_iff.2 ⟨a, ha, by simp [hl]⟩
  exact List.count_pos_iff.1 (by omega)

theorem uc_le {l : List Tm} (hb : Bd l) (lo : Nat → Nat) (r n : Nat) : uc l lo r n ≤ 4 := by
  unfold uc
  cases e : l[n]? with
  | none => simp
  | some t => exact Nat.le_trans List.countP_le_length (hb.four t (List.mem_of_getElem? e))

theorem length_count (N : Nat) : ∀ xs : List Nat, (∀ x ∈ xs, x < N) → (∀ n, xs.count n ≤ 4) → xs.length ≤ 4 * N := by
  induction N with
  | zero =>
    intro xs h _
    cases xs with
    | nil => simp
    | cons x xs => exact absurd (h x (by simp)) (by omega)
  | succ N ih =>
    intro xs h hc
    have h1 := ih (xs.filter (fun x => !(x == N))) (fun x hx => by
      obtain ⟨hm, hn⟩ := List.mem_filter.1 hx
      have := h x hm
      simp at hn
      omega) (fun n => Nat.le_trans (List.Sublist.count_le n (List.filter_sublist)) (hc n))
    have h2 : xs.length = (xs.filter (fun x => !(x == N))).length + xs.count N := by
      clear h hc h1 ih
      induction xs with
      | nil => rfl
      | cons x xs ih =>
        by_cases e : x = N
        · subst e; simp; omega
        · have e' : (x == N) = false := beq_eq_false_iff_ne.2 e
          simp [e', List.count_cons, ih]; omega
    have := hc N
    omega

theorem Inv.uin {l : List Tm} {P : List (Nat × Nat)} {lo : Nat → Nat} {us : Nat → List Nat} {kn : Tm → Option Nat} {todo : List (Nat × Nat)} {pend : List Nat} (h : Inv l P lo us kn todo pend) {r : Nat} (hr : r < l.length) (hrr : lo r = r) : ∀ n ∈ us r, n < l.length := by
  intro n hn
  have hc := h.uses r hr hrr n
  have hp := List.count_pos_iff.2 hn
  unfold uc at hc
  cases e : l[n]? with
  | none => rw [e] at hc; simp only at hc; omega
  | some t => exact (List.getElem?_eq_some_iff.1 e).1
theorem Inv.ulen {l : List Tm} (hb : Bd l) {P : List (Nat × Nat)} {lo : Nat → Nat} {us : Nat → List Nat} {kn : Tm → Option Nat} {todo : List (Nat × Nat)} {pend : List Nat} (h : Inv l P lo us kn todo pend) {r : Nat} (hr : r < l.length) (hrr : lo r = r) : (us r).length ≤ 4 * l.length :=
  length_count _ _ (h.uin hr hrr) (fun n => by rw [h.uses r hr hrr n]; exact uc_le hb _ _ _)

/-- What stands last is the same already. -/
theorem Inv.drop {l : List Tm} {P : List (Nat × Nat)} {lo : Nat → Nat} {us : Nat → List Nat} {kn : Tm → Option Nat} {todo : List (Nat × Nat)} {a b : Nat} (h : Inv l P lo us kn (todo ++ [(a, b)]) []) (he : lo a = lo b) : Inv l P lo us kn todo [] := by
  have hin := h.inr (a, b) (by simp)
  have E : ∀ {i j}, Ev l.length lo (todo ++ [(a, b)]) i j → Ev l.length lo todo i j := fun x => x.mono (fun _ _ _ _ e => e) (fun i j hm => by
    rcases List.mem_append.1 hm with hm | hm
    · exact .todo hm
    · simp at hm
      obtain ⟨rfl, rfl⟩ := hm
      exact .same hin.1 hin.2 he)
  exact ⟨h.le, h.idem, fun p hp => h.inr p (List.mem_append_left _ hp), h.pin, h.uses, fun n t ht hn => by obtain ⟨m, h1, h2⟩ := h.keys n t ht hn; exact ⟨m, h1, E h2⟩, h.says, h.snd, fun p hp => h.tsnd p (List.mem_append_left _ hp), fun p hp => ⟨(h.tld p hp).1, (h.tld p hp).2.1, E (h.tld p hp).2.2⟩⟩

/-- Two classes become one. -/
theorem Inv.join {l : List Tm} {P : List (Nat × Nat)} {lo lo' : Nat → Nat} {us us' : Nat → List Nat} {kn : Tm → Option Nat} {todo : List (Nat × Nat)} {p : Nat × Nat} (hb : Bd l) (h : Inv l P lo us kn (todo ++ [p]) []) {a b low high : Nat} (hp : p = (a, b) ∨ p = (b, a))
    (ha : lo a = low) (hbh : lo b = high) (hlt : low < high) (hlo : ∀ i, i < l.length → lo' i = if lo i = high then low else lo i) (hus : ∀ r, r < l.length → us' r = if r = low then us low ++ us high else us r) : Inv l P lo' us' kn todo (us high) := by
  have hin := h.inr p (by simp)
  have hab : a < l.length ∧ b < l.length := by rcases hp with rfl | rfl <;> exact ⟨by first | exact hin.1 | exact hin.2, by first | exact hin.2 | exact hin.1⟩
  have cab : Cg l P a b := by
    have := h.tsnd p (by simp)
    rcases hp with rfl | rfl
    · exact this
    · exact this.symm
  have llow : lo low = low := by rw [← ha]; exact h.idem a hab.1
  have lhigh : lo high = high := by rw [← hbh]; exact h.idem b hab.2
  have hhl : high < l.length := by have := h.le b hab.2; omega
  have hll : low < l.length := by omega
  have imp : ∀ i j, i < l.length → j < l.length → lo i = lo j → lo' i = lo' j := fun i j hi hj e => by rw [hlo i hi, hlo j hj, e]
  have lab : lo' a = lo' b := by rw [hlo a hab.1, hlo b hab.2, ha, hbh, if_pos rfl, if_neg (by omega)]
  have E : ∀ {i j}, Ev l.length lo (todo ++ [p]) i j → Ev l.length lo' todo i j := fun x => x.mono imp (fun i j hm => by
    rcases List.mem_append.1 hm with hm | hm
    · exact .todo hm
    · simp at hm
      rcases hp with rfl | rfl
      · obtain ⟨rfl, rfl⟩ := Prod.mk.inj hm; exact .same hab.1 hab.2 lab
      · obtain ⟨rfl, rfl⟩ := Prod.mk.inj hm; exact .same hab.2 hab.1 lab.symm)
  have alt : ∀ {n : Nat} {t : Tm}, l[n]? = some t → ∀ a ∈ t.args, a < l.length := fun ht => hb.args _ _ ht
  refine ⟨?_, ?_, fun p hp => h.inr p (List.mem_append_left _ hp), fun n hn => h.uin hhl lhigh n hn, ?_, ?_, ?_, ?_, fun p hp => h.tsnd p (List.mem_append_left _ hp), fun p hp => ⟨(h.tld p hp).1, (h.tld p hp).2.1, E (h.tld p hp).2.2⟩⟩
  · intro i hi
    rw [hlo i hi]
    have := h.le i hi
    split <;> omega
  · intro i hi
    have hi2 := h.le i hi
    rw [hlo i hi]
    split
    · rw [hlo low hll, llow, if_neg (by omega)]
    · next hne => rw [hlo (lo i) (by omega), h.idem i hi, if_neg hne]
  · intro r hr hrr n
    have hr0 := hlo r hr
    rw [hrr] at hr0
    by_cases e : r = low
    · subst e
      rw [hus r hr, if_pos rfl, List.count_append, h.uses r hll llow n, h.uses high hhl lhigh n]
      unfold uc
      cases ht : l[n]? with
      | none => rfl
      | some t =>
        have : ∀ xs : List Nat, (∀ a ∈ xs, a < l.length) → xs.countP (fun a => lo a == r) + xs.countP (fun a => lo a == high) = xs.countP (fun a => lo' a == r) := by
          intro xs
          induction xs with
          | nil => intro _; rfl
          | cons x xs ih =>
            intro hx
            have hi := ih (fun a ha => hx a (by simp [ha]))
            simp only [List.countP_cons]
            have h0 := hlo x (hx x (by simp))
            rw [h0]
            by_cases e1 : lo x = high
            · have e3 : ¬ high = r := by omega
              rw [if_pos e1, e1]
              simp only [beq_iff_eq, e3, if_false, if_true]
              omega
            · by_cases e2 : lo x = r
              · simp [e2, show ¬ r = high by omega]; omega
              · simp [e1, e2]; omega
        exact this t.args (alt ht)
    · have hne : lo r ≠ high := fun x => by rw [if_pos x] at hr0; exact e hr0
      rw [if_neg hne] at hr0
      rw [hus r hr, if_neg e, h.uses r hr hr0.symm n]
      unfold uc
      cases ht : l[n]? with
      | none => rfl
      | some t =>
        refine List.countP_congr (fun x hx => ?_)
        have h0 := hlo x (alt ht x hx)
        rw [h0]
        by_cases e1 : lo x = high
        · rw [if_pos e1]
          simp only [beq_iff_eq]
          constructor
          · intro x2; exact absurd (hr0.symm.trans (x2.symm.trans e1)) hne
          · intro x2; exact absurd x2.symm e
        · rw [if_neg e1]
  · intro n t ht hn
    obtain ⟨m, h1, h2⟩ := h.keys n t ht (by simp)
    have : sg lo' t = sg lo t := sg_congr (fun a ha => by
      rw [hlo a (alt ht a ha), if_neg (fun x => hn (h.used ht ha hhl lhigh x))])
    exact ⟨m, by rw [this]; exact h1, E h2⟩
  · intro s m hs
    obtain ⟨u, h1, h2, h3⟩ := h.says s m hs
    refine ⟨u, h1, h2, fun k hk => ⟨fun x hx => ?_, (h3 k hk).2⟩⟩
    obtain ⟨q1, q2⟩ := (h3 k hk).1 x hx
    exact ⟨q1, imp _ _ (alt h1 x (List.mem_of_getElem? hx)) q1 q2⟩
  · intro i j hi hj e
    rw [hlo i hi, hlo j hj] at e
    have toA : ∀ i, i < l.length → lo i = low → Cg l P i a := fun i hi x => h.snd i a hi hab.1 (by omega)
    have toB : ∀ i, i < l.length → lo i = high → Cg l P i a := fun i hi x => (h.snd i b hi hab.2 (by omega)).trans cab.symm
    by_cases e1 : lo i = high
    · by_cases e2 : lo j = high
      · exact (toB i hi e1).trans (toB j hj e2).symm
      · rw [if_pos e1, if_neg e2] at e
        exact (toB i hi e1).trans (toA j hj e.symm).symm
    · by_cases e2 : lo j = high
      · rw [if_neg e1, if_pos e2] at e
        exact (toA i hi e).trans (toB j hj e2).symm
      · rw [if_neg e1, if_neg e2] at e
        exact h.snd i j hi hj e

theorem ar_some {lo : Nat → Nat} {t : Tm} {k a : Nat} (h : t.args[k]? = some a) : ar lo t k = lo a := by simp [ar, h]

theorem getElem?_len {α β : Type} {xs : List α} {ys : List β} (h : xs.length = ys.length) {k : Nat} {a : α} (ha : xs[k]? = some a) : ∃ b, ys[k]? = some b := by
  have := (List.getElem?_eq_some_iff.1 ha).1
  exact ⟨ys[k]'(by omega), List.getElem?_eq_getElem (by omega)⟩

/-- A term that has a signature follows to be the same. -/
theorem Inv.alike {l : List Tm} {P : List (Nat × Nat)} {lo : Nat → Nat} {us : Nat → List Nat} {kn : Tm → Option Nat} {todo : List (Nat × Nat)} {pend : List Nat} (hb : Bd l) (h : Inv l P lo us kn todo pend) {n m : Nat} {t : Tm} (ht : l[n]? = some t) (hk : kn (sg lo t) = some m) : Cg l P n m := by
  obtain ⟨u, h1, h2, h3⟩ := h.says _ _ hk
  have hl := hb.one t (List.mem_of_getElem? ht) u (List.mem_of_getElem? h1) h2.symm
  refine .cong ht h1 h2.symm hl (fun k a b ha hb' => ?_)
  have hk4 : k < 4 := by
    have := (List.getElem?_eq_some_iff.1 ha).1
    have := hb.four t (List.mem_of_getElem? ht)
    omega
  obtain ⟨q1, q2⟩ := (h3 k hk4).1 b hb'
  have ha' := hb.args n t ht a (List.mem_of_getElem? ha)
  rw [sg_arg _ _ _ hk4, ar_some ha] at q1 q2
  rw [h.idem a ha'] at q2
  exact h.snd a b ha' (hb.args m u h1 b (List.mem_of_getElem? hb')) q2.symm

/-- One of those that are pending is looked up: there is one like it. -/
theorem Inv.old {l : List Tm} {P : List (Nat × Nat)} {lo : Nat → Nat} {us : Nat → List Nat} {kn : Tm → Option Nat} {todo : List (Nat × Nat)} {pend : List Nat} (hb : Bd l) {n m : Nat} (h : Inv l P lo us kn todo (n :: pend)) {t : Tm} (ht : l[n]? = some t) (hk : kn (sg lo t) = some m) : Inv l P lo us kn (todo ++ [(n, m)]) pend := by
  have hc := h.alike hb ht hk
  refine ⟨h.le, h.idem, ?_, fun x hx => h.pin x (by simp [hx]), h.uses, ?_, h.says, h.snd, ?_, fun p hp => ⟨(h.tld p hp).1, (h.tld p hp).2.1, (h.tld p hp).2.2.more _⟩⟩
  · intro p hp
    rcases List.mem_append.1 hp with hp | hp
    · exact h.inr p hp
    · simp at hp; subst hp; exact hc.lt
  · intro i u hu hi
    by_cases e : i = n
    · subst e
      rw [ht] at hu
      cases hu
      exact ⟨m, hk, .todo (by simp)⟩
    · obtain ⟨m', h1, h2⟩ := h.keys i u hu (by simp [e, hi])
      exact ⟨m', h1, h2.more _⟩
  · intro p hp
    rcases List.mem_append.1 hp with hp | hp
    · exact h.tsnd p hp
    · simp at hp; subst hp; exact hc

/-- .. there is none. -/
theorem Inv.new {l : List Tm} {P : List (Nat × Nat)} {lo : Nat → Nat} {us : Nat → List Nat} {kn kn' : Tm → Option Nat} {todo : List (Nat × Nat)} {pend : List Nat} (hb : Bd l) {n : Nat} (h : Inv l P lo us kn todo (n :: pend)) {t : Tm} (ht : l[n]? = some t) (hk : kn (sg lo t) = none) (hkn : ∀ s, kn' s = if s = sg lo t then some n else kn s) : Inv l P lo us kn' (todo ++ [(n, n)]) pend := by
  have hn : n < l.length := (List.getElem?_eq_some_iff.1 ht).1
  refine ⟨h.le, h.idem, ?_, fun x hx => h.pin x (by simp [hx]), h.uses, ?_, ?_, h.snd, ?_, fun p hp => ⟨(h.tld p hp).1, (h.tld p hp).2.1, (h.tld p hp).2.2.more _⟩⟩
  · intro p hp
    rcases List.mem_append.1 hp with hp | hp
    · exact h.inr p hp
    · simp at hp; subst hp; exact ⟨hn, hn⟩
  · intro i u hu hi
    by_cases e : i = n
    · subst e
      rw [ht] at hu
      cases hu
      exact ⟨i, by rw [hkn, if_pos rfl], .todo (by simp)⟩
    · obtain ⟨m', h1, h2⟩ := h.keys i u hu (by simp [e, hi])
      refine ⟨m', ?_, h2.more _⟩
      rw [hkn, if_neg (fun x => by rw [x, hk] at h1; cases h1)]
      exact h1
  · intro s m hs
    rw [hkn] at hs
    by_cases e : s = sg lo t
    · rw [if_pos e] at hs
      cases hs
      refine ⟨t, ht, by rw [e]; rfl, fun k hk => ?_⟩
      rw [e, sg_arg _ _ _ hk]
      refine ⟨fun a ha => ?_, fun hnone => by simp [ar, hnone]⟩
      rw [ar_some ha]
      have ha' := hb.args n t ht a (List.mem_of_getElem? ha)
      have := h.le a ha'
      exact ⟨by omega, (h.idem a ha').symm⟩
    · rw [if_neg e] at hs
      exact h.says s m hs
  · intro p hp
    rcases List.mem_append.1 hp with hp | hp
    · exact h.tsnd p hp
    · simp at hp; subst hp; exact .refl hn

/-- A pair is told. -/
theorem Inv.tell {l : List Tm} {P : List (Nat × Nat)} {lo : Nat → Nat} {us : Nat → List Nat} {kn : Tm → Option Nat} (h : Inv l P lo us kn [] []) {a b : Nat} (ha : a < l.length) (hb : b < l.length) : Inv l (P ++ [(a, b)]) lo us kn [(a, b)] [] := by
  have M : ∀ {i j}, Cg l P i j → Cg l (P ++ [(a, b)]) i j := fun x => x.mono (fun _ _ hm h1 h2 => .told (List.mem_append_left _ hm) h1 h2)
  refine ⟨h.le, h.idem, fun p hp => by simp at hp; subst hp; exact ⟨ha, hb⟩, h.pin, h.uses, fun n t ht hn => ?_, h.says, fun i j hi hj e => M (h.snd i j hi hj e), fun p hp => ?_, fun p hp => ?_⟩
  · obtain ⟨m, h1, h2⟩ := h.keys n t ht hn
    exact ⟨m, h1, h2.more [(a, b)]⟩
  · simp at hp; subst hp; exact .told (by simp) ha hb
  · rcases List.mem_append.1 hp with hp | hp
    · exact ⟨(h.tld p hp).1, (h.tld p hp).2.1, (h.tld p hp).2.2.more [(a, b)]⟩
    · simp at hp; subst hp; exact ⟨ha, hb, .todo (by simp)⟩

/-- When nothing is to do the classes are the closure's. -/
theorem Inv.fin {l : List Tm} {P : List (Nat × Nat)} {lo : Nat → Nat} {us : Nat → List Nat} {kn : Tm → Option Nat} (h : Inv l P lo us kn [] []) {i j : Nat} (hi : i < l.length) (hj : j < l.length) : lo i = lo j ↔ Cg l P i j := by
  refine ⟨h.snd i j hi hj, fun hc => ?_⟩
  clear hi hj
  induction hc with
  | told hm _ _ => exact (h.tld _ hm).2.2.done
  | refl _ => rfl
  | symm _ ih => exact ih.symm
  | trans _ _ i1 i2 => exact i1.trans i2
  | @cong i j t u h1 h2 h3 h4 _ ih =>
    have : sg lo t = sg lo u := by
      have : ∀ k, ar lo t k = ar lo u k := by
        intro k
        unfold ar
        cases e : t.args[k]? with
        | none =>
          have : u.args[k]? = none := by rw [List.getElem?_eq_none_iff] at e ⊢; omega
          rw [this]
        | some a =>
          obtain ⟨b, hb⟩ := getElem?_len h4 e
          rw [hb]
          exact ih k a b e hb
      simp [sg, h3, this]
    obtain ⟨m, k1, k2⟩ := h.keys i t h1 (by simp)
    obtain ⟨m', k3, k4⟩ := h.keys j u h2 (by simp)
    rw [this, k3] at k1
    cases k1
    exact k2.done.trans k4.done.symm

theorem Inv.low {l : List Tm} {P Q : List (Nat × Nat)} {lo lo' : Nat → Nat} {us us' : Nat → List Nat} {kn kn' : Tm → Option Nat} (h : Inv l P lo us kn [] []) (h' : Inv l Q lo' us' kn' [] []) (hPQ : ∀ i j, Cg l P i j → Cg l Q i j) {i : Nat} (hi : i < l.length) : lo' i = lo' (lo i) := by
  have h1 := h.le i hi
  have h2 := h.idem i hi
  exact (h'.fin hi (by omega)).2 (hPQ _ _ ((h.fin hi (by omega)).1 h2.symm))

/-- The same closure, the same least numbers. -/
theorem Inv.unique {l : List Tm} {P Q : List (Nat × Nat)} {lo lo' : Nat → Nat} {us us' : Nat → List Nat} {kn kn' : Tm → Option Nat} (h : Inv l P lo us kn [] []) (h' : Inv l Q lo' us' kn' [] []) (hPQ : ∀ i j, Cg l P i j → Cg l Q i j) (hQP : ∀ i j, Cg l Q i j → Cg l P i j) {i : Nat} (hi : i < l.length) : lo i = lo' i := by
  have a1 := h.low h' hPQ hi
  have a2 := h'.low h hQP hi
  have := h.le i hi
  have := h'.le i hi
  have b1 := h'.le (lo i) (by omega)
  have b2 := h.le (lo' i) (by omega)
  omega

/-- At the beginning. -/
theorem Inv.start {l : List Tm} {us : Nat → List Nat} {kn : Tm → Option Nat} (hb : Bd l) (hus : ∀ r, r < l.length → ∀ n, (us r).count n = uc l id r n) (hkn : ∀ s m, kn s = some m ↔ ∃ t, l[m]? = some t ∧ sg id t = s) : Inv l [] id us kn [] [] := by
  refine ⟨fun i _ => Nat.le_refl _, fun _ _ => rfl, by simp, by simp, fun r hr _ n => hus r hr n, ?_, ?_, ?_, by simp, by simp⟩
  · intro n t ht _
    exact ⟨n, (hkn _ _).2 ⟨t, ht, rfl⟩, .same (List.getElem?_eq_some_iff.1 ht).1 (List.getElem?_eq_some_iff.1 ht).1 rfl⟩
  · intro s m hs
    obtain ⟨t, ht, rfl⟩ := (hkn s m).1 hs
    refine ⟨t, ht, rfl, fun k hk => ?_⟩
    rw [sg_arg _ _ _ hk]
    refine ⟨fun a ha => ?_, fun hn => by simp [ar, hn]⟩
    rw [ar_some ha]
    exact ⟨hb.args m t ht a (List.mem_of_getElem? ha), rfl⟩
  · intro i j hi _ e
    have : i = j := e
    subst this
    exact .refl hi

/-- No two terms of a bank have one signature at the beginning. -/
theorem sg_inj {l : List Tm} (hb : Bd l) {i j : Nat} {t u : Tm} (ht : l[i]? = some t) (hu : l[j]? = some u) (he : sg id t = sg id u) : i = j := by
  have hn : t.name = u.name := by have := congrArg Tm.name he; exact this
  have hl := hb.one t (List.mem_of_getElem? ht) u (List.mem_of_getElem? hu) hn
  have h4 := hb.four t (List.mem_of_getElem? ht)
  have hk : ∀ k, k < 4 → ar id t k = ar id u k := fun k hk => by rw [← sg_arg id t k hk, ← sg_arg id u k hk, he]
  have ha : t.args = u.args := by
    apply List.ext_getElem hl
    intro k h1 h2
    have := hk k (by omega)
    rw [ar_some (List.getElem?_eq_getElem h1), ar_some (List.getElem?_eq_getElem h2)] at this
    exact this
  have : t = u := by cases t; cases u; simp_all
  subst this
  have h1 := (List.getElem?_eq_some_iff.1 ht)
  have h2 := (List.getElem?_eq_some_iff.1 hu)
  exact (List.getElem_inj hb.nodup).1 (h1.2.trans h2.2.symm)

end Go.Proofs.YtlehlgipbhfioaaGreat.Cc
