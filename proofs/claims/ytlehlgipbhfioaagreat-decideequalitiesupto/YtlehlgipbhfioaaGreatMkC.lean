/- Package logic: what makes clauses: literal. -/
import Derived.Test.YtlehlgipbhfioaaGreatP05
import Derived.Test.YtlehlgipbhfioaaGreatP34
import Derived.Test.YtlehlgipbhfioaaGreatP30
import Derived.Deep.RegionWith
namespace Go.Proofs.YtlehlgipbhfioaaGreat
open Go.RowKit Go.Shelf

def IntsAt (W : World) (sv : Value) (args : List Int) : Prop := ∃ a cap, sv = .slice a args.length cap ∧ ClsAt W a args

theorem MadeX.none {S : Nat → Prop} {w w' : World} {mb ab : Nat} {ps : List (Int × Int)} {rv : Value} {st : Sc} (h : Mk S w mb ab ps rv st) (K : Kept0 w w') : MadeX S w rv S w' rv mb ab ps st :=
  ⟨h.keep K.size (fun k hk => K.block k (h.lt k hk) (fun e => e)), fun _ hk => Or.inl hk, Or.inl rfl, K.mono (fun _ _ e => e.elim)⟩
theorem ret_i {p q : Int} (h : p = q) : Ending.returned (.int .i64 p) = Ending.returned (.int .i64 q) := by rw [h]

theorem wrap_negN (x : Int) (n : Nat) (h : x = ((n + 1 : Nat) : Int)) (hn : n ≤ 1073741824) : IntKind.i64.wrap (-x) = -x := by
  subst h
  rw [IntKind.wrap_i64]
  omega

set_option maxRecDepth 100000 in
set_option maxHeartbeats 4000000 in
theorem literal_in (w : World) (S : Nat → Prop) (mb ab : Nat) (ps : List (Int × Int)) (rv : Value) (st : Sc) (h : Mk S w mb ab ps rv st) (hs : st.1 ≤ 1073741824) (hs2 : st.2.length ≤ 1073741824) (t : Lf) (ht : Here w t) (hw : whl t = true) (hx : P64 (t.x, t.y)) (sv : Value) (args : List Int) (hA : IntsAt w sv args) (hl : args.length = t.ks.length) (hb : ∀ v ∈ args, v.natAbs ≤ 1073741824) :
    Calls Tryz.prog 120 #[.pointer (some ⟨mb, 0, none⟩), .pointer (some ⟨t.b, t.o, none⟩), sv] w fun e w' => e = .returned (.int .i64 (litG (numP ps) t args st).1) ∧ Made S w w' mb ab ps rv (litG (numP ps) t args st).2 := by
  have WH := isWhole_in w t ht
  rw [hw] at WH
  have c0 := ht.cells.c0
  have cx := ht.cells.c1
  have cy := ht.cells.c2
  have BO : Hid (∀ (m : Nat) (p q : Int), p.natAbs ≤ 1099511627776 → q.natAbs ≤ 1099511627776 → Calls Tryz.prog 158 #[.pointer (some ⟨mb, 0, none⟩), .int .i64 p, .int .i64 q] (w.drewN m) fun e w' => e = .returned (.int .i64 (Cn.both p q st).1) ∧ Made S w w' mb ab ps rv (Cn.both p q st).2) := fun m p q hp hq => (both_in (w.drewN m) S mb ab ps rv st (h.keep (Nat.le_refl _) (fun _ _ => rfl)) (by omega) hs2 p q hp hq).mono (by
    rintro e w' ⟨rfl, S', rv', X⟩
    exact ⟨rfl, S', rv', (MadeX.none h ((Kept.refl _ w).drewN m)).trans X⟩)
  obtain ⟨sa, scap, rfl, hargs⟩ := hA
  have K0 : Kept0 w w := Kept.refl _ w
  have HE : Hid (litG (numP ps) t args st = _) := litG.eq_1 (numP ps) t args st
  have HB : Hid (∀ p q, (Cn.both p q st).1 = ((st.1 + 1 : Nat) : Int)) := fun p q => rfl
  have cm : w.cell? ⟨mb, 0, none⟩ = some (.map (some ab)) := h.cells.cell (i := 0) (by omega)
  have HM : Hid (∀ m, MadeX S w rv S (w.drewN m) rv mb ab ps st) := fun m => MadeX.none h ((Kept.refl _ w).drewN m)
  have LK : (Instr.lookup 113 (.map (some ab)) (pairV (t.x, t.y)) false).run Tryz.prog w.drew = .ok (.int .i64 (numP ps (t.x, t.y) : Int)) w.drew := (h.map.keep rfl : NumIs w.drew ab ps).look hx
  simp only [pairV] at LK
  have hcell : ∀ (j : Nat) (b : Int), args[j]? = some b → ∃ g off, sa = some ⟨g, off, none⟩ ∧ w.cell? ⟨g, off + j, none⟩ = some (.int .i64 b) := fun j b hj => by
    rcases hargs with e | ⟨g, off, e1, e2⟩
    · rw [e] at hj; simp at hj
    · exact ⟨g, off, e1, e2 j b hj⟩
  have hkl : t.op ≠ 0 → args.length = t.kids.length := fun h0 => by rw [hl]; simp [Lf.ks, h0]
  have hA1 : Hid (∀ p, args = [p] → (litG (numP ps) t args st) = (if t.op = 1 then (-p, st) else litG (numP ps) t args st)) := fun p hp => by
    split
    · next h1 => rw [litG, if_pos h1, hp]; rfl
    · rfl
  go_enter Tryz.func120, Tryz.ntmps120
  by_cases h1 : t.op = 1
  · have hk1 : t.kids.length = 1 := by simpa [whl, h1] using hw
    have hal := hkl (by omega)
    obtain ⟨p, rfl⟩ : ∃ p, args = [p] := List.length_eq_one_iff.1 (by omega)
    obtain ⟨g, off, rfl, hc⟩ := hcell 0 p rfl
    rw [h1] at c0
    have hc' : w.cell? ⟨g, off, none⟩ = some (.int .i64 p) := hc
    have hpb := hb p (by simp)
    have wp : IntKind.i64.wrap (-p) = -p := by rw [IntKind.wrap_i64]; omega
    have HE2 : Hid (litG (numP ps) t [p] st = (-p, st)) := by show _ = _; rw [HE.out, if_pos h1]; rfl
    clear hcell hkl hargs hc cx cy hl hal hk1 HE hA1 BO hb h LK cm
    go_wp2_with (first | (go_at_call 137; refine WH.mono ?_; rintro e w2 ⟨rfl, rfl⟩))
    go_ret
    rw [HE2.out]
    exact ⟨rfl, _, _, HM.out 0⟩
  · have d1 : (t.op == 1) = false := by simpa using h1
    by_cases h2 : t.op = 2
    · clear d1
      have hk2 : t.kids.length = 2 := by simpa [whl, h2] using hw
      have hal := hkl (by omega)
      obtain ⟨p, q, rfl⟩ : ∃ p q, args = [p, q] := by
        match args, (show args.length = 2 by omega) with
        | [p, q], _ => exact ⟨p, q, rfl⟩
      obtain ⟨g, off, rfl, hc⟩ := hcell 0 p rfl
      obtain ⟨g', off', e', hd⟩ := hcell 1 q rfl
      obtain ⟨rfl, rfl⟩ : g = g' ∧ off = off' := by simpa using e'
      rw [h2] at c0
      have hc' : w.cell? ⟨g, off, none⟩ = some (.int .i64 p) := hc
      have hpb := hb p (by simp)
      have hqb := hb q (by simp)
      have HE2 : Hid (litG (numP ps) t [p, q] st = Cn.both p q st) := by show _ = _; rw [HE.out, if_neg h1, if_pos h2]; rfl
      have BB := fun m => BO.out m p q (by omega) (by omega)
      clear hcell hkl hargs hc cx cy hl hal hk2 e' HE hA1 BO hb h LK cm
      go_wp2_with (first | (go_at_call 137; refine WH.mono ?_; rintro e w2 ⟨rfl, rfl⟩))
      go_region_with (go_at_call 158; refine (BB 1).mono ?_; rintro e w3 ⟨rfl, M3⟩)
      all_goals
        try simp only [Act.put, List.getElem_toArray, List.getElem_cons_succ, List.getElem_cons_zero, List.setIfInBounds_toArray, List.set_cons_succ, List.set_cons_zero]
        go_wp2_with fail
        go_ret
        rw [HE2.out]
        exact ⟨rfl, M3⟩
    · have d2 : (t.op == 2) = false := by simpa using h2
      by_cases h3 : t.op = 3
      · clear d1 d2
        have hk2 : t.kids.length = 2 := by simpa [whl, h3] using hw
        have hal := hkl (by omega)
        obtain ⟨p, q, rfl⟩ : ∃ p q, args = [p, q] := by
          match args, (show args.length = 2 by omega) with
          | [p, q], _ => exact ⟨p, q, rfl⟩
        obtain ⟨g, off, rfl, hc⟩ := hcell 0 p rfl
        obtain ⟨g', off', e', hd⟩ := hcell 1 q rfl
        obtain ⟨rfl, rfl⟩ : g = g' ∧ off = off' := by simpa using e'
        rw [h3] at c0
        have hc' : w.cell? ⟨g, off, none⟩ = some (.int .i64 p) := hc
        have hpb := hb p (by simp)
        have hqb := hb q (by simp)
        have wp : IntKind.i64.wrap (-p) = -p := by rw [IntKind.wrap_i64]; omega
        have wq : IntKind.i64.wrap (-q) = -q := by rw [IntKind.wrap_i64]; omega
        have BB := fun m => BO.out m (-p) (-q) (by omega) (by omega)
        have HE2 : Hid (litG (numP ps) t [p, q] st = (-(Cn.both (-p) (-q) st).1, (Cn.both (-p) (-q) st).2)) := by show _ = _; rw [HE.out, if_neg h1, if_neg h2, if_pos h3]; rfl
        have wx : IntKind.i64.wrap (-(Cn.both (-p) (-q) st).1) = -(Cn.both (-p) (-q) st).1 := wrap_negN _ _ (HB.out _ _) hs
        generalize (Cn.both (-p) (-q) st).1 = bx at *
        generalize (Cn.both (-p) (-q) st).2 = bst at *
        clear hcell hkl hargs hc cx cy hl hal hk2 e' HE hA1 BO hb h LK cm HB
        go_wp2_with (first | (go_at_call 137; refine WH.mono ?_; rintro e w2 ⟨rfl, rfl⟩))
        go_region_with (go_at_call 158; refine (BB 1).mono ?_; rintro e w3 ⟨rfl, M3⟩)
        all_goals
          try simp only [Act.put, List.getElem_toArray, List.getElem_cons_succ, List.getElem_cons_zero, List.setIfInBounds_toArray, List.set_cons_succ, List.set_cons_zero]
          go_wp2_with fail
          go_ret
          rw [HE2.out]
          exact ⟨rfl, M3⟩
      · have d3 : (t.op == 3) = false := by simpa using h3
        by_cases h4 : t.op = 4
        · clear d1 d2 d3
          have hk2 : t.kids.length = 2 := by simpa [whl, h4] using hw
          have hal := hkl (by omega)
          obtain ⟨p, q, rfl⟩ : ∃ p q, args = [p, q] := by
            match args, (show args.length = 2 by omega) with
            | [p, q], _ => exact ⟨p, q, rfl⟩
          obtain ⟨g, off, rfl, hc⟩ := hcell 0 p rfl
          obtain ⟨g', off', e', hd⟩ := hcell 1 q rfl
          obtain ⟨rfl, rfl⟩ : g = g' ∧ off = off' := by simpa using e'
          rw [h4] at c0
          have hc' : w.cell? ⟨g, off, none⟩ = some (.int .i64 p) := hc
          have hpb := hb p (by simp)
          have hqb := hb q (by simp)
          have wp : IntKind.i64.wrap (-p) = -p := by rw [IntKind.wrap_i64]; omega
          have wq : IntKind.i64.wrap (-q) = -q := by rw [IntKind.wrap_i64]; omega
          have BB := fun m => BO.out m (p) (-q) (by omega) (by omega)
          have HE2 : Hid (litG (numP ps) t [p, q] st = (-(Cn.both (p) (-q) st).1, (Cn.both (p) (-q) st).2)) := by show _ = _; rw [HE.out, if_neg h1, if_neg h2, if_neg h3, if_pos h4]; rfl
          have wx : IntKind.i64.wrap (-(Cn.both (p) (-q) st).1) = -(Cn.both (p) (-q) st).1 := wrap_negN _ _ (HB.out _ _) hs
          generalize (Cn.both (p) (-q) st).1 = bx at *
          generalize (Cn.both (p) (-q) st).2 = bst at *
          clear hcell hkl hargs hc cx cy hl hal hk2 e' HE hA1 BO hb h LK cm HB
          go_wp2_with (first | (go_at_call 137; refine WH.mono ?_; rintro e w2 ⟨rfl, rfl⟩))
          go_region_with (go_at_call 158; refine (BB 1).mono ?_; rintro e w3 ⟨rfl, M3⟩)
          all_goals
            try simp only [Act.put, List.getElem_toArray, List.getElem_cons_succ, List.getElem_cons_zero, List.setIfInBounds_toArray, List.set_cons_succ, List.set_cons_zero]
            go_wp2_with fail
            go_ret
            rw [HE2.out]
            exact ⟨rfl, M3⟩
        · have d4 : (t.op == 4) = false := by simpa using h4
          have HE2 : Hid (litG (numP ps) t args st = ((numP ps (t.x, t.y) : Int), st)) := by show _ = _; rw [HE.out, if_neg h1, if_neg h2, if_neg h3, if_neg h4]
          clear hcell hkl hargs hl HE hA1 BO hb h HB
          generalize numP ps (t.x, t.y) = np at *
          go_wp2_with (first | (go_at_call 137; refine WH.mono ?_; rintro e w2 ⟨rfl, rfl⟩))
          go_region_with fail
          all_goals
            try simp only [Act.put, List.getElem_toArray, List.getElem_cons_succ, List.getElem_cons_zero, List.setIfInBounds_toArray, List.set_cons_succ, List.set_cons_zero]
            go_wp2_with fail
            go_ret
            rw [HE2.out]
            exact ⟨rfl, _, _, HM.out 1⟩

end Go.Proofs.YtlehlgipbhfioaaGreat
