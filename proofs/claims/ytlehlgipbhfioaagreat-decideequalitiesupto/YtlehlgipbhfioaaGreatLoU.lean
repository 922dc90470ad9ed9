/- Package logic: what Eval makes of a Form. -/
import Derived.Test.YtlehlgipbhfioaaGreatP36
import Derived.Test.YtlehlgipbhfioaaGreatLoR
import Derived.Deep.RegionWith
namespace Go.Proofs.YtlehlgipbhfioaaGreat
open Go.RowKit Go.Shelf

theorem two_of {l : List Bool} (h : l.length = 2) : ∃ p q, l = [p, q] := by
  match l, h with
  | [p, q], _ => exact ⟨p, q, rfl⟩

/-- What a Form comes to, by its Kids. -/
def evG (cls : List Int) (t : Lf) (args : List Bool) : Bool :=
  if whl t = false then false
  else if t.op = 1 then !(args[0]?.getD false)
  else if t.op = 2 then args[0]?.getD false && args[1]?.getD false
  else if t.op = 3 then args[0]?.getD false || args[1]?.getD false
  else if t.op = 4 then !(args[0]?.getD false) || args[1]?.getD false
  else sameC cls t.x t.y

set_option maxRecDepth 100000 in
set_option maxHeartbeats 2000000 in
theorem eval2_in (w : World) (sb bb cb : Nat) (ca : Option Addr) (cn cc : Nat) (cls : List Int) (hs : w.rowIs sb 241 1 (fun _ => .func (.func 134) #[] #[.pointer (some ⟨bb, 0, none⟩), .pointer (some ⟨cb, 0, none⟩)])) (h : Cls w bb cb ca cn cc cls) (t : Lf) (ht : Here w t) (hx : R64 t.x) (hy : R64 t.y) (sv : Value) (args : List Bool) (hA : BoolsAt w sv args) (hl : args.length = t.ks.length) :
    Calls Tryz.prog 136 #[.pointer (some ⟨t.b, t.o, none⟩), sv, .pointer (some ⟨sb, 0, none⟩)] w fun e w' => e = .returned (.bool (evG cls t args)) ∧ Kept0 w w' := by
  have WH := isWhole_in w t ht
  have c0 := ht.cells.c0
  have cx := ht.cells.c1
  have cy := ht.cells.c2
  have cs := hs.cell (i := 0) (by omega)
  have SM : ∀ m, Calls Tryz.prog 134 #[.agg #[.int .i64 t.x, .int .i64 t.y], .pointer (some ⟨bb, 0, none⟩), .pointer (some ⟨cb, 0, none⟩)] (w.drewN m) fun e w' => e = .returned (.bool (sameC cls t.x t.y)) ∧ Kept0 w w' := fun m => (same_in (w.drewN m) bb cb ca cn cc cls ⟨h.bnd, h.cbx, h.len, h.cells, h.small⟩ t.x t.y hx hy).mono (fun _ _ hh => ⟨hh.1, ((Kept.refl _ w).drewN m).trans hh.2⟩)
  obtain ⟨sa, scap, rfl, hargs⟩ := hA
  have K0 : Kept0 w w := Kept.refl _ w
  have KN : ∀ m, Kept0 w (w.drewN m) := fun m => (Kept.refl _ w).drewN m
  have HE : Hid (evG cls t args = _) := evG.eq_1 cls t args
  go_enter Tryz.func136, Tryz.ntmps136
  cases hw : whl t with
  | false =>
    rw [hw] at WH HE
    go_wp2_with (first | (go_at_call 137; refine WH.mono ?_; rintro e w2 ⟨rfl, rfl⟩))
    go_ret
    exact ⟨ret_bool (by rw [HE.out]; simp), K0⟩
  | true =>
    rw [hw] at WH HE
    have hcell : ∀ (j : Nat) (b : Bool), args[j]? = some b → ∃ g off, sa = some ⟨g, off, none⟩ ∧ w.cell? ⟨g, off + j, none⟩ = some (.bool b) := fun j b hj => by
      rcases hargs with e | ⟨g, off, e1, e2⟩
      · rw [e] at hj; simp at hj
      · exact ⟨g, off, e1, e2 j b hj⟩
    have hkl : t.op ≠ 0 → args.length = t.kids.length := fun h0 => by rw [hl]; simp [Lf.ks, h0]
    by_cases h1 : t.op = 1
    · have hk1 : t.kids.length = 1 := by simpa [whl, h1] using hw
      have hal := hkl (by omega)
      obtain ⟨p, rfl⟩ : ∃ p, args = [p] := List.length_eq_one_iff.1 (by omega)
      obtain ⟨g, off, rfl, hc⟩ := hcell 0 p rfl
      rw [h1] at c0
      have hc' : w.cell? ⟨g, off, none⟩ = some (.bool p) := hc
      clear hcell hkl hargs hc cx cy SM cs hl hal hk1
      go_wp2_with (first | (go_at_call 137; refine WH.mono ?_; rintro e w2 ⟨rfl, rfl⟩))
      go_ret
      exact ⟨ret_bool (by rw [HE.out]; simp [h1]), K0⟩
    · have d1 : (t.op == 1) = false := by simpa using h1
      by_cases h2 : t.op = 2
      · clear d1
        have hk2 : t.kids.length = 2 := by simpa [whl, h2] using hw
        have hal := hkl (by omega)
        obtain ⟨p, q, rfl⟩ : ∃ p q, args = [p, q] := two_of (by omega)
        obtain ⟨g, off, rfl, hc⟩ := hcell 0 p rfl
        obtain ⟨g', off', e', hd⟩ := hcell 1 q rfl
        obtain ⟨rfl, rfl⟩ : g = g' ∧ off = off' := by simpa using e'
        rw [h2] at c0
        have hc' : w.cell? ⟨g, off, none⟩ = some (.bool p) := hc
        clear hcell hkl hargs hc cx cy SM cs hl hal hk2 e'
        cases p <;>
          (go_wp2_with (first | (go_at_call 137; refine WH.mono ?_; rintro e w2 ⟨rfl, rfl⟩))
           go_ret
           exact ⟨ret_bool (by rw [HE.out]; simp [h2]), K0⟩)
      · have d2 : (t.op == 2) = false := by simpa using h2
        by_cases h3 : t.op = 3
        · clear d1 d2
          have hk2 : t.kids.length = 2 := by simpa [whl, h3] using hw
          have hal := hkl (by omega)
          obtain ⟨p, q, rfl⟩ : ∃ p q, args = [p, q] := two_of (by omega)
          obtain ⟨g, off, rfl, hc⟩ := hcell 0 p rfl
          obtain ⟨g', off', e', hd⟩ := hcell 1 q rfl
          obtain ⟨rfl, rfl⟩ : g = g' ∧ off = off' := by simpa using e'
          rw [h3] at c0
          have hc' : w.cell? ⟨g, off, none⟩ = some (.bool p) := hc
          clear hcell hkl hargs hc cx cy SM cs hl hal hk2 e'
          cases p <;>
            (go_wp2_with (first | (go_at_call 137; refine WH.mono ?_; rintro e w2 ⟨rfl, rfl⟩))
             go_ret
             exact ⟨ret_bool (by rw [HE.out]; simp [h3]), K0⟩)
        · have d3 : (t.op == 3) = false := by simpa using h3
          by_cases h4 : t.op = 4
          · clear d1 d2 d3
            have hk2 : t.kids.length = 2 := by simpa [whl, h4] using hw
            have hal := hkl (by omega)
            obtain ⟨p, q, rfl⟩ : ∃ p q, args = [p, q] := two_of (by omega)
            obtain ⟨g, off, rfl, hc⟩ := hcell 0 p rfl
            obtain ⟨g', off', e', hd⟩ := hcell 1 q rfl
            obtain ⟨rfl, rfl⟩ : g = g' ∧ off = off' := by simpa using e'
            rw [h4] at c0
            have hc' : w.cell? ⟨g, off, none⟩ = some (.bool p) := hc
            clear hcell hkl hargs hc cx cy SM cs hl hal hk2 e'
            cases p <;>
              (go_wp2_with (first | (go_at_call 137; refine WH.mono ?_; rintro e w2 ⟨rfl, rfl⟩))
               go_ret
               exact ⟨ret_bool (by rw [HE.out]; simp [h4]), K0⟩)
          · have d4 : (t.op == 4) = false := by simpa using h4
            have HE2 : Hid (evG cls t args = sameC cls t.x t.y) := by
              show _ = _
              rw [HE.out]
              simp [h1, h2, h3, h4]
            clear hcell hkl hargs HE
            go_wp2_with (first | (go_at_call 137; refine WH.mono ?_; rintro e w2 ⟨rfl, rfl⟩))
            go_region_with (go_at_call 134; refine (SM 1).mono ?_; rintro e w3 ⟨rfl, K3⟩)
            all_goals
              try simp only [Act.put, List.getElem_toArray, List.getElem_cons_succ, List.getElem_cons_zero, List.setIfInBounds_toArray, List.set_cons_succ, List.set_cons_zero]
              go_wp2_with fail
              go_ret
              exact ⟨ret_bool (by rw [HE2.out]), K3⟩

end Go.Proofs.YtlehlgipbhfioaaGreat
