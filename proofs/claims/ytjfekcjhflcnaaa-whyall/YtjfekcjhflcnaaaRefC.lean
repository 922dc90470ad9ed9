/- The document's lists of terms: same, clashes. -/
import Derived.Test.YtjfekcjhflcnaaaRefA
import Derived.Test.YtjfekcjhflcnaaaTermT
namespace Go.Proofs.Ytjfekcjhflcnaaa
open Go.RowKit

def lsC (l : List Tm) (vs : List Value) : List Value := (l.zip vs).flatMap fun x => [.string x.1.name, x.2]

/-- A term's args lie at v. -/
abbrev ArgsAt1 (w : World) (base : Nat) (xs : List Nat) (v : Value) : Prop := w.ownsRow base 3 1 v xs.length (argC xs)

/-- A list of the document's terms at av; their args at vs. -/
structure Ls (w : World) (base : Nat) (av : Value) (l : List Tm) (vs : List Value) : Prop where
  len : vs.length = l.length
  row : w.ownsRow base 114 2 av l.length (lsC l vs)
  args : ∀ (i : Nat) (t : Tm) (v : Value), l[i]? = some t → vs[i]? = some v → ArgsAt1 w base t.args v

theorem lsC_get (l : List Tm) (vs : List Value) (i j : Nat) (hj : j < 2) : (lsC l vs)[i * 2 + j]? = ((l.zip vs)[i]?).bind (fun x => ([.string x.1.name, x.2] : List Value)[j]?) := by
  unfold lsC
  generalize l.zip vs = z
  induction z generalizing i with
  | nil => simp
  | cons t z ih =>
    cases i with
    | zero => rcases (by omega : j = 0 ∨ j = 1) with rfl | rfl <;> simp
    | succ i =>
      have e : (i + 1) * 2 + j = 2 + (i * 2 + j) := by omega
      rw [List.flatMap_cons, e, List.getElem?_append_right (by simp), List.getElem?_cons_succ]
      have e2 : 2 + (i * 2 + j) - ([.string t.1.name, t.2] : List Value).length = i * 2 + j := by simp
      rw [e2]
      exact ih i

theorem Ls.at {w : World} {base : Nat} {av : Value} {l : List Tm} {vs : List Value} (h : Ls w base av l vs) {i : Nat} {t : Tm} (hi : l[i]? = some t) :
    ∃ g cap v, av = .slice (some ⟨g, 0, none⟩) l.length cap ∧ vs[i]? = some v ∧ w.cell? ⟨g, i * 2, none⟩ = some (.string t.name) ∧ w.cell? ⟨g, i * 2 + 1, none⟩ = some v ∧ ArgsAt1 w base t.args v := by
  have hlt : i < l.length := (List.getElem?_eq_some_iff.1 hi).1
  have hiv : i < vs.length := by rw [h.len]; exact hlt
  have hv : vs[i]? = some vs[i] := List.getElem?_eq_getElem hiv
  have hz : (l.zip vs)[i]? = some (t, vs[i]) := by
    rw [List.getElem?_zip_eq_some]
    exact ⟨hi, hv⟩
  rcases h.row.2 with ⟨e, h0⟩ | ⟨b, cap, cur, e, _⟩
  · omega
  · have cell : ∀ j u, j < 2 → ([.string t.name, vs[i]] : List Value)[j]? = some u → w.cell? ⟨b, i * 2 + j, none⟩ = some u := by
      intro j u hj hu
      have := h.row.cells (g := b) (by rw [e]; rfl) (i * 2 + j) u (by rw [lsC_get l vs i j hj, hz]; exact hu)
      simp [Addr.add] at this
      split at this
      · next e0 => rw [e0.1, e0.2]; exact this
      · exact this
    exact ⟨b, cap, vs[i], e, hv, cell 0 _ (by omega) rfl, cell 1 _ (by omega) rfl, h.args i t _ hi hv⟩

theorem Ls.form {w : World} {base : Nat} {av : Value} {l : List Tm} {vs : List Value} (h : Ls w base av l vs) : ∃ a c, av = .slice a l.length c := row_form h.row
theorem Ls.drewN {w : World} {base : Nat} {av : Value} {l : List Tm} {vs : List Value} (h : Ls w base av l vs) (m : Nat) : Ls (w.drewN m) base av l vs := ⟨h.len, h.row, h.args⟩
theorem Ls.kept0 {w w' : World} {base : Nat} {av : Value} {l : List Tm} {vs : List Value} (h : Ls w base av l vs) (K : Kept0 w w') : Ls w' base av l vs :=
  ⟨h.len, h.row.kept K.grownBy (Decidable.em _), fun i t v h1 h2 => (h.args i t v h1 h2).kept K.grownBy (Decidable.em _)⟩

/-- An arg's cell. -/
theorem arg_cell {w : World} {base : Nat} {xs : List Nat} {v : Value} (h : ArgsAt1 w base xs v) {j : Nat} (hj : j < xs.length) : ∃ g cap, v = .slice (some ⟨g, 0, none⟩) xs.length cap ∧ w.cell? ⟨g, j, none⟩ = some (.int .i64 (xs[j] : Int)) := by
  rcases h.2 with ⟨e, h0⟩ | ⟨b, cap, cur, e, _⟩
  · omega
  · refine ⟨b, cap, e, ?_⟩
    have := h.cells (g := b) (by rw [e]; rfl) j (.int .i64 (xs[j] : Int)) (by simp [argC, List.getElem?_eq_getElem hj])
    simp [Addr.add] at this
    split at this
    · next e0 => subst e0; exact this
    · exact this

theorem args_take {a b : List Nat} (hl : a.length = b.length) {k : Nat} (hk : k < a.length) (h : a.take k = b.take k) (he : a[k]'hk = b[k]'(hl ▸ hk)) : a.take (k + 1) = b.take (k + 1) := by
  rw [List.take_add_one, List.take_add_one, h, List.getElem?_eq_getElem hk, List.getElem?_eq_getElem (hl ▸ hk), he]

theorem toList_name {a b : ByteArray} (h : a.toList = b.toList) : a = b := by
  rw [ByteArray.toList_eq, ByteArray.toList_eq] at h
  exact WideShapes.bytes_inj h

set_option maxHeartbeats 1000000 in
theorem same1_in (w : World) (base : Nat) (t u : Tm) (vt vu : Value) (ht : ArgsAt1 w base t.args vt) (hu : ArgsAt1 w base u.args vu) (h4 : t.args.length ≤ 4) :
    Calls Try.prog 148 #[.agg #[.string t.name, vt], .agg #[.string u.name, vu]] w fun e w' => e = .returned (.bool (decide (t = u))) ∧ Kept0 w w' := by
  obtain ⟨ta, tc, rfl⟩ := row_form ht
  obtain ⟨ua, uc, rfl⟩ := row_form hu
  have K1 : Kept0 w (w.alloc (.cells #[.string t.name, .slice ta t.args.length tc] 114)) := Kept.alloc (Kept.refl _ w) _
  have R1 := made_row w #[.string t.name, .slice ta t.args.length tc] 114
  have s1 : (w.alloc (.cells #[.string t.name, .slice ta t.args.length tc] 114)).heap.size = w.heap.size + 1 := by simp
  generalize hw1 : w.alloc (.cells #[.string t.name, .slice ta t.args.length tc] 114) = w1 at *
  have K2 : Kept0 w1 (w1.alloc (.cells #[.string u.name, .slice ua u.args.length uc] 114)) := Kept.alloc (Kept.refl _ w1) _
  have R2 := made_row w1 #[.string u.name, .slice ua u.args.length uc] 114
  rw [s1] at R2
  generalize hw2 : w1.alloc (.cells #[.string u.name, .slice ua u.args.length uc] 114) = w2 at *
  have R1' := World.rowIs.of_block R1 (K2.block w.heap.size (World.rowIs.lt R1) (fun e => e))
  have K : Kept0 w w2 := Kept.trans K1 K2
  have ht2 := ht.kept K.grownBy (Decidable.em _)
  have hu2 := hu.kept K.grownBy (Decidable.em _)
  have a0 : w2.cell? ⟨w.heap.size, 0, none⟩ = some (.string t.name) := World.rowIs.cell R1' (i := 0) (by simp)
  have a1 : w2.cell? ⟨w.heap.size, 1, none⟩ = some (.slice ta t.args.length tc) := World.rowIs.cell R1' (i := 1) (by simp)
  have b0 : w2.cell? ⟨w.heap.size + 1, 0, none⟩ = some (.string u.name) := World.rowIs.cell R2 (i := 0) (by simp)
  have b1 : w2.cell? ⟨w.heap.size + 1, 1, none⟩ = some (.slice ua u.args.length uc) := World.rowIs.cell R2 (i := 1) (by simp)
  go_enter Try.func148, Try.ntmps148
  by_cases hn' : t.name = u.name
  · have hn : Hid (t.name = u.name) := hn'
    have dn : (t.name.toList == u.name.toList) = true := by rw [hn']; simp
    clear hn'
    by_cases hl' : t.args.length = u.args.length
    · have hl : Hid (t.args.length = u.args.length) := hl'
      have dl : ((t.args.length : Int) != (u.args.length : Int)) = false := by simp [hl']
      clear hl'
      go_wp2_with fail
      go_loopw [5] (fun t5 W => ∃ k : Nat, k ≤ t.args.length ∧ t5 = .int .i64 (k : Int) ∧ Hid (t.args.take k = u.args.take k) ∧ ∃ m, W = w2.drewN m) (fun t5 _ => t.args.length - (intOf t5).toNat)
      case atStart => exact ⟨0, by omega, rfl, by simp [Hid], 0, rfl⟩
      case round =>
        obtain ⟨k, hk, rfl, htk, m, rfl⟩ := hrel
        by_cases hk2 : k < t.args.length
        · have dk : decide ((k : Int) < (t.args.length : Int)) = true := decide_eq_true (by omega)
          have hk3 : k < u.args.length := by rw [← hl.out]; exact hk2
          obtain ⟨g, cap, hg1, hg2⟩ := arg_cell ht2 hk2
          obtain ⟨g', cap', hg3, hg4⟩ := arg_cell hu2 hk3
          injection hg1 with e1 _ e3
          injection hg3 with e4 _ e6
          subst e1 e3 e4 e6
          by_cases he : t.args[k] = u.args[k]
          · have hE : Hid (t.args.take (k + 1) = u.args.take (k + 1)) := args_take hl.out hk2 htk.out he
            have de : ((t.args[k] : Int) != (u.args[k] : Int)) = false := by simp [he]
            clear he
            go_wp2_with fail
            go_quiet (fail)
            go_wp2_with fail
            go_roundw
            case rel => exact ⟨k + 1, by omega, by go_num, hE, _, rfl⟩
            case measure => simp [intOf]; omega
          · have de : ((t.args[k] : Int) != (u.args[k] : Int)) = true := by simp; omega
            go_wp2_with fail
            go_quiet (fail)
            go_wp2_with fail
            go_ret
            refine ⟨ret_bool (decide_eq_false fun e => he ?_).symm, Kept.drewN (Kept.drewN K _) _⟩
            subst e; rfl
        · have dk : decide ((k : Int) < (t.args.length : Int)) = false := decide_eq_false (by omega)
          have hkl : k = t.args.length := by omega
          go_wp2_with fail
          go_ret
          refine ⟨ret_bool (decide_eq_true ?_).symm, Kept.drewN K _⟩
          have e1 : t.args = u.args := by
            have := htk.out
            rw [hkl, List.take_length] at this
            rw [hl.out, List.take_length] at this
            exact this
          have e2 := hn.out
          cases t; cases u; simp at e2 e1 ⊢; exact ⟨e2, e1⟩
    · have dl : ((t.args.length : Int) != (u.args.length : Int)) = true := by simp; omega
      go_wp2_with fail
      go_ret
      exact ⟨ret_bool (decide_eq_false fun e => hl' (by rw [e])).symm, K⟩
  · have dn : (t.name.toList == u.name.toList) = false := beq_eq_false_iff_ne.2 (fun e => hn' (toList_name e))
    go_wp2_with fail
    go_ret
    exact ⟨ret_bool (decide_eq_false fun e => hn' (by rw [e])).symm, K⟩
