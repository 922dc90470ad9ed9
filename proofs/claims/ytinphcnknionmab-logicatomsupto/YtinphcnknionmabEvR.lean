/- The document's Eval. -/
import Derived.Test.YtinphcnknionmabP16
import Derived.WalkKit
import Derived.WalkSpells
import Derived.WalkLawsBesides
import Derived.Deep.OwnRows
import Derived.Deep.LoopGhost
import Derived.Deep.QuietTactic
import Derived.BigRegion
import Derived.BigQuiet
import Derived.Deep.RegionWith
import Derived.Below
namespace Go.Proofs.Ytinphcnknionmab
open Go.RowKit

theorem ret_b {p q : Bool} (h : p = q) : Ending.returned (.bool p) = Ending.returned (.bool q) := by rw [h]

/-- Has a Form as many Kids as told? -/
def whN (op : Int) (n : Nat) : Bool := if op = 0 then n == 0 else if op = 1 then n == 1 else if op = 2 ∨ op = 3 ∨ op = 4 then n == 2 else false

set_option maxHeartbeats 1000000 in
theorem rkids_in (w : World) (op x y : Int) (a : Option Addr) (n cap : Nat) :
    Calls Try.prog 22 #[.agg #[.int .i64 op, .int .i64 x, .int .i64 y, .slice a n cap]] w fun e w' => e = .returned (.bool (whN op n)) ∧ Below w.heap.size w w' := by
  have K1 : ∀ o, Below w.heap.size w (w.alloc o) := fun o => (Below.refl _ w).alloc (Nat.le_refl _) o
  have HW : Hid (whN op n = _) := whN.eq_1 op n
  have hb0 : ((n : Int) == 0) = (n == 0) := by rw [Bool.eq_iff_iff, beq_iff_eq, beq_iff_eq]; omega
  have hb1 : ((n : Int) == 1) = (n == 1) := by rw [Bool.eq_iff_iff, beq_iff_eq, beq_iff_eq]; omega
  have hb2 : ((n : Int) == 2) = (n == 2) := by rw [Bool.eq_iff_iff, beq_iff_eq, beq_iff_eq]; omega
  have HB : Hid (_ ∧ _ ∧ _) := ⟨hb0, hb1, hb2⟩
  clear hb0 hb1 hb2
  go_enter Try.func22, Try.ntmps22
  by_cases h0 : op = 0
  · subst h0
    go_wp2_with fail
    go_ret
    refine ⟨ret_b ?_, K1 _⟩
    rw [HW.out, HB.out.1]
    simp
  · have d0 : (op == 0) = false := by simpa using h0
    by_cases h1 : op = 1
    · subst h1
      go_wp2_with fail
      go_ret
      refine ⟨ret_b ?_, K1 _⟩
      rw [HW.out, HB.out.2.1]
      simp
    · have d1 : (op == 1) = false := by simpa using h1
      by_cases h2 : op = 2
      · subst h2
        go_wp2_with fail
        go_ret
        refine ⟨ret_b ?_, K1 _⟩
        rw [HW.out, HB.out.2.2]
        simp
      · have d2 : (op == 2) = false := by simpa using h2
        by_cases h3 : op = 3
        · subst h3
          go_wp2_with fail
          go_ret
          refine ⟨ret_b ?_, K1 _⟩
          rw [HW.out, HB.out.2.2]
          simp
        · have d3 : (op == 3) = false := by simpa using h3
          by_cases h4 : op = 4
          · subst h4
            go_wp2_with fail
            go_ret
            refine ⟨ret_b ?_, K1 _⟩
            rw [HW.out, HB.out.2.2]
            simp
          · have d4 : (op == 4) = false := by simpa using h4
            go_wp2_with fail
            go_ret
            refine ⟨ret_b ?_, K1 _⟩
            rw [HW.out]
            simp [h0, h1, h2, h3, h4]

theorem LayC.kept {w w' : World} (hB : Below w.heap.size w w') {t : Lf} (h : LayC w t) : LayC w' t := by
  induction h with
  | mk c0 c1 c2 c3 hk _ ih =>
    have kc : ∀ p v, w.cell? p = some v → w'.cell? p = some v := fun p v hp => (hB.cell (World.block_lt_of_cell? w p hp)).trans hp
    exact .mk (kc _ _ c0) (kc _ _ c1) (kc _ _ c2) (kc _ _ c3) hk ih

/-- Classes in memory. -/
def ClsAt (w : World) (ca : Option Addr) (cls : List Int) : Prop :=
  cls = [] ∨ ∃ g off, ca = some ⟨g, off, none⟩ ∧ ∀ (j : Nat) (c : Int), cls[j]? = some c → w.cell? ⟨g, off + j, none⟩ = some (.int .i64 c)
theorem ClsAt.below {w w' : World} {ca : Option Addr} {cls : List Int} (hB : Below w.heap.size w w') (h : ClsAt w ca cls) : ClsAt w' ca cls := by
  rcases h with e | ⟨g, off, h1, h2⟩
  · exact Or.inl e
  · exact Or.inr ⟨g, off, h1, fun j c hj => (hB.cell (World.block_lt_of_cell? w _ (h2 j c hj))).trans (h2 j c hj)⟩

/-- What the document's Eval answers of a Form. -/
def REv (t : Lf) : Prop := ∀ (w : World) (ca : Option Addr) (cc : Nat) (cls : List Int), ClsAt w ca cls → KidsIn t.kv t.kids → (∀ k ∈ t.kids, LayC w k) →
  Calls Try.prog 9 #[.agg #[.int .i64 t.op, .int .i64 t.x, .int .i64 t.y, t.kv], .slice ca cls.length cc] w fun e w' => e = .returned (.bool (evF cls t.er)) ∧ Below w.heap.size w w'

set_option maxRecDepth 100000 in
set_option maxHeartbeats 2000000 in
/-- .. of an equality, and of a Form that has not as many Kids as told. -/
theorem rev_leaf (t : Lf) (hleaf : t.op = 0 ∨ whN t.op t.kids.length = false) : REv t := by
  intro w ca cc cls hc hk hks
  obtain ⟨b, o, op, x, y, kv, kids⟩ := t
  simp only [Lf.op, Lf.x, Lf.y, Lf.kv, Lf.kids] at hleaf hk hks ⊢
  obtain ⟨a, cap, rfl, hcap, hkk⟩ := hk
  have HE : Hid (evF cls (Lf.er (.mk b o op x y (.slice a kids.length cap) kids)) = evN cls op x y kids.length (kids.map fun k => evF cls k.er)) := by
    show _ = _
    simp only [Lf.er, evF, List.length_map, List.map_map]
    rfl
  generalize hn : kids.length = n at *
  have RK : Calls Try.prog 22 #[.agg #[.int .i64 op, .int .i64 x, .int .i64 y, .slice a n cap]] (w.alloc (.cells #[.int .i64 op, .int .i64 x, .int .i64 y, .slice a n cap] 26)) fun e w' => e = .returned (.bool (whN op n)) ∧ Below w.heap.size w w' ∧ w'.cell? ⟨w.heap.size, 0, none⟩ = some (.int .i64 op) ∧ w'.cell? ⟨w.heap.size, 1, none⟩ = some (.int .i64 x) ∧ w'.cell? ⟨w.heap.size, 2, none⟩ = some (.int .i64 y) ∧ w'.cell? ⟨w.heap.size, 3, none⟩ = some (.slice a n cap) := by
    refine (rkids_in _ op x y a n cap).mono ?_
    rintro e w' ⟨rfl, B⟩
    have hz : w.heap.size < (w.alloc (.cells #[.int .i64 op, .int .i64 x, .int .i64 y, .slice a n cap] 26)).heap.size := by simp
    refine ⟨rfl, ((Below.refl _ w).alloc (Nat.le_refl _) _).trans (B.mono (by simp)), ?_, ?_, ?_, ?_⟩ <;>
      (rw [B.cell hz]; simp [go_sem])
  cases hw : whN op n with
  | false =>
    rw [hw] at RK
    go_enter Try.func9, Try.ntmps9
    go_wp2_with (first | (go_at_call 22; refine RK.mono ?_; rintro e w2 ⟨rfl, B2, c0, c1, c2, c3⟩))
    go_ret
    refine ⟨ret_b ?_, B2⟩
    rw [HE.out]
    unfold whN at hw
    unfold evN
    by_cases h0 : op = 0
    · simp [h0] at hw ⊢; simp [hw]
    · by_cases h1 : op = 1
      · simp [h1] at hw ⊢; simp [hw]
      · by_cases h2 : op = 2
        · simp [h2] at hw ⊢; simp [hw]
        · by_cases h3 : op = 3
          · simp [h3] at hw ⊢; simp [hw]
          · by_cases h4 : op = 4
            · simp [h4] at hw ⊢; simp [hw]
            · simp [h0, h1, h2, h3, h4]
  | true =>
    rw [hw] at RK
    by_cases h0 : op = 0
    · subst h0
      have hn0 : n = 0 := by simpa [whN] using hw
      have HE2 : Hid (evF cls (Lf.er (.mk b o 0 x y (.slice a n cap) kids)) = sameC cls x y) := by
        show _ = _
        rw [HE.out]
        simp [evN, hn0]
      clear HE hn hks hkk hcap hw hleaf
      subst hn0
      go_enter Try.func9, Try.ntmps9
      by_cases hx0 : 0 ≤ x
      · by_cases hx1 : x < (cls.length : Int)
        · by_cases hy0 : 0 ≤ y
          · by_cases hy1 : y < (cls.length : Int)
            · obtain ⟨p, rfl⟩ : ∃ i : Nat, x = (i : Int) := ⟨x.toNat, by omega⟩
              obtain ⟨q, rfl⟩ : ∃ i : Nat, y = (i : Int) := ⟨y.toNat, by omega⟩
              have hp : p < cls.length := by omega
              have hq : q < cls.length := by omega
              rcases hc with e | ⟨g, off, rfl, hc⟩
              · rw [e] at hp; simp at hp
              · have e1 := hc p _ (List.getElem?_eq_getElem hp)
                have e2 := hc q _ (List.getElem?_eq_getElem hq)
                have zg : g < w.heap.size := World.block_lt_of_cell? w _ e1
                have HS : Hid (sameC cls p q = (cls[p] == cls[q])) := by
                  show _ = _
                  simp [sameC, inC, hp, hq]
                clear hc
                generalize cls[p] = cp at *
                generalize cls[q] = cq at *
                go_wp2_with (first | (go_at_call 22; refine RK.mono ?_; rintro e w2 ⟨rfl, B2, c0, c1, c2, c3⟩; have f1 := (B2.cell (p := ⟨g, off + p, none⟩) zg).trans e1; have f2 := (B2.cell (p := ⟨g, off + q, none⟩) zg).trans e2))
                go_quiet (fail)
                go_wp2_with fail
                go_ret
                exact ⟨ret_b (by rw [HE2.out, HS.out]), B2.trans ⟨rfl, rfl, rfl, Nat.le_refl _, fun _ _ => rfl⟩⟩
            · skip
              have HS : Hid (sameC cls x y = false) := by show _ = _; simp [sameC, inC, hy1]
              have dd : decide (y < (cls.length : Int)) = false := decide_eq_false hy1
              clear hy1
              go_wp2_with (first | (go_at_call 22; refine RK.mono ?_; rintro e w2 ⟨rfl, B2, c0, c1, c2, c3⟩))
              go_quiet (fail)
              go_wp2_with fail
              go_ret
              exact ⟨ret_b (by rw [HE2.out, HS.out]), B2.trans ⟨rfl, rfl, rfl, Nat.le_refl _, fun _ _ => rfl⟩⟩
          · skip
            have HS : Hid (sameC cls x y = false) := by show _ = _; simp [sameC, inC, hy0]
            have dd : decide (0 ≤ y) = false := decide_eq_false hy0
            clear hy0
            go_wp2_with (first | (go_at_call 22; refine RK.mono ?_; rintro e w2 ⟨rfl, B2, c0, c1, c2, c3⟩))
            go_quiet (fail)
            go_wp2_with fail
            go_ret
            exact ⟨ret_b (by rw [HE2.out, HS.out]), B2.trans ⟨rfl, rfl, rfl, Nat.le_refl _, fun _ _ => rfl⟩⟩
        · skip
          have HS : Hid (sameC cls x y = false) := by show _ = _; simp [sameC, inC, hx1]
          have dd : decide (x < (cls.length : Int)) = false := decide_eq_false hx1
          clear hx1
          go_wp2_with (first | (go_at_call 22; refine RK.mono ?_; rintro e w2 ⟨rfl, B2, c0, c1, c2, c3⟩))
          go_quiet (fail)
          go_wp2_with fail
          go_ret
          exact ⟨ret_b (by rw [HE2.out, HS.out]), B2.trans ⟨rfl, rfl, rfl, Nat.le_refl _, fun _ _ => rfl⟩⟩
      · skip
        have HS : Hid (sameC cls x y = false) := by show _ = _; simp [sameC, inC, hx0]
        have dd : decide (0 ≤ x) = false := decide_eq_false hx0
        clear hx0
        go_wp2_with (first | (go_at_call 22; refine RK.mono ?_; rintro e w2 ⟨rfl, B2, c0, c1, c2, c3⟩))
        go_quiet (fail)
        go_wp2_with fail
        go_ret
        exact ⟨ret_b (by rw [HE2.out, HS.out]), B2.trans ⟨rfl, rfl, rfl, Nat.le_refl _, fun _ _ => rfl⟩⟩
    · rcases hleaf with e | e
      · exact absurd e h0
      · rw [hw] at e; cases e

end Go.Proofs.Ytinphcnknionmab
