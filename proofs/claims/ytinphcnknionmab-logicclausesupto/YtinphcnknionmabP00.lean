/- Formulas, plainly and in memory, whichever package they are of. The document's Eval. A row of numbers of one's own. The plain mathematics of package find: trees with a least number, and joins that can be taken back. No Go here. Package find, the functions that only read: has, root, Count, Mark, Least, Same. -/
import Derived.Test.YtinphcnknionmabProg
import Derived.WalkKit
import Derived.WalkSpells
import Derived.WalkLawsBesides
import Derived.Deep.OwnRows
import Derived.Deep.LoopGhost
import Derived.Deep.QuietTactic
import Derived.BigRegion
import Derived.BigQuiet
import Derived.Deep.RegionWith
import Derived.Below
import Derived.Test.YtinphcnknionmabRows
namespace Go.Proofs.Ytinphcnknionmab

/-- A Form. -/
inductive Fo where
  | mk (op x y : Int) (kids : List Fo)

/-- A Form that lies at an address; its slice of Kids. -/
inductive Lf where
  | mk (b o : Nat) (op x y : Int) (kv : Value) (kids : List Lf)

def Lf.b : Lf → Nat | .mk b _ _ _ _ _ _ => b
def Lf.o : Lf → Nat | .mk _ o _ _ _ _ _ => o
def Lf.op : Lf → Int | .mk _ _ op _ _ _ _ => op
def Lf.x : Lf → Int | .mk _ _ _ x _ _ _ => x
def Lf.y : Lf → Int | .mk _ _ _ _ y _ _ => y
def Lf.kv : Lf → Value | .mk _ _ _ _ _ kv _ => kv
def Lf.kids : Lf → List Lf | .mk _ _ _ _ _ _ ks => ks

/-- What it is. -/
def Lf.er : Lf → Fo
  | .mk _ _ op x y _ kids => .mk op x y (kids.map Lf.er)

/-- The slice kv holds these Kids. -/
def KidsIn (kv : Value) (kids : List Lf) : Prop :=
  ∃ a cap, kv = .slice a kids.length cap ∧ kids.length ≤ cap ∧ (kids = [] ∨ ∃ kb ko, a = some ⟨kb, ko, none⟩ ∧ ∀ (j : Nat) (t : Lf), kids[j]? = some t → t.b = kb ∧ t.o = ko + j * 4)

def inC (n : Nat) (a : Int) : Bool := decide (0 ≤ a ∧ a < n)
def sameC (cls : List Int) (a b : Int) : Bool := inC cls.length a && inC cls.length b && (cls[a.toNat]?.getD 0 == cls[b.toNat]?.getD 0)

/-- A number of the program. -/
def R64 (a : Int) : Prop := -9223372036854775808 ≤ a ∧ a ≤ 9223372036854775807

/-- One Form of so many Kids, by what these come to. -/
def evN (cls : List Int) (op x y : Int) (n : Nat) (args : List Bool) : Bool :=
  if op = 0 then n == 0 && sameC cls x y
  else if op = 1 then n == 1 && !(args[0]?.getD false)
  else if op = 2 then n == 2 && (args[0]?.getD false && args[1]?.getD false)
  else if op = 3 then n == 2 && (args[0]?.getD false || args[1]?.getD false)
  else if op = 4 then n == 2 && (!(args[0]?.getD false) || args[1]?.getD false)
  else false

/-- The document's Eval. -/
def evF (cls : List Int) : Fo → Bool
  | .mk op x y kids => evN cls op x y kids.length (kids.map (evF cls))

/-- A Form and all its Kids in cells, of whichever type. -/
inductive LayC (W : World) : Lf → Prop where
  | mk {b o : Nat} {op x y : Int} {kv : Value} {kids : List Lf} (c0 : W.cell? ⟨b, o, none⟩ = some (.int .i64 op)) (c1 : W.cell? ⟨b, o + 1, none⟩ = some (.int .i64 x)) (c2 : W.cell? ⟨b, o + 2, none⟩ = some (.int .i64 y)) (c3 : W.cell? ⟨b, o + 3, none⟩ = some kv) (hk : KidsIn kv kids) (h : ∀ k ∈ kids, LayC W k) : LayC W (.mk b o op x y kv kids)

end Go.Proofs.Ytinphcnknionmab

namespace Go.Proofs.Ytinphcnknionmab
open Go.RowKit

theorem ret_b {p q : Bool} (h : p = q) : Ending.returned (.bool p) = Ending.returned (.bool q) := by rw [h]

/-- Has a Form as many Kids as told? -/
def whN (op : Int) (n : Nat) : Bool := if op = 0 then n == 0 else if op = 1 then n == 1 else if op = 2 ∨ op = 3 ∨ op = 4 then n == 2 else false

set_option maxHeartbeats 1000000 in
theorem rkids_in (w : World) (op x y : Int) (a : Option Addr) (n cap : Nat) :
    Calls Try.prog 22 #[.agg #[.int .i64 op, .int .i64 x, .int .i64 y, .slice a n cap]] w fun e w' => e = .returned (.bool (whN op n)) ∧ Below w.heap.size w w' := by
  have K1 : ∀ o, Below w.heap.size w (w.alloc o) := fun o => (Below.refl _ w).alloc (Nat.le_refl _) o
  have HW : Hid (whN op n = _) := whN.eq_1 op n
  have hb0 : ((n : Int) == 0) = (n == 0) := by rw [Bool.eq_iff_iff, beq_iff_eq, beq_iff_eq]; omega
  have hb1 : ((n : Int) == 1) = (n == 1) := by rw [Bool.eq_iff_iff, beq_iff_eq, beq_iff_eq]; omega
  have hb2 : ((n : Int) == 2) = (n == 2) := by rw [Bool.eq_iff_iff, beq_iff_eq, beq_iff_eq]; omega
  have HB : Hid (_ ∧ _ ∧ _) := ⟨hb0, hb1, hb2⟩
  clear hb0 hb1 hb2
  go_enter Try.func22, Try.ntmps22
  by_cases h0 : op = 0
  · subst h0
    go_wp2_with fail
    go_ret
    refine ⟨ret_b ?_, K1 _⟩
    rw [HW.out, HB.out.1]
    simp
  · have d0 : (op == 0) = false := by simpa using h0
    by_cases h1 : op = 1
    · subst h1
      go_wp2_with fail
      go_ret
      refine ⟨ret_b ?_, K1 _⟩
      rw [HW.out, HB.out.2.1]
      simp
    · have d1 : (op == 1) = false := by simpa using h1
      by_cases h2 : op = 2
      · subst h2
        go_wp2_with fail
        go_ret
        refine ⟨ret_b ?_, K1 _⟩
        rw [HW.out, HB.out.2.2]
        simp
      · have d2 : (op == 2) = false := by simpa using h2
        by_cases h3 : op = 3
        · subst h3
          go_wp2_with fail
          go_ret
          refine ⟨ret_b ?_, K1 _⟩
          rw [HW.out, HB.out.2.2]
          simp
        · have d3 : (op == 3) = false := by simpa using h3
          by_cases h4 : op = 4
          · subst h4
            go_wp2_with fail
            go_ret
            refine ⟨ret_b ?_, K1 _⟩
            rw [HW.out, HB.out.2.2]
            simp
          · have d4 : (op == 4) = false := by simpa using h4
            go_wp2_with fail
            go_ret
            refine ⟨ret_b ?_, K1 _⟩
            rw [HW.out]
            simp [h0, h1, h2, h3, h4]

theorem LayC.kept {w w' : World} (hB : Below w.heap.size w w') {t : Lf} (h : LayC w t) : LayC w' t := by
  induction h with
  | mk c0 c1 c2 c3 hk _ ih =>
    have kc : ∀ p v, w.cell? p = some v → w'.cell? p = some v := fun p v hp => (hB.cell (World.block_lt_of_cell? w p hp)).trans hp
    exact .mk (kc _ _ c0) (kc _ _ c1) (kc _ _ c2) (kc _ _ c3) hk ih

/-- Classes in memory. -/
def ClsAt (w : World) (ca : Option Addr) (cls : List Int) : Prop :=
  cls = [] ∨ ∃ g off, ca = some ⟨g, off, none⟩ ∧ ∀ (j : Nat) (c : Int), cls[j]? = some c → w.cell? ⟨g, off + j, none⟩ = some (.int .i64 c)
theorem ClsAt.below {w w' : World} {ca : Option Addr} {cls : List Int} (hB : Below w.heap.size w w') (h : ClsAt w ca cls) : ClsAt w' ca cls := by
  rcases h with e | ⟨g, off, h1, h2⟩
  · exact Or.inl e
  · exact Or.inr ⟨g, off, h1, fun j c hj => (hB.cell (World.block_lt_of_cell? w _ (h2 j c hj))).trans (h2 j c hj)⟩

/-- What the document's Eval answers of a Form. -/
def REv (t : Lf) : Prop := ∀ (w : World) (ca : Option Addr) (cc : Nat) (cls : List Int), ClsAt w ca cls → KidsIn t.kv t.kids → (∀ k ∈ t.kids, LayC w k) →
  Calls Try.prog 9 #[.agg #[.int .i64 t.op, .int .i64 t.x, .int .i64 t.y, t.kv], .slice ca cls.length cc] w fun e w' => e = .returned (.bool (evF cls t.er)) ∧ Below w.heap.size w w'

set_option maxRecDepth 100000 in
set_option maxHeartbeats 2000000 in
/-- .. of an equality, and of a Form that has not as many Kids as told. -/
theorem rev_leaf (t : Lf) (hleaf : t.op = 0 ∨ whN t.op t.kids.length = false) : REv t := by
  intro w ca cc cls hc hk hks
  obtain ⟨b, o, op, x, y, kv, kids⟩ := t
  simp only [Lf.op, Lf.x, Lf.y, Lf.kv, Lf.kids] at hleaf hk hks ⊢
  obtain ⟨a, cap, rfl, hcap, hkk⟩ := hk
  have HE : Hid (evF cls (Lf.er (.mk b o op x y (.slice a kids.length cap) kids)) = evN cls op x y kids.length (kids.map fun k => evF cls k.er)) := by
    show _ = _
    simp only [Lf.er, evF, List.length_map, List.map_map]
    rfl
  generalize hn : kids.length = n at *
  have RK : Calls Try.prog 22 #[.agg #[.int .i64 op, .int .i64 x, .int .i64 y, .slice a n cap]] (w.alloc (.cells #[.int .i64 op, .int .i64 x, .int .i64 y, .slice a n cap] 26)) fun e w' => e = .returned (.bool (whN op n)) ∧ Below w.heap.size w w' ∧ w'.cell? ⟨w.heap.size, 0, none⟩ = some (.int .i64 op) ∧ w'.cell? ⟨w.heap.size, 1, none⟩ = some (.int .i64 x) ∧ w'.cell? ⟨w.heap.size, 2, none⟩ = some (.int .i64 y) ∧ w'.cell? ⟨w.heap.size, 3, none⟩ = some (.slice a n cap) := by
    refine (rkids_in _ op x y a n cap).mono ?_
    rintro e w' ⟨rfl, B⟩
    have hz : w.heap.size < (w.alloc (.cells #[.int .i64 op, .int .i64 x, .int .i64 y, .slice a n cap] 26)).heap.size := by simp
    refine ⟨rfl, ((Below.refl _ w).alloc (Nat.le_refl _) _).trans (B.mono (by simp)), ?_, ?_, ?_, ?_⟩ <;>
      (rw [B.cell hz]; simp [go_sem])
  cases hw : whN op n with
  | false =>
    rw [hw] at RK
    go_enter Try.func9, Try.ntmps9
    go_wp2_with (first | (go_at_call 22; refine RK.mono ?_; rintro e w2 ⟨rfl, B2, c0, c1, c2, c3⟩))
    go_ret
    refine ⟨ret_b ?_, B2⟩
    rw [HE.out]
    unfold whN at hw
    unfold evN
    by_cases h0 : op = 0
    · simp [h0] at hw ⊢; simp [hw]
    · by_cases h1 : op = 1
      · simp [h1] at hw ⊢; simp [hw]
      · by_cases h2 : op = 2
        · simp [h2] at hw ⊢; simp [hw]
        · by_cases h3 : op = 3
          · simp [h3] at hw ⊢; simp [hw]
          · by_cases h4 : op = 4
            · simp [h4] at hw ⊢; simp [hw]
            · simp [h0, h1, h2, h3, h4]
  | true =>
    rw [hw] at RK
    by_cases h0 : op = 0
    · subst h0
      have hn0 : n = 0 := by simpa [whN] using hw
      have HE2 : Hid (evF cls (Lf.er (.mk b o 0 x y (.slice a n cap) kids)) = sameC cls x y) := by
        show _ = _
        rw [HE.out]
        simp [evN, hn0]
      clear HE hn hks hkk hcap hw hleaf
      subst hn0
      go_enter Try.func9, Try.ntmps9
      by_cases hx0 : 0 ≤ x
      · by_cases hx1 : x < (cls.length : Int)
        · by_cases hy0 : 0 ≤ y
          · by_cases hy1 : y < (cls.length : Int)
            · obtain ⟨p, rfl⟩ : ∃ i : Nat, x = (i : Int) := ⟨x.toNat, by omega⟩
              obtain ⟨q, rfl⟩ : ∃ i : Nat, y = (i : Int) := ⟨y.toNat, by omega⟩
              have hp : p < cls.length := by omega
              have hq : q < cls.length := by omega
              rcases hc with e | ⟨g, off, rfl, hc⟩
              · rw [e] at hp; simp at hp
              · have e1 := hc p _ (List.getElem?_eq_getElem hp)
                have e2 := hc q _ (List.getElem?_eq_getElem hq)
                have zg : g < w.heap.size := World.block_lt_of_cell? w _ e1
                have HS : Hid (sameC cls p q = (cls[p] == cls[q])) := by
                  show _ = _
                  simp [sameC, inC, hp, hq]
                clear hc
                generalize cls[p] = cp at *
                generalize cls[q] = cq at *
                go_wp2_with (first | (go_at_call 22; refine RK.mono ?_; rintro e w2 ⟨rfl, B2, c0, c1, c2, c3⟩; have f1 := (B2.cell (p := ⟨g, off + p, none⟩) zg).trans e1; have f2 := (B2.cell (p := ⟨g, off + q, none⟩) zg).trans e2))
                go_quiet (fail)
                go_wp2_with fail
                go_ret
                exact ⟨ret_b (by rw [HE2.out, HS.out]), B2.trans ⟨rfl, rfl, rfl, Nat.le_refl _, fun _ _ => rfl⟩⟩
            · skip
              have HS : Hid (sameC cls x y = false) := by show _ = _; simp [sameC, inC, hy1]
              have dd : decide (y < (cls.length : Int)) = false := decide_eq_false hy1
              clear hy1
              go_wp2_with (first | (go_at_call 22; refine RK.mono ?_; rintro e w2 ⟨rfl, B2, c0, c1, c2, c3⟩))
              go_quiet (fail)
              go_wp2_with fail
              go_ret
              exact ⟨ret_b (by rw [HE2.out, HS.out]), B2.trans ⟨rfl, rfl, rfl, Nat.le_refl _, fun _ _ => rfl⟩⟩
          · skip
            have HS : Hid (sameC cls x y = false) := by show _ = _; simp [sameC, inC, hy0]
            have dd : decide (0 ≤ y) = false := decide_eq_false hy0
            clear hy0
            go_wp2_with (first | (go_at_call 22; refine RK.mono ?_; rintro e w2 ⟨rfl, B2, c0, c1, c2, c3⟩))
            go_quiet (fail)
            go_wp2_with fail
            go_ret
            exact ⟨ret_b (by rw [HE2.out, HS.out]), B2.trans ⟨rfl, rfl, rfl, Nat.le_refl _, fun _ _ => rfl⟩⟩
        · skip
          have HS : Hid (sameC cls x y = false) := by show _ = _; simp [sameC, inC, hx1]
          have dd : decide (x < (cls.length : Int)) = false := decide_eq_false hx1
          clear hx1
          go_wp2_with (first | (go_at_call 22; refine RK.mono ?_; rintro e w2 ⟨rfl, B2, c0, c1, c2, c3⟩))
          go_quiet (fail)
          go_wp2_with fail
          go_ret
          exact ⟨ret_b (by rw [HE2.out, HS.out]), B2.trans ⟨rfl, rfl, rfl, Nat.le_refl _, fun _ _ => rfl⟩⟩
      · skip
        have HS : Hid (sameC cls x y = false) := by show _ = _; simp [sameC, inC, hx0]
        have dd : decide (0 ≤ x) = false := decide_eq_false hx0
        clear hx0
        go_wp2_with (first | (go_at_call 22; refine RK.mono ?_; rintro e w2 ⟨rfl, B2, c0, c1, c2, c3⟩))
        go_quiet (fail)
        go_wp2_with fail
        go_ret
        exact ⟨ret_b (by rw [HE2.out, HS.out]), B2.trans ⟨rfl, rfl, rfl, Nat.le_refl _, fun _ _ => rfl⟩⟩
    · rcases hleaf with e | e
      · exact absurd e h0
      · rw [hw] at e; cases e

end Go.Proofs.Ytinphcnknionmab

namespace Go.Proofs.Ytinphcnknionmab
open Go.RowKit

/-- A row of numbers of one's own. -/
def Rw (W : World) (g : Nat) (vs : List Int) : Prop := ∃ N F, vs.length ≤ N ∧ W.rowIs g 3 N F ∧ ∀ (j : Nat) (c : Int), vs[j]? = some c → F j = .int .i64 c
theorem Rw.cls {W : World} {g : Nat} {vs : List Int} (h : Rw W g vs) : ClsAt W (some ⟨g, 0, none⟩) vs := by
  obtain ⟨N, F, h1, h2, h3⟩ := h
  refine Or.inr ⟨g, 0, rfl, fun j c hj => ?_⟩
  have hlt := (List.getElem?_eq_some_iff.1 hj).1
  rw [Nat.zero_add, h2.cell (i := j) (by omega), h3 j c hj]
theorem Rw.at {W : World} {g : Nat} {vs : List Int} (h : Rw W g vs) {j : Nat} {c : Int} (hj : vs[j]? = some c) : W.cell? ⟨g, j, none⟩ = some (.int .i64 c) ∧ W.frozen? ⟨g, j, none⟩ = false := by
  obtain ⟨N, F, h1, h2, h3⟩ := h
  have hlt := (List.getElem?_eq_some_iff.1 hj).1
  exact ⟨by rw [h2.cell (i := j) (by omega), h3 j c hj], h2.frozen j⟩
theorem Rw.set {W : World} {g : Nat} {vs : List Int} (h : Rw W g vs) (i : Nat) (c : Int) : Rw (W.setCell ⟨g, i, none⟩ (.int .i64 c)) g (vs.set i c) := by
  obtain ⟨N, F, h1, h2, h3⟩ := h
  refine ⟨N, _, by rw [List.length_set]; exact h1, h2.set i _, fun j d hj => ?_⟩
  by_cases e : j = i
  · subst e
    rw [if_pos rfl]
    have hl := (List.getElem?_eq_some_iff.1 hj).1
    rw [List.length_set] at hl
    rw [List.getElem?_set_self hl] at hj
    cases hj
    rfl
  · rw [if_neg e]
    rw [List.getElem?_set_ne (fun x => e x.symm)] at hj
    exact h3 j d hj
theorem Rw.lt {W : World} {g : Nat} {vs : List Int} (h : Rw W g vs) : g < W.heap.size := by
  obtain ⟨N, F, h1, h2, h3⟩ := h
  exact h2.lt
theorem Rw.block {W W' : World} {g : Nat} {vs : List Int} (h : Rw W g vs) (hB : W'.heap[g]? = W.heap[g]?) : Rw W' g vs := by
  obtain ⟨N, F, h1, h2, h3⟩ := h
  exact ⟨N, F, h1, h2.of_block hB, h3⟩

end Go.Proofs.Ytinphcnknionmab

namespace Go.Proofs.Ytinphcnknionmab.Uf

structure Nd where
  par : Nat
  nxt : Nat
  siz : Nat
  lst : Nat

/-- A state: the nodes, and beside them what each number's root is, and how deep it lies. -/
structure G where
  N : Nat → Nd
  rt : Nat → Nat
  dp : Nat → Nat

def cnt : Nat → (Nat → Bool) → Nat
  | 0, _ => 0
  | n + 1, p => cnt n p + (if p n then 1 else 0)

theorem cnt_le (n : Nat) (p : Nat → Bool) : cnt n p ≤ n := by
  induction n with
  | zero => simp [cnt]
  | succ n ih => simp only [cnt]; split <;> omega

theorem cnt_congr (n : Nat) (p q : Nat → Bool) (h : ∀ i, i < n → p i = q i) : cnt n p = cnt n q := by
  induction n with
  | zero => rfl
  | succ n ih => simp only [cnt]; rw [ih (fun i hi => h i (by omega)), h n (by omega)]

theorem cnt_or (n : Nat) (p q : Nat → Bool) (h : ∀ i, i < n → ¬ (p i = true ∧ q i = true)) : cnt n (fun i => p i || q i) = cnt n p + cnt n q := by
  induction n with
  | zero => rfl
  | succ n ih =>
    simp only [cnt]
    rw [ih (fun i hi => h i (by omega))]
    have := h n (by omega)
    by_cases hp : p n = true <;> by_cases hq : q n = true <;> simp [hp, hq] at this ⊢ <;> omega

theorem cnt_pos (n : Nat) (p : Nat → Bool) (i : Nat) (hi : i < n) (h : p i = true) : 0 < cnt n p := by
  induction n with
  | zero => omega
  | succ n ih =>
    simp only [cnt]
    by_cases e : i = n
    · subst e; simp [h]
    · have := ih (by omega); omega

theorem cnt_one (n : Nat) (p q : Nat → Bool) (k : Nat) (hk : k < n) (hp : p k = true) (hq : q k = false) (h : ∀ i, i < n → i ≠ k → p i = q i) : cnt n q + 1 = cnt n p := by
  induction n with
  | zero => omega
  | succ n ih =>
    simp only [cnt]
    by_cases e : k = n
    · subst e
      rw [cnt_congr k p q (fun i hi => h i (by omega) (by omega))]; simp [hp, hq]
    · have := ih (by omega) (fun i hi hne => h i (by omega) hne)
      rw [h n (by omega) (by omega)]; split <;> omega

theorem cnt_all (n : Nat) (p : Nat → Bool) (h : ∀ i, i < n → p i = true) : cnt n p = n := by
  induction n with
  | zero => rfl
  | succ n ih => simp only [cnt]; rw [ih (fun i hi => h i (by omega)), h n (by omega)]; simp

theorem cnt_only (n : Nat) (k : Nat) (hk : k < n) : cnt n (fun i => decide (i = k)) = 1 := by
  have h := cnt_one n (fun i => decide (i = k)) (fun _ => false) k hk (by simp) rfl (fun i _ hne => by simp [hne])
  have z : ∀ m, cnt m (fun _ => false) = 0 := by
    intro m; induction m with
    | zero => rfl
    | succ m ih => simp [cnt, ih]
  rw [z] at h; omega

def g0 : G := { N := fun i => ⟨i, i, 1, i⟩, rt := fun i => i, dp := fun _ => 0 }

/-- Root c is hung below root r. -/
def hang (g : G) (c r : Nat) : G :=
  { N := fun k => if k = c then ⟨r, (g.N r).nxt, (g.N c).siz, (g.N c).lst⟩ else if k = r then ⟨(g.N r).par, (g.N c).nxt, (g.N r).siz + (g.N c).siz, min (g.N r).lst (g.N c).lst⟩ else g.N k
    rt := fun i => if g.rt i = c then r else g.rt i
    dp := fun i => if g.rt i = c then g.dp i + g.dp r + 1 else g.dp i }

/-- The least number of the class of i. -/
def G.lo (g : G) (i : Nat) : Nat := (g.N (g.rt i)).lst

structure Ok (n : Nat) (g : G) (k : Nat) : Prop where
  parlt : ∀ i, i < n → (g.N i).par < n
  rtlt : ∀ i, i < n → g.rt i < n
  root : ∀ i, i < n → (g.N i).par = i → g.rt i = i
  step : ∀ i, i < n → (g.N i).par ≠ i → g.rt (g.N i).par = g.rt i ∧ g.dp (g.N i).par < g.dp i
  top : ∀ i, i < n → (g.N (g.rt i)).par = g.rt i
  siz : ∀ i, i < n → g.rt i = i → (g.N i).siz = cnt n (fun j => decide (g.rt j = i))
  lole : ∀ i, i < n → g.lo i ≤ i
  loin : ∀ i, i < n → g.rt (g.lo i) = g.rt i
  num : cnt n (fun i => decide (g.lo i = i)) + k = n

theorem ok_g0 (n : Nat) : Ok n g0 0 := by
  refine ⟨fun i h => h, fun i h => h, fun i _ _ => rfl, fun i _ h => absurd rfl h, fun i _ => rfl, ?_, fun i _ => Nat.le_refl _, fun i _ => rfl, ?_⟩
  · intro i hi _
    exact (cnt_only n i hi).symm
  · rw [cnt_all n _ (fun i _ => by simp [G.lo, g0])]; rfl

theorem Ok.rtrt {n : Nat} {g : G} {k : Nat} (h : Ok n g k) (i : Nat) (hi : i < n) : g.rt (g.rt i) = g.rt i :=
  h.root _ (h.rtlt i hi) (h.top i hi)

theorem Ok.parroot {n : Nat} {g : G} {k : Nat} (h : Ok n g k) (i : Nat) (hi : i < n) (hr : g.rt i = i) : (g.N i).par = i := by
  have := h.top i hi; rw [hr] at this; exact this

theorem hang_lo (g : G) (c r i : Nat) (hne : c ≠ r) :
    (hang g c r).lo i = if g.rt i = c ∨ g.rt i = r then min (g.N r).lst (g.N c).lst else g.lo i := by
  simp only [G.lo, hang]
  by_cases h1 : g.rt i = c
  · simp [h1, Ne.symm hne]
  · by_cases h2 : g.rt i = r
    · simp [h2, Ne.symm hne]
    · simp [h1, h2]

theorem Ok.hang {n : Nat} {g : G} {k : Nat} (h : Ok n g k) (c r : Nat) (hc : c < n) (hr : r < n) (hne : c ≠ r) (cc : g.rt c = c) (rr : g.rt r = r) :
    Ok n (hang g c r) (k + 1) := by
  have pc := h.parroot c hc cc
  have pr := h.parroot r hr rr
  have lc : (g.N c).lst = g.lo c := by simp [G.lo, cc]
  have lr : (g.N r).lst = g.lo r := by simp [G.lo, rr]
  have hlo := fun i => hang_lo g c r i hne
  have lcle := h.lole c hc
  have lrle := h.lole r hr
  have lcin := h.loin c hc
  have lrin := h.loin r hr
  rw [cc] at lcin
  rw [rr] at lrin
  have lne : g.lo c ≠ g.lo r := by intro e; rw [e, lrin] at lcin; exact hne lcin.symm
  have lcself : g.lo (g.lo c) = g.lo c := by simp only [G.lo] at lcin ⊢; rw [lcin, cc]
  have lrself : g.lo (g.lo r) = g.lo r := by simp only [G.lo] at lrin ⊢; rw [lrin, rr]
  refine ⟨?_, ?_, ?_, ?_, ?_, ?_, ?_, ?_, ?_⟩
  · intro i hi
    simp only [Uf.hang]
    split
    · exact hr
    · split
      · exact h.parlt r hr
      · exact h.parlt i hi
  · intro i hi
    simp only [Uf.hang]
    split
    · exact hr
    · exact h.rtlt i hi
  · intro i hi hp
    simp only [Uf.hang] at hp ⊢
    by_cases e1 : i = c
    · subst e1; simp at hp; exact absurd hp.symm hne
    · by_cases e2 : i = r
      · subst e2; rw [rr]; simp [e1]
      · simp [e1, e2] at hp
        have := h.root i hi hp
        rw [this]; simp [e1]
  · intro i hi hp
    simp only [Uf.hang] at hp ⊢
    by_cases e1 : i = c
    · subst e1
      simp only [if_true]
      rw [rr, cc]
      simp [Ne.symm hne]
      omega
    · by_cases e2 : i = r
      · subst e2
        simp only [e1, if_false, if_true] at hp
        exact absurd pr hp
      · simp only [e1, e2, if_false] at hp ⊢
        obtain ⟨s1, s2⟩ := h.step i hi hp
        rw [s1]
        refine ⟨rfl, ?_⟩
        split <;> omega
  · intro i hi
    simp only [Uf.hang]
    by_cases e1 : g.rt i = c
    · simp [e1, Ne.symm hne, pr]
    · by_cases e2 : g.rt i = r
      · simp [e2, Ne.symm hne, pr]
      · simp [e1, e2, h.top i hi]
  · intro i hi hrt
    simp only [Uf.hang] at hrt ⊢
    by_cases e1 : i = c
    · subst e1; simp [cc] at hrt; exact absurd hrt.symm hne
    · by_cases e2 : i = r
      · subst e2
        simp only [e1, if_false, if_true]
        rw [h.siz i hi rr, h.siz c hc cc, ← cnt_or]
        · apply cnt_congr
          intro j hj
          by_cases q1 : g.rt j = c <;> by_cases q2 : g.rt j = i <;> simp [q1, q2]
        · intro j hj
          simp
          intro q1 q2
          exact e1 (by rw [← q1, ← q2])
      · have hi' : g.rt i = i := by
          by_cases q : g.rt i = c
          · simp [q] at hrt; exact absurd hrt.symm e2
          · simpa [q] using hrt
        simp only [e1, e2, if_false]
        rw [h.siz i hi hi']
        apply cnt_congr
        intro j hj
        by_cases q1 : g.rt j = c
        · simp [q1, Ne.symm e1, Ne.symm e2]
        · simp [q1]
  · intro i hi
    rw [hlo, lc, lr]
    have li := h.lole i hi
    split
    · rename_i hx
      rcases hx with hx | hx
      · have : g.lo i = g.lo c := by simp only [G.lo]; rw [hx, cc]
        omega
      · have : g.lo i = g.lo r := by simp only [G.lo]; rw [hx, rr]
        omega
    · exact li
  · intro i hi
    rw [hlo, lc, lr]
    by_cases hx : g.rt i = c ∨ g.rt i = r
    · rw [if_pos hx]
      have e : (Uf.hang g c r).rt i = r := by
        simp only [Uf.hang]
        rcases hx with hx | hx
        · simp [hx]
        · simp [hx, Ne.symm hne]
      rw [e]
      by_cases q : g.lo r ≤ g.lo c
      · rw [Nat.min_eq_left q]; simp [Uf.hang, lrin, Ne.symm hne]
      · rw [Nat.min_eq_right (by omega)]; simp [Uf.hang, lcin]
    · rw [if_neg hx]
      have := h.loin i hi
      simp only [Uf.hang]
      rw [this]
  · have key : cnt n (fun i => decide ((Uf.hang g c r).lo i = i)) + 1 = cnt n (fun i => decide (g.lo i = i)) := by
      apply cnt_one n _ _ (max (g.lo c) (g.lo r)) (by omega)
      · by_cases q : g.lo r ≤ g.lo c
        · rw [Nat.max_eq_left q]; simp [lcself]
        · rw [Nat.max_eq_right (by omega)]; simp [lrself]
      · rw [hlo, lc, lr]
        by_cases q : g.lo r ≤ g.lo c
        · rw [Nat.max_eq_left q, if_pos (Or.inl lcin)]; simp; omega
        · rw [Nat.max_eq_right (by omega), if_pos (Or.inr lrin)]; simp; omega
      · intro i hi hne'
        rw [hlo, lc, lr]
        by_cases hx : g.rt i = c ∨ g.rt i = r
        · rw [if_pos hx]
          rcases hx with hx | hx
          · have : g.lo i = g.lo c := by simp only [G.lo]; rw [hx, cc]
            rw [this, decide_eq_decide]
            constructor
            · intro e; omega
            · intro e
              rcases Nat.lt_or_ge (g.lo r) (g.lo c) with q | q
              · exfalso
                have e2 : i = g.lo r := by omega
                rw [e2, lrin] at hx; exact hne hx.symm
              · omega
          · have : g.lo i = g.lo r := by simp only [G.lo]; rw [hx, rr]
            rw [this, decide_eq_decide]
            constructor
            · intro e; omega
            · intro e
              rcases Nat.lt_or_ge (g.lo c) (g.lo r) with q | q
              · exfalso
                have e2 : i = g.lo c := by omega
                rw [e2, lcin] at hx; exact hne hx
              · omega
        · rw [if_neg hx]
    have := h.num
    omega

theorem Ok.sizes {n : Nat} {g : G} {k : Nat} (h : Ok n g k) (c r : Nat) (hc : c < n) (hr : r < n) (hne : c ≠ r) (cc : g.rt c = c) (rr : g.rt r = r) : (g.N r).siz + (g.N c).siz ≤ n := by
  rw [h.siz r hr rr, h.siz c hc cc, ← cnt_or]
  · exact cnt_le _ _
  · intro i _ hx
    simp at hx
    exact hne (hx.2.symm.trans hx.1)

/-- Which root is hung below which. -/
def pick (g : G) (a b : Nat) : Nat × Nat := if (g.N (g.rt b)).siz < (g.N (g.rt a)).siz then (g.rt b, g.rt a) else (g.rt a, g.rt b)

/-- The state, and the joins with the states ahead of them, the last one first. -/
structure Rec where
  child : Nat
  least : Nat
  was : G

def Hist (n : Nat) : G → List Rec → Prop
  | g, [] => g = g0
  | g, x :: t => ∃ r, r < n ∧ x.child < n ∧ x.child ≠ r ∧ x.was.rt x.child = x.child ∧ x.was.rt r = r ∧ x.least = (x.was.N r).lst ∧ g = hang x.was x.child r ∧ Hist n x.was t

theorem ok_hist (n : Nat) : ∀ (t : List Rec) (g : G), Hist n g t → Ok n g t.length
  | [], g, h => by cases h; exact ok_g0 n
  | x :: t, g, h => by
    obtain ⟨r, hr, hc, hne, cc, rr, _, rfl, ht⟩ := h
    exact (ok_hist n t x.was ht).hang _ _ hc hr hne cc rr

theorem Ok.num_le {n : Nat} {g : G} {k : Nat} (h : Ok n g k) : k ≤ n := by have := h.num; omega

theorem Ok.pick {n : Nat} {g : G} {k : Nat} (h : Ok n g k) (a b : Nat) (ha : a < n) (hb : b < n) (hne : g.rt a ≠ g.rt b) :
    (pick g a b).1 < n ∧ (pick g a b).2 < n ∧ (pick g a b).1 ≠ (pick g a b).2 ∧ g.rt (pick g a b).1 = (pick g a b).1 ∧ g.rt (pick g a b).2 = (pick g a b).2 := by
  unfold Uf.pick
  split
  · exact ⟨h.rtlt b hb, h.rtlt a ha, Ne.symm hne, h.rtrt b hb, h.rtrt a ha⟩
  · exact ⟨h.rtlt a ha, h.rtlt b hb, hne, h.rtrt a ha, h.rtrt b hb⟩

/-- The state k joins ago. -/
def back : G → List Rec → Nat → G
  | g, _, 0 => g
  | g, [], _ + 1 => g
  | _, x :: t, k + 1 => back x.was t k

theorem hist_back (n : Nat) : ∀ (k : Nat) (t : List Rec) (g : G), Hist n g t → Hist n (back g t k) (t.drop k)
  | 0, t, g, h => by simpa [back] using h
  | k + 1, [], g, h => by simpa [back] using h
  | k + 1, x :: t, g, h => by
    obtain ⟨_, _, _, _, _, _, _, _, ht⟩ := h
    simpa [back] using hist_back n k t x.was ht

theorem back_succ : ∀ (k : Nat) (t : List Rec) (g : G) (x : Rec), t[k]? = some x → back g t (k + 1) = x.was
  | 0, [], _, _, h => by simp at h
  | 0, y :: t, g, x, h => by simp at h; subst h; simp [back]
  | k + 1, [], _, _, h => by simp at h
  | k + 1, y :: t, g, x, h => by
    simp at h
    simpa [back] using back_succ k t y.was x h

/-- The joins as the program keeps them. -/
def recs (t : List Rec) : List (Nat × Nat) := (t.map fun x => (x.child, x.least)).reverse

theorem recs_length (t : List Rec) : (recs t).length = t.length := by simp [recs]
theorem recs_cons (x : Rec) (t : List Rec) : recs (x :: t) = recs t ++ [(x.child, x.least)] := by simp [recs]
theorem recs_drop (t : List Rec) (k : Nat) : recs (t.drop k) = (recs t).take (t.length - k) := by
  simp only [recs, List.map_drop, List.reverse_drop, List.length_map]

theorem recs_get (t : List Rec) (k : Nat) (hk : k < t.length) : (recs t)[t.length - 1 - k]? = some ((t[k]).child, (t[k]).least) := by
  simp only [recs]
  rw [List.getElem?_reverse (by simp; omega)]
  simp
  refine ⟨t[k], ?_, rfl, rfl⟩
  rw [List.getElem?_eq_some_iff]
  refine ⟨by omega, ?_⟩
  congr 1
  omega

theorem hist_child (n : Nat) : ∀ (t : List Rec) (g : G), Hist n g t → ∀ x ∈ t, x.child < n
  | [], _, _, x, hx => by simp at hx
  | y :: t, g, h, x, hx => by
    obtain ⟨_, _, hc, _, _, _, _, _, ht⟩ := h
    rcases List.mem_cons.1 hx with rfl | hx
    · exact hc
    · exact hist_child n t y.was ht x hx

theorem recs_child (n : Nat) (t : List Rec) (g : G) (h : Hist n g t) (i : Nat) (hi : i < t.length) : ((recs t)[i]?.getD (0, 0)).1 < n := by
  have hl : i < (recs t).length := by rw [recs_length]; exact hi
  rw [List.getElem?_eq_getElem hl, Option.getD_some]
  have hm : (recs t)[i] ∈ recs t := List.getElem_mem hl
  generalize (recs t)[i] = y at hm
  simp only [recs, List.mem_reverse, List.mem_map] at hm
  obtain ⟨x, hx, rfl⟩ := hm
  exact hist_child n t g h x hx

end Go.Proofs.Ytinphcnknionmab.Uf

namespace Go.Proofs.Ytinphcnknionmab
open Go.RowKit

/-- What cell j of the nodes' array holds. -/
def nodeC (g : Uf.G) (j : Nat) : Value :=
  .int .i64 (if j % 4 = 0 then ((g.N (j / 4)).par : Int) else if j % 4 = 1 then ((g.N (j / 4)).nxt : Int) else if j % 4 = 2 then ((g.N (j / 4)).siz : Int) else ((g.N (j / 4)).lst : Int))

def joinC (js : List (Nat × Nat)) : List Value := js.flatMap fun x => [.int .i64 (x.1 : Int), .int .i64 (x.2 : Int)]

def setsC (nb n : Nat) (jv : Value) (j : Nat) : Value := if j = 0 then .slice (some ⟨nb, 0, none⟩) n n else jv

/-- Is it a number of it? -/
def inB (n : Nat) (a : Int) : Bool := decide (0 ≤ a ∧ a < n)
theorem inB_true {n : Nat} {a : Int} (h : inB n a = true) : 0 ≤ a ∧ a < n := of_decide_eq_true h
theorem inB_false {n : Nat} {a : Int} (h : inB n a = false) : ¬ (0 ≤ a ∧ a < n) := of_decide_eq_false h
theorem inB_nat {n a : Nat} (h : a < n) : inB n a = true := decide_eq_true (by omega)
theorem ret_bool {a b : Bool} (h : a = b) : Ending.returned (.bool a) = .returned (.bool b) := by rw [h]
theorem ret_int {k : IntKind} {a b : Int} (h : a = b) : Ending.returned (.int k a) = .returned (.int k b) := by rw [h]
theorem inB_lt {n : Nat} {a : Int} (h : a < 0) : false = inB n a := (decide_eq_false (by omega)).symm
theorem inB_ge {n : Nat} {a : Int} (h : 0 ≤ a) : decide (a < n) = inB n a := by unfold inB; simp [h]

theorem nodeC_par (g : Uf.G) (i : Nat) : nodeC g (i * 4) = .int .i64 ((g.N i).par : Int) := by
  have h1 : (i * 4) % 4 = 0 := by omega
  have h2 : (i * 4) / 4 = i := by omega
  simp [nodeC]
theorem nodeC_nxt (g : Uf.G) (i : Nat) : nodeC g (i * 4 + 1) = .int .i64 ((g.N i).nxt : Int) := by
  have h1 : (i * 4 + 1) % 4 = 1 := by omega
  have h2 : (i * 4 + 1) / 4 = i := by omega
  simp [nodeC, h1, h2]
theorem nodeC_siz (g : Uf.G) (i : Nat) : nodeC g (i * 4 + 2) = .int .i64 ((g.N i).siz : Int) := by
  have h1 : (i * 4 + 2) % 4 = 2 := by omega
  have h2 : (i * 4 + 2) / 4 = i := by omega
  simp [nodeC, h1, h2]
theorem nodeC_lst (g : Uf.G) (i : Nat) : nodeC g (i * 4 + 3) = .int .i64 ((g.N i).lst : Int) := by
  have h1 : (i * 4 + 3) % 4 = 3 := by omega
  have h2 : (i * 4 + 3) / 4 = i := by omega
  simp [nodeC, h1, h2]

/-- Are two numbers in one class? -/
def sameB (n : Nat) (g : Uf.G) (a b : Int) : Bool := inB n a && inB n b && decide (g.rt a.toNat = g.rt b.toNat)

end Go.Proofs.Ytinphcnknionmab
