/- The document's Show of a formula. The document's Show of other formulas. The document's Show of And, Or, Implies. -/
import Derived.Test.YtinphcnknionmaaP37
import Derived.Test.YtinphcnknionmaaP38
import Derived.OrdersHeld
import Derived.Deep.RegionHeld3
namespace Go.Proofs.Ytinphcnknionmaa
open Go.RowKit Go.Maps

/-- The numbers of a formula are terms of a list. -/
def InF (l : List Tm) (f : Fo) : Prop := ∀ p ∈ eqF f, inB l.length p.1 = true ∧ inB l.length p.2 = true

/-- A list that can be shown. -/
structure ShL (w : World) (base : Nat) (av : Value) (l : List Tm) (vs : List Value) : Prop where
  ls : Ls w base av l vs
  hs : Hs l
  oks : ∀ t ∈ l, t.ok
  len : l.length ≤ 1000
theorem ShL.kept0 {w w' : World} {base : Nat} {av : Value} {l : List Tm} {vs : List Value} (h : ShL w base av l vs) (K : Kept0 w w') : ShL w' base av l vs := ⟨h.ls.kept0 K, h.hs, h.oks, h.len⟩
theorem ShL.form {w : World} {base : Nat} {av : Value} {l : List Tm} {vs : List Value} (h : ShL w base av l vs) : ∃ a c, av = .slice a l.length c := row_form h.ls.row
theorem ShL.show1 {w : World} {base : Nat} {av : Value} {l : List Tm} {vs : List Value} (h : ShL w base av l vs) (n : Int) (hn : inB l.length n = true) :
    Calls Try.prog 71 #[av, .int .i64 n] w fun e w' => e = .returned (.string (shwB l n)) ∧ Kept0 w w' := by
  obtain ⟨k, hk, rfl⟩ : ∃ k : Nat, k < l.length ∧ n = (k : Int) := ⟨n.toNat, by have := inB_true hn; omega, by have := inB_true hn; omega⟩
  refine (rshow_all 13 w base av l vs k h.ls (h.hs k hk) h.oks h.len (Nat.le_refl _)).mono ?_
  rintro e w' ⟨he, K⟩
  exact ⟨by rw [he, shwB_in hk], K⟩

def RSh (t : Lf) : Prop := ∀ (w : World) (base : Nat) (av : Value) (l : List Tm) (vs : List Value), ShL w base av l vs → KidsIn t.kv t.kids → (∀ k ∈ t.kids, LayC w k) → WfF t.er → InF l t.er → (shF l [61] t.er).length ≤ 1000000000000000 →
  Calls Try.prog 63 #[av, .agg #[.int .i64 t.op, .int .i64 t.x, .int .i64 t.y, t.kv]] w fun e w' => e = .returned (.string (ofB (shF l [61] t.er))) ∧ Kept0 w w'

theorem layC_kept0 {w w' : World} (K : Kept0 w w') {t : Lf} (h : LayC w t) : LayC w' t := by
  have hc : ∀ {b o : Nat} {u : Value}, w.cell? ⟨b, o, none⟩ = some u → w'.cell? ⟨b, o, none⟩ = some u := fun {b o u} hu => (World.cell?_of_block (K.block b (World.block_lt_of_cell? w _ hu) (fun e => e))).trans hu
  induction h with
  | mk c0 c1 c2 c3 hk _ ih => exact .mk (hc c0) (hc c1) (hc c2) (hc c3) hk ih

theorem ofB_app (a b : List UInt8) : ofB a ++ ofB b = ofB (a ++ b) := by
  apply ByteArray.ext
  simp [ofB, ByteArray.data_append]
theorem ofB_data (b : ByteArray) : ofB b.data.toList = b := by
  apply ByteArray.ext
  simp [ofB]

set_option maxRecDepth 100000 in
set_option maxHeartbeats 2000000 in
theorem rsh_eq (w : World) (base : Nat) (av : Value) (l : List Tm) (vs : List Value) (h : ShL w base av l vs) (x y : Int) (hx : inB l.length x = true) (hy : inB l.length y = true) (ka : Option Addr) (kn kc : Nat) (hl : ((shwB l x).data.toList ++ [61] ++ (shwB l y).data.toList).length ≤ 1000000000000000) :
    Calls Try.prog 63 #[av, .agg #[.int .i64 0, .int .i64 x, .int .i64 y, .slice ka kn kc]] w fun e w' => e = .returned (.string (shwB l x ++ ofB [61] ++ shwB l y)) ∧ Kept0 w w' := by
  obtain ⟨aa, ac, rfl⟩ := h.form
  have K5 : Kept0 w (w.alloc (.cells #[.int .i64 0, .int .i64 x, .int .i64 y, .slice ka kn kc] 94)) := Kept.alloc (Kept.refl _ w) _
  have R1 := made_row w #[.int .i64 0, .int .i64 x, .int .i64 y, .slice ka kn kc] 94
  have c0 : (w.alloc (.cells #[.int .i64 0, .int .i64 x, .int .i64 y, .slice ka kn kc] 94)).cell? ⟨w.heap.size, 0, none⟩ = some (.int .i64 0) := R1.cell (i := 0) (by simp)
  have c1 : (w.alloc (.cells #[.int .i64 0, .int .i64 x, .int .i64 y, .slice ka kn kc] 94)).cell? ⟨w.heap.size, 1, none⟩ = some (.int .i64 x) := R1.cell (i := 1) (by simp)
  have c2 : (w.alloc (.cells #[.int .i64 0, .int .i64 x, .int .i64 y, .slice ka kn kc] 94)).cell? ⟨w.heap.size, 2, none⟩ = some (.int .i64 y) := R1.cell (i := 2) (by simp)
  have hcat : (shwB l x).size + 1 + (shwB l y).size ≤ 1000000000000000 := by
    rw [List.length_append, List.length_append, Array.length_toList, Array.length_toList] at hl
    exact hl
  have n1 : ¬ 9223372036854775807 < (shwB l x).size + 1 := by omega
  have n2 : ¬ 9223372036854775807 < (shwB l x).size + 1 + (shwB l y).size := by omega
  have n3 : ¬ 9223372036854775807 < (shwB l x ++ ofB [61]).size + (shwB l y).size := by rw [ByteArray.size_append, ofB_size]; simp only [List.length_singleton]; omega
  have H5 := h.kept0 K5
  go_enter Try.func63, Try.ntmps63
  go_wp2_with fail
  generalize w.alloc (.cells #[.int .i64 0, .int .i64 x, .int .i64 y, .slice ka kn kc] 94) = w5 at K5 c0 c1 c2 H5 ⊢
  have RS : ∀ (W : World) (n : Int), inB l.length n = true → Kept0 w5 W → Calls Try.prog 71 #[.slice aa l.length ac, .int .i64 n] W fun e w' => e = .returned (.string (shwB l n)) ∧ Kept0 W w' := fun W n hn K => (H5.kept0 K).show1 n hn
  have KD : ∀ m, Kept0 w5 (w5.drewN m) := fun m => Kept.drewN (Kept.refl _ w5) m
  have stay : ∀ W, Kept0 w5 W → W.cell? ⟨w.heap.size, 1, none⟩ = some (.int .i64 x) ∧ W.cell? ⟨w.heap.size, 2, none⟩ = some (.int .i64 y) := fun W K => ⟨(World.cell?_of_block (K.block _ (World.block_lt_of_cell? w5 _ c1) (fun e => e))).trans c1, (World.cell?_of_block (K.block _ (World.block_lt_of_cell? w5 _ c2) (fun e => e))).trans c2⟩
  clear H5 hl hcat
  refine wp_region_held_drew (S := fun W => W.cell? ⟨w.heap.size, 1, none⟩ = some (.int .i64 x) ∧ W.cell? ⟨w.heap.size, 2, none⟩ = some (.int .i64 y)) (by kernel_rfl) ⟨c1, c2⟩ (fun hHeld => ?_)
  refine wpAnyH_take (i := 0) (oi := _) (v := ?_) rfl (by kernel_rfl) (by kernel_rfl) (by kernel_rfl) (fun _ _ _ h => h) (Or.inl ⟨by rfl, ?_⟩) (by assumption) ?_
  rotate_left 1
  · intro w hSw; (try dsimp only at hSw); go_simp; (try with_reducible rfl)
  try simp only [Act.put, List.getElem_toArray, List.getElem_cons_zero, List.setIfInBounds_toArray, List.set_cons_zero, List.set_cons_succ]
  refine wpAnyH_take (i := 1) (oi := _) (v := ?_) rfl (by kernel_rfl) (by kernel_rfl) (by kernel_rfl) (fun _ _ _ h => h) (Or.inl ⟨by rfl, ?_⟩) (by assumption) ?_
  rotate_left 1
  · intro w hSw; (try dsimp only at hSw); go_simp; (try with_reducible rfl)
  try simp only [Act.put, List.getElem_toArray, List.getElem_cons_succ, List.getElem_cons_zero, List.setIfInBounds_toArray, List.set_cons_zero, List.set_cons_succ]
  refine wpAnyH_take (i := 2) (oi := _) (v := ?_) rfl (by kernel_rfl) (by kernel_rfl) (by kernel_rfl) (fun _ _ _ h => h) (Or.inl ⟨by rfl, ?_⟩) (by assumption) ?_
  rotate_left 1
  · intro w hSw; (try dsimp only at hSw); go_simp; (try with_reducible rfl)
  try simp only [Act.put, List.getElem_toArray, List.getElem_cons_succ, List.getElem_cons_zero, List.setIfInBounds_toArray, List.set_cons_zero, List.set_cons_succ]
  refine wpAnyH_take (i := 3) (oi := _) (v := ?_) rfl (by kernel_rfl) (by kernel_rfl) (by kernel_rfl) (fun _ _ _ h => h) (Or.inl ⟨by rfl, ?_⟩) (by assumption) ?_
  rotate_left 1
  · intro w hSw; (try dsimp only at hSw); go_simp; (try with_reducible rfl)
  try simp only [Act.put, List.getElem_toArray, List.getElem_cons_succ, List.getElem_cons_zero, List.setIfInBounds_toArray, List.set_cons_zero, List.set_cons_succ]
  refine wpAnyH_take (i := 6) (oi := _) (v := ?_) rfl (by kernel_rfl) (by kernel_rfl) (by kernel_rfl) (fun _ _ _ h => h) (Or.inl ⟨by rfl, ?_⟩) (by assumption) ?_
  rotate_left 1
  · intro w hSw; (try dsimp only at hSw); go_simp; (try with_reducible rfl)
  try simp only [Act.put, List.getElem_toArray, List.getElem_cons_succ, List.getElem_cons_zero, List.setIfInBounds_toArray, List.set_cons_zero, List.set_cons_succ]
  refine wpAnyH_take (i := 7) (oi := _) (v := ?_) rfl (by kernel_rfl) (by kernel_rfl) (by kernel_rfl) (fun _ _ _ h => h) (Or.inl ⟨by rfl, ?_⟩) (by assumption) ?_
  rotate_left 1
  · intro w hSw; (try dsimp only at hSw); go_simp; (try with_reducible rfl)
  try simp only [Act.put, List.getElem_toArray, List.getElem_cons_succ, List.getElem_cons_zero, List.setIfInBounds_toArray, List.set_cons_zero, List.set_cons_succ]
  refine wpAnyH_take (i := 8) (oi := _) (v := ?_) rfl (by kernel_rfl) (by kernel_rfl) (by kernel_rfl) (fun _ _ _ h => h) (Or.inl ⟨by rfl, ?_⟩) (by assumption) ?_
  rotate_left 1
  · intro w hSw; (try dsimp only at hSw); go_simp; (try with_reducible rfl)
  try simp only [Act.put, List.getElem_toArray, List.getElem_cons_succ, List.getElem_cons_zero, List.setIfInBounds_toArray, List.set_cons_zero, List.set_cons_succ]
  refine wpAnyH_take (i := 9) (oi := _) (v := ?_) rfl (by kernel_rfl) (by kernel_rfl) (by kernel_rfl) (fun _ _ _ h => h) (Or.inl ⟨by rfl, ?_⟩) (by assumption) ?_
  rotate_left 1
  · intro w hSw; (try dsimp only at hSw); go_simp; (try with_reducible rfl)
  try simp only [Act.put, List.getElem_toArray, List.getElem_cons_succ, List.getElem_cons_zero, List.setIfInBounds_toArray, List.set_cons_zero, List.set_cons_succ]
  refine wpAnyH_ready (rs := [4]) (by kernel_rfl) (by simp) ?_
  refine AllReadyH.cons rfl (fun K hK => ?_) AllReadyH.nil
  try simp only [List.getElem_toArray, List.getElem_cons_succ, List.getElem_cons_zero]
  go_simp
  go_at_call 71
  refine (RS _ x hx (KD 1)).mono ?_
  rintro e w6 ⟨rfl, K6⟩
  have KS6 : Kept0 w5 w6 := Kept.trans (KD 1) K6
  refine hK.out _ _ ?_ (fun hHeld => ?_)
  · exact stay _ KS6
  clear hK K
  try simp only [Act.put, List.getElem_toArray, List.getElem_cons_succ, List.getElem_cons_zero, List.setIfInBounds_toArray, List.set_cons_zero, List.set_cons_succ]
  refine wpAnyH_take (i := 5) (oi := _) (v := ?_) rfl (by kernel_rfl) (by kernel_rfl) (by kernel_rfl) (fun _ _ _ h => h) (Or.inl ⟨by rfl, ?_⟩) (by assumption) ?_
  rotate_left 1
  · intro w hSw; (try dsimp only at hSw); go_simp; (try with_reducible rfl)
  try simp only [Act.put, List.getElem_toArray, List.getElem_cons_succ, List.getElem_cons_zero, List.setIfInBounds_toArray, List.set_cons_zero, List.set_cons_succ]
  refine wpAnyH_ready (rs := [10]) (by kernel_rfl) (by simp) ?_
  refine AllReadyH.cons rfl (fun K hK => ?_) AllReadyH.nil
  try simp only [List.getElem_toArray, List.getElem_cons_succ, List.getElem_cons_zero]
  go_simp
  go_at_call 71
  refine (RS _ y hy KS6).mono ?_
  rintro e w7 ⟨rfl, K7⟩
  have KS7 : Kept0 w5 w7 := Kept.trans KS6 K7
  refine hK.out _ _ ?_ (fun hHeld => ?_)
  · exact stay _ KS7
  clear hK K
  try simp only [Act.put, List.getElem_toArray, List.getElem_cons_succ, List.getElem_cons_zero, List.setIfInBounds_toArray, List.set_cons_zero, List.set_cons_succ]
  refine wpAnyH_take (i := 11) (oi := _) (v := ?_) rfl (by kernel_rfl) (by kernel_rfl) (by kernel_rfl) (fun _ _ _ h => h) (Or.inl ⟨by rfl, ?_⟩) (by assumption) ?_
  rotate_left 1
  · intro w hSw; (try dsimp only at hSw); go_simp; (try with_reducible rfl)
  try simp only [Act.put, List.getElem_toArray, List.getElem_cons_succ, List.getElem_cons_zero, List.setIfInBounds_toArray, List.set_cons_zero, List.set_cons_succ]
  refine wpAnyH_take (i := 12) (oi := _) (v := ?_) rfl (by kernel_rfl) (by kernel_rfl) (by kernel_rfl) (fun _ _ _ h => h) (Or.inl ⟨by rfl, ?_⟩) (by assumption) ?_
  rotate_left 1
  · intro w hSw; (try dsimp only at hSw); go_simp; (try with_reducible rfl)
  try simp only [Act.put, List.getElem_toArray, List.getElem_cons_succ, List.getElem_cons_zero, List.setIfInBounds_toArray, List.set_cons_zero, List.set_cons_succ]
  refine wpAnyH_done (by kernel_rfl) ?_ _
  go_wp2_with fail
  go_ret
  exact ⟨rfl, Kept.trans K5 KS7⟩

end Go.Proofs.Ytinphcnknionmaa

namespace Go.Proofs.Ytinphcnknionmaa
open Go.RowKit Go.Maps

/-- A Kid's cells. -/
theorem kidC_at {w : World} {a : Option Addr} {kids : List Lf} (h : kids = [] ∨ ∃ kb ko, a = some ⟨kb, ko, none⟩ ∧ ∀ (j : Nat) (t : Lf), kids[j]? = some t → t.b = kb ∧ t.o = ko + j * 4) (hks : ∀ k ∈ kids, LayC w k) {j : Nat} {k : Lf} (hj : kids[j]? = some k) :
    ∃ kb ko sa sc, a = some ⟨kb, ko, none⟩ ∧ k.kv = .slice sa k.kids.length sc ∧ KidsIn k.kv k.kids ∧ (∀ u ∈ k.kids, LayC w u) ∧ w.cell? ⟨kb, ko + j * 4, none⟩ = some (.int .i64 k.op) ∧ w.cell? ⟨kb, ko + j * 4 + 1, none⟩ = some (.int .i64 k.x) ∧ w.cell? ⟨kb, ko + j * 4 + 2, none⟩ = some (.int .i64 k.y) ∧ w.cell? ⟨kb, ko + j * 4 + 3, none⟩ = some (.slice sa k.kids.length sc) := by
  rcases h with e | ⟨kb, ko, ha, hh⟩
  · rw [e] at hj; simp at hj
  · obtain ⟨e1, e2⟩ := hh j k hj
    have hL := hks k (List.mem_of_getElem? hj)
    obtain ⟨b, o, op, x, y, kv, ks⟩ := k
    simp only [Lf.b, Lf.o] at e1 e2
    subst e1 e2
    cases hL with
    | mk c0 c1 c2 c3 hk hh2 =>
      obtain ⟨sa, sc, hkv, hrest⟩ := hk
      subst hkv
      exact ⟨_, _, sa, sc, ha, rfl, ⟨sa, sc, rfl, hrest⟩, hh2, c0, c1, c2, c3⟩

set_option maxRecDepth 100000 in
set_option maxHeartbeats 2000000 in
theorem rsh_neq (w : World) (base : Nat) (av : Value) (l : List Tm) (vs : List Value) (h : ShL w base av l vs) (x0 y0 x y : Int) (hx : inB l.length x = true) (hy : inB l.length y = true) (kb ko kc : Nat) (sv : Value) (sa : Option Addr) (sn sc : Nat) (hsv : sv = .slice sa sn sc)
    (k0 : w.cell? ⟨kb, ko, none⟩ = some (.int .i64 0)) (k1 : w.cell? ⟨kb, ko + 1, none⟩ = some (.int .i64 x)) (k2 : w.cell? ⟨kb, ko + 2, none⟩ = some (.int .i64 y)) (k3 : w.cell? ⟨kb, ko + 3, none⟩ = some sv) (hl : ((shwB l x).data.toList ++ [33, 61] ++ (shwB l y).data.toList).length ≤ 1000000000000000) :
    Calls Try.prog 63 #[av, .agg #[.int .i64 1, .int .i64 x0, .int .i64 y0, .slice (some ⟨kb, ko, none⟩) 1 kc]] w fun e w' => e = .returned (.string (shwB l x ++ ofB [33, 61] ++ shwB l y)) ∧ Kept0 w w' := by
  subst hsv
  obtain ⟨aa, ac, rfl⟩ := h.form
  have KA : Kept0 w (w.alloc (.cells #[.int .i64 1, .int .i64 x0, .int .i64 y0, .slice (some ⟨kb, ko, none⟩) 1 kc] 94)) := Kept.alloc (Kept.refl _ w) _
  have hc : ∀ {W : World} {b o : Nat} {u : Value}, Kept0 w W → w.cell? ⟨b, o, none⟩ = some u → W.cell? ⟨b, o, none⟩ = some u := fun {W b o u} K hu => (World.cell?_of_block (K.block b (World.block_lt_of_cell? w _ hu) (fun e => e))).trans hu
  have j0 := hc KA k0
  have j1 := hc KA k1
  have j2 := hc KA k2
  have j3 := hc KA k3
  have R1 := made_row w #[.int .i64 1, .int .i64 x0, .int .i64 y0, .slice (some ⟨kb, ko, none⟩) 1 kc] 94
  have c0 : (w.alloc (.cells #[.int .i64 1, .int .i64 x0, .int .i64 y0, .slice (some ⟨kb, ko, none⟩) 1 kc] 94)).cell? ⟨w.heap.size, 0, none⟩ = some (.int .i64 1) := R1.cell (i := 0) (by simp)
  have c3 : (w.alloc (.cells #[.int .i64 1, .int .i64 x0, .int .i64 y0, .slice (some ⟨kb, ko, none⟩) 1 kc] 94)).cell? ⟨w.heap.size, 3, none⟩ = some (.slice (some ⟨kb, ko, none⟩) 1 kc) := R1.cell (i := 3) (by simp)
  have hcat : (shwB l x).size + 2 + (shwB l y).size ≤ 1000000000000000 := by
    rw [List.length_append, List.length_append, Array.length_toList, Array.length_toList] at hl
    exact hl
  have n1 : ¬ 9223372036854775807 < (shwB l x).size + 2 := by omega
  have n2 : ¬ 9223372036854775807 < (shwB l x).size + 2 + (shwB l y).size := by omega
  have n3 : ¬ 9223372036854775807 < (shwB l x ++ ofB [33, 61]).size + (shwB l y).size := by rw [ByteArray.size_append, ofB_size]; simp only [List.length_cons, List.length_nil]; omega
  have hz1 : (w.alloc (.cells #[.int .i64 1, .int .i64 x0, .int .i64 y0, .slice (some ⟨kb, ko, none⟩) 1 kc] 94)).heap.size = w.heap.size + 1 := by simp
  clear hl hcat hc k0 k1 k2 k3 R1
  go_enter Try.func63, Try.ntmps63
  go_wp2_with fail
  generalize w.alloc (.cells #[.int .i64 1, .int .i64 x0, .int .i64 y0, .slice (some ⟨kb, ko, none⟩) 1 kc] 94) = w1 at KA c0 c3 j0 j1 j2 j3 hz1 ⊢
  have KB : Kept0 w1 (w1.alloc (.cells #[.int .i64 0, .int .i64 x, .int .i64 y, .slice sa sn sc] 94)) := Kept.alloc (Kept.refl _ w1) _
  have R2 := made_row w1 #[.int .i64 0, .int .i64 x, .int .i64 y, .slice sa sn sc] 94
  have c1 : (w1.alloc (.cells #[.int .i64 0, .int .i64 x, .int .i64 y, .slice sa sn sc] 94)).cell? ⟨w1.heap.size, 1, none⟩ = some (.int .i64 x) := R2.cell (i := 1) (by simp)
  have c2 : (w1.alloc (.cells #[.int .i64 0, .int .i64 x, .int .i64 y, .slice sa sn sc] 94)).cell? ⟨w1.heap.size, 2, none⟩ = some (.int .i64 y) := R2.cell (i := 2) (by simp)
  have K5 := Kept.trans KA KB
  have H5 := h.kept0 K5
  generalize w1.alloc (.cells #[.int .i64 0, .int .i64 x, .int .i64 y, .slice sa sn sc] 94) = w5 at K5 c1 c2 H5 ⊢
  rw [hz1] at c1 c2
  generalize w.heap.size + 1 = xb at *
  clear hz1
  have RS : ∀ (W : World) (n : Int), inB l.length n = true → Kept0 w5 W → Calls Try.prog 71 #[.slice aa l.length ac, .int .i64 n] W fun e w' => e = .returned (.string (shwB l n)) ∧ Kept0 W w' := fun W n hn K => (H5.kept0 K).show1 n hn
  have KD : ∀ m, Kept0 w5 (w5.drewN m) := fun m => Kept.drewN (Kept.refl _ w5) m
  have stay : ∀ W, Kept0 w5 W → W.cell? ⟨xb, 1, none⟩ = some (.int .i64 x) ∧ W.cell? ⟨xb, 2, none⟩ = some (.int .i64 y) := fun W K => ⟨(World.cell?_of_block (K.block _ (World.block_lt_of_cell? w5 _ c1) (fun e => e))).trans c1, (World.cell?_of_block (K.block _ (World.block_lt_of_cell? w5 _ c2) (fun e => e))).trans c2⟩
  clear H5
  refine wp_region_held_drew (S := fun W => W.cell? ⟨xb, 1, none⟩ = some (.int .i64 x) ∧ W.cell? ⟨xb, 2, none⟩ = some (.int .i64 y)) (by kernel_rfl) ⟨c1, c2⟩ (fun hHeld => ?_)
  refine wpAnyH_take (i := 0) (oi := _) (v := ?_) rfl (by kernel_rfl) (by kernel_rfl) (by kernel_rfl) (fun _ _ _ h => h) (Or.inl ⟨by rfl, ?_⟩) (by assumption) ?_
  rotate_left 1
  · intro w hSw; (try dsimp only at hSw); go_simp; (try with_reducible rfl)
  try simp only [Act.put, List.getElem_toArray, List.getElem_cons_zero, List.setIfInBounds_toArray, List.set_cons_zero, List.set_cons_succ]
  refine wpAnyH_take (i := 1) (oi := _) (v := ?_) rfl (by kernel_rfl) (by kernel_rfl) (by kernel_rfl) (fun _ _ _ h => h) (Or.inl ⟨by rfl, ?_⟩) (by assumption) ?_
  rotate_left 1
  · intro w hSw; (try dsimp only at hSw); go_simp; (try with_reducible rfl)
  try simp only [Act.put, List.getElem_toArray, List.getElem_cons_succ, List.getElem_cons_zero, List.setIfInBounds_toArray, List.set_cons_zero, List.set_cons_succ]
  refine wpAnyH_take (i := 2) (oi := _) (v := ?_) rfl (by kernel_rfl) (by kernel_rfl) (by kernel_rfl) (fun _ _ _ h => h) (Or.inl ⟨by rfl, ?_⟩) (by assumption) ?_
  rotate_left 1
  · intro w hSw; (try dsimp only at hSw); go_simp; (try with_reducible rfl)
  try simp only [Act.put, List.getElem_toArray, List.getElem_cons_succ, List.getElem_cons_zero, List.setIfInBounds_toArray, List.set_cons_zero, List.set_cons_succ]
  refine wpAnyH_take (i := 3) (oi := _) (v := ?_) rfl (by kernel_rfl) (by kernel_rfl) (by kernel_rfl) (fun _ _ _ h => h) (Or.inl ⟨by rfl, ?_⟩) (by assumption) ?_
  rotate_left 1
  · intro w hSw; (try dsimp only at hSw); go_simp; (try with_reducible rfl)
  try simp only [Act.put, List.getElem_toArray, List.getElem_cons_succ, List.getElem_cons_zero, List.setIfInBounds_toArray, List.set_cons_zero, List.set_cons_succ]
  refine wpAnyH_take (i := 6) (oi := _) (v := ?_) rfl (by kernel_rfl) (by kernel_rfl) (by kernel_rfl) (fun _ _ _ h => h) (Or.inl ⟨by rfl, ?_⟩) (by assumption) ?_
  rotate_left 1
  · intro w hSw; (try dsimp only at hSw); go_simp; (try with_reducible rfl)
  try simp only [Act.put, List.getElem_toArray, List.getElem_cons_succ, List.getElem_cons_zero, List.setIfInBounds_toArray, List.set_cons_zero, List.set_cons_succ]
  refine wpAnyH_take (i := 7) (oi := _) (v := ?_) rfl (by kernel_rfl) (by kernel_rfl) (by kernel_rfl) (fun _ _ _ h => h) (Or.inl ⟨by rfl, ?_⟩) (by assumption) ?_
  rotate_left 1
  · intro w hSw; (try dsimp only at hSw); go_simp; (try with_reducible rfl)
  try simp only [Act.put, List.getElem_toArray, List.getElem_cons_succ, List.getElem_cons_zero, List.setIfInBounds_toArray, List.set_cons_zero, List.set_cons_succ]
  refine wpAnyH_take (i := 8) (oi := _) (v := ?_) rfl (by kernel_rfl) (by kernel_rfl) (by kernel_rfl) (fun _ _ _ h => h) (Or.inl ⟨by rfl, ?_⟩) (by assumption) ?_
  rotate_left 1
  · intro w hSw; (try dsimp only at hSw); go_simp; (try with_reducible rfl)
  try simp only [Act.put, List.getElem_toArray, List.getElem_cons_succ, List.getElem_cons_zero, List.setIfInBounds_toArray, List.set_cons_zero, List.set_cons_succ]
  refine wpAnyH_take (i := 9) (oi := _) (v := ?_) rfl (by kernel_rfl) (by kernel_rfl) (by kernel_rfl) (fun _ _ _ h => h) (Or.inl ⟨by rfl, ?_⟩) (by assumption) ?_
  rotate_left 1
  · intro w hSw; (try dsimp only at hSw); go_simp; (try with_reducible rfl)
  try simp only [Act.put, List.getElem_toArray, List.getElem_cons_succ, List.getElem_cons_zero, List.setIfInBounds_toArray, List.set_cons_zero, List.set_cons_succ]
  refine wpAnyH_ready (rs := [4]) (by kernel_rfl) (by simp) ?_
  refine AllReadyH.cons rfl (fun K hK => ?_) AllReadyH.nil
  try simp only [List.getElem_toArray, List.getElem_cons_succ, List.getElem_cons_zero]
  go_simp
  go_at_call 71
  refine (RS _ x hx (KD 1)).mono ?_
  rintro e w6 ⟨rfl, K6⟩
  have KS6 : Kept0 w5 w6 := Kept.trans (KD 1) K6
  refine hK.out _ _ ?_ (fun hHeld => ?_)
  · exact stay _ KS6
  clear hK K
  try simp only [Act.put, List.getElem_toArray, List.getElem_cons_succ, List.getElem_cons_zero, List.setIfInBounds_toArray, List.set_cons_zero, List.set_cons_succ]
  refine wpAnyH_take (i := 5) (oi := _) (v := ?_) rfl (by kernel_rfl) (by kernel_rfl) (by kernel_rfl) (fun _ _ _ h => h) (Or.inl ⟨by rfl, ?_⟩) (by assumption) ?_
  rotate_left 1
  · intro w hSw; (try dsimp only at hSw); go_simp; (try with_reducible rfl)
  try simp only [Act.put, List.getElem_toArray, List.getElem_cons_succ, List.getElem_cons_zero, List.setIfInBounds_toArray, List.set_cons_zero, List.set_cons_succ]
  refine wpAnyH_ready (rs := [10]) (by kernel_rfl) (by simp) ?_
  refine AllReadyH.cons rfl (fun K hK => ?_) AllReadyH.nil
  try simp only [List.getElem_toArray, List.getElem_cons_succ, List.getElem_cons_zero]
  go_simp
  go_at_call 71
  refine (RS _ y hy KS6).mono ?_
  rintro e w7 ⟨rfl, K7⟩
  have KS7 : Kept0 w5 w7 := Kept.trans KS6 K7
  refine hK.out _ _ ?_ (fun hHeld => ?_)
  · exact stay _ KS7
  clear hK K
  try simp only [Act.put, List.getElem_toArray, List.getElem_cons_succ, List.getElem_cons_zero, List.setIfInBounds_toArray, List.set_cons_zero, List.set_cons_succ]
  refine wpAnyH_take (i := 11) (oi := _) (v := ?_) rfl (by kernel_rfl) (by kernel_rfl) (by kernel_rfl) (fun _ _ _ h => h) (Or.inl ⟨by rfl, ?_⟩) (by assumption) ?_
  rotate_left 1
  · intro w hSw; (try dsimp only at hSw); go_simp; (try with_reducible rfl)
  try simp only [Act.put, List.getElem_toArray, List.getElem_cons_succ, List.getElem_cons_zero, List.setIfInBounds_toArray, List.set_cons_zero, List.set_cons_succ]
  refine wpAnyH_take (i := 12) (oi := _) (v := ?_) rfl (by kernel_rfl) (by kernel_rfl) (by kernel_rfl) (fun _ _ _ h => h) (Or.inl ⟨by rfl, ?_⟩) (by assumption) ?_
  rotate_left 1
  · intro w hSw; (try dsimp only at hSw); go_simp; (try with_reducible rfl)
  try simp only [Act.put, List.getElem_toArray, List.getElem_cons_succ, List.getElem_cons_zero, List.setIfInBounds_toArray, List.set_cons_zero, List.set_cons_succ]
  refine wpAnyH_done (by kernel_rfl) ?_ _
  go_wp2_with fail
  go_ret
  exact ⟨rfl, Kept.trans K5 KS7⟩

set_option maxRecDepth 100000 in
set_option maxHeartbeats 2000000 in
theorem rsh_not (w : World) (av : Value) (x0 y0 op x y : Int) (h0 : ¬ op = 0) (kb ko kc : Nat) (sa : Option Addr) (sn sc : Nat) (aa : Option Addr) (an ac : Nat) (hav : av = .slice aa an ac) (Z : List UInt8) (hZ : Z.length ≤ 1000000000000000)
    (k0 : w.cell? ⟨kb, ko, none⟩ = some (.int .i64 op)) (k1 : w.cell? ⟨kb, ko + 1, none⟩ = some (.int .i64 x)) (k2 : w.cell? ⟨kb, ko + 2, none⟩ = some (.int .i64 y)) (k3 : w.cell? ⟨kb, ko + 3, none⟩ = some (.slice sa sn sc))
    (RK : ∀ W, Kept0 w W → Calls Try.prog 63 #[av, .agg #[.int .i64 op, .int .i64 x, .int .i64 y, .slice sa sn sc]] W fun e w' => e = .returned (.string (ofB Z)) ∧ Kept0 W w') :
    Calls Try.prog 63 #[av, .agg #[.int .i64 1, .int .i64 x0, .int .i64 y0, .slice (some ⟨kb, ko, none⟩) 1 kc]] w fun e w' => e = .returned (.string (ofB [33] ++ ofB Z)) ∧ Kept0 w w' := by
  subst hav
  have KA : Kept0 w (w.alloc (.cells #[.int .i64 1, .int .i64 x0, .int .i64 y0, .slice (some ⟨kb, ko, none⟩) 1 kc] 94)) := Kept.alloc (Kept.refl _ w) _
  have hc : ∀ {W : World} {b o : Nat} {u : Value}, Kept0 w W → w.cell? ⟨b, o, none⟩ = some u → W.cell? ⟨b, o, none⟩ = some u := fun {W b o u} K hu => (World.cell?_of_block (K.block b (World.block_lt_of_cell? w _ hu) (fun e => e))).trans hu
  have j0 := hc KA k0
  have j1 := hc KA k1
  have j2 := hc KA k2
  have j3 := hc KA k3
  have R1 := made_row w #[.int .i64 1, .int .i64 x0, .int .i64 y0, .slice (some ⟨kb, ko, none⟩) 1 kc] 94
  have c0 : (w.alloc (.cells #[.int .i64 1, .int .i64 x0, .int .i64 y0, .slice (some ⟨kb, ko, none⟩) 1 kc] 94)).cell? ⟨w.heap.size, 0, none⟩ = some (.int .i64 1) := R1.cell (i := 0) (by simp)
  have c3 : (w.alloc (.cells #[.int .i64 1, .int .i64 x0, .int .i64 y0, .slice (some ⟨kb, ko, none⟩) 1 kc] 94)).cell? ⟨w.heap.size, 3, none⟩ = some (.slice (some ⟨kb, ko, none⟩) 1 kc) := R1.cell (i := 3) (by simp)
  have d0 : (op == 0) = false := by simpa using h0
  have n1 : ¬ 9223372036854775807 < 1 + (ofB Z).size := by rw [ofB_size]; omega
  clear hc k0 k1 k2 k3 R1
  go_enter Try.func63, Try.ntmps63
  go_wp2_with (first | (go_at_call 63; refine (RK _ (Kept.trans KA (Kept.alloc (Kept.refl _ _) _))).mono ?_; rintro e w7 ⟨rfl, K7⟩))
  go_ret
  exact ⟨rfl, Kept.trans (Kept.trans KA (Kept.alloc (Kept.refl _ _) _)) K7⟩

end Go.Proofs.Ytinphcnknionmaa

namespace Go.Proofs.Ytinphcnknionmaa
open Go.RowKit Go.Maps

set_option maxRecDepth 100000 in
set_option maxHeartbeats 2000000 in
theorem rsh_two (w : World) (av : Value) (o x0 y0 op1 x1 y1 op2 x2 y2 : Int) (ho : o = 2 ∨ o = 3 ∨ o = 4) (kb ko kc : Nat) (sa1 : Option Addr) (sn1 sc1 : Nat) (sa2 : Option Addr) (sn2 sc2 : Nat) (aa : Option Addr) (an ac : Nat) (hav : av = .slice aa an ac) (Z1 Z2 : List UInt8) (hZ : Z1.length + Z2.length ≤ 1000000000000000)
    (k0 : w.cell? ⟨kb, ko, none⟩ = some (.int .i64 op1)) (k1 : w.cell? ⟨kb, ko + 1, none⟩ = some (.int .i64 x1)) (k2 : w.cell? ⟨kb, ko + 2, none⟩ = some (.int .i64 y1)) (k3 : w.cell? ⟨kb, ko + 3, none⟩ = some (.slice sa1 sn1 sc1))
    (k4 : w.cell? ⟨kb, ko + 4, none⟩ = some (.int .i64 op2)) (k5 : w.cell? ⟨kb, ko + 4 + 1, none⟩ = some (.int .i64 x2)) (k6 : w.cell? ⟨kb, ko + 4 + 2, none⟩ = some (.int .i64 y2)) (k7 : w.cell? ⟨kb, ko + 4 + 3, none⟩ = some (.slice sa2 sn2 sc2))
    (RK1 : ∀ W, Kept0 w W → Calls Try.prog 63 #[av, .agg #[.int .i64 op1, .int .i64 x1, .int .i64 y1, .slice sa1 sn1 sc1]] W fun e w' => e = .returned (.string (ofB Z1)) ∧ Kept0 W w')
    (RK2 : ∀ W, Kept0 w W → Calls Try.prog 63 #[av, .agg #[.int .i64 op2, .int .i64 x2, .int .i64 y2, .slice sa2 sn2 sc2]] W fun e w' => e = .returned (.string (ofB Z2)) ∧ Kept0 W w') :
    Calls Try.prog 63 #[av, .agg #[.int .i64 o, .int .i64 x0, .int .i64 y0, .slice (some ⟨kb, ko, none⟩) 2 kc]] w fun e w' => e = .returned (.string (ofB [40] ++ ofB Z1 ++ ofB (opS o) ++ ofB Z2 ++ ofB [41])) ∧ Kept0 w w' := by
  subst hav
  have KA : Kept0 w (w.alloc (.cells #[.int .i64 o, .int .i64 x0, .int .i64 y0, .slice (some ⟨kb, ko, none⟩) 2 kc] 94)) := Kept.alloc (Kept.refl _ w) _
  have hc : ∀ {W : World} {b o : Nat} {u : Value}, Kept0 w W → w.cell? ⟨b, o, none⟩ = some u → W.cell? ⟨b, o, none⟩ = some u := fun {W b o u} K hu => (World.cell?_of_block (K.block b (World.block_lt_of_cell? w _ hu) (fun e => e))).trans hu
  have j0 := hc KA k0
  have j1 := hc KA k1
  have j2 := hc KA k2
  have j3 := hc KA k3
  have R1 := made_row w #[.int .i64 o, .int .i64 x0, .int .i64 y0, .slice (some ⟨kb, ko, none⟩) 2 kc] 94
  have c0 : (w.alloc (.cells #[.int .i64 o, .int .i64 x0, .int .i64 y0, .slice (some ⟨kb, ko, none⟩) 2 kc] 94)).cell? ⟨w.heap.size, 0, none⟩ = some (.int .i64 o) := R1.cell (i := 0) (by simp)
  have c3 : (w.alloc (.cells #[.int .i64 o, .int .i64 x0, .int .i64 y0, .slice (some ⟨kb, ko, none⟩) 2 kc] 94)).cell? ⟨w.heap.size, 3, none⟩ = some (.slice (some ⟨kb, ko, none⟩) 2 kc) := R1.cell (i := 3) (by simp)
  have n1 : ¬ 9223372036854775807 < 1 + (ofB Z1).size := by rw [ofB_size]; omega
  have n2 : ¬ 9223372036854775807 < 1 + (ofB Z1).size + 1 := by rw [ofB_size]; omega
  have n3 : ¬ 9223372036854775807 < 1 + (ofB Z1).size + 2 := by rw [ofB_size]; omega
  have n4 : ¬ 9223372036854775807 < 1 + (ofB Z1).size + 1 + (ofB Z2).size := by rw [ofB_size, ofB_size]; omega
  have n5 : ¬ 9223372036854775807 < 1 + (ofB Z1).size + 2 + (ofB Z2).size := by rw [ofB_size, ofB_size]; omega
  have n6 : ¬ 9223372036854775807 < 1 + (ofB Z1).size + 1 + (ofB Z2).size + 1 := by rw [ofB_size, ofB_size]; omega
  have n7 : ¬ 9223372036854775807 < 1 + (ofB Z1).size + 2 + (ofB Z2).size + 1 := by rw [ofB_size, ofB_size]; omega
  have HK : Hid (∀ W, Kept0 w W → W.cell? ⟨kb, ko + 4, none⟩ = some (.int .i64 op2) ∧ W.cell? ⟨kb, ko + 4 + 1, none⟩ = some (.int .i64 x2) ∧ W.cell? ⟨kb, ko + 4 + 2, none⟩ = some (.int .i64 y2) ∧ W.cell? ⟨kb, ko + 4 + 3, none⟩ = some (.slice sa2 sn2 sc2)) := fun W K => ⟨hc K k4, hc K k5, hc K k6, hc K k7⟩
  clear hc k0 k1 k2 k3 k4 k5 k6 k7 R1
  rcases ho with rfl | rfl | rfl
  all_goals
    go_enter Try.func63, Try.ntmps63
    go_wp2_with (first | (go_at_call 63; refine (RK2 _ KQ).mono ?_; rintro e w8 ⟨rfl, K8⟩) | (go_at_call 63; refine (RK1 _ KA).mono ?_; rintro e w7 ⟨rfl, K7⟩; have KQ := Kept.trans KA K7; obtain ⟨q4, q5, q6, q7⟩ := HK.out w7 KQ; have d3 := (World.cell?_of_block (K7.block _ (World.block_lt_of_cell? _ _ c3) (fun e => e))).trans c3))
    go_ret
    exact ⟨rfl, Kept.trans KQ K8⟩

end Go.Proofs.Ytinphcnknionmaa
