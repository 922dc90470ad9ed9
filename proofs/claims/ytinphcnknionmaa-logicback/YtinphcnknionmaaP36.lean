/- The document's Show of other formulas. The document's Show of And, Or, Implies. The document's Show, whole. The document's Eval. The document's Eval, whole. The statements' Same: of a Form that is the document's. -/
import Derived.Test.YtinphcnknionmaaP35
import Derived.Test.YtinphcnknionmaaP16
import Derived.WalkKit
import Derived.WalkSpells
import Derived.WalkLawsBesides
import Derived.Deep.OwnRows
import Derived.Deep.LoopGhost
import Derived.Deep.QuietTactic
import Derived.BigRegion
import Derived.BigQuiet
import Derived.Deep.RegionWith
import Derived.Below
import Derived.Deep.CutRange
import Derived.Laws.Bits64
namespace Go.Proofs.Ytinphcnknionmaa
open Go.RowKit Go.Maps

/-- A Kid's cells. -/
theorem kidC_at {w : World} {a : Option Addr} {kids : List Lf} (h : kids = [] ∨ ∃ kb ko, a = some ⟨kb, ko, none⟩ ∧ ∀ (j : Nat) (t : Lf), kids[j]? = some t → t.b = kb ∧ t.o = ko + j * 4) (hks : ∀ k ∈ kids, LayC w k) {j : Nat} {k : Lf} (hj : kids[j]? = some k) :
    ∃ kb ko sa sc, a = some ⟨kb, ko, none⟩ ∧ k.kv = .slice sa k.kids.length sc ∧ KidsIn k.kv k.kids ∧ (∀ u ∈ k.kids, LayC w u) ∧ w.cell? ⟨kb, ko + j * 4, none⟩ = some (.int .i64 k.op) ∧ w.cell? ⟨kb, ko + j * 4 + 1, none⟩ = some (.int .i64 k.x) ∧ w.cell? ⟨kb, ko + j * 4 + 2, none⟩ = some (.int .i64 k.y) ∧ w.cell? ⟨kb, ko + j * 4 + 3, none⟩ = some (.slice sa k.kids.length sc) := by
  rcases h with e | ⟨kb, ko, ha, hh⟩
  · rw [e] at hj; simp at hj
  · obtain ⟨e1, e2⟩ := hh j k hj
    have hL := hks k (List.mem_of_getElem? hj)
    obtain ⟨b, o, op, x, y, kv, ks⟩ := k
    simp only [Lf.b, Lf.o] at e1 e2
    subst e1 e2
    cases hL with
    | mk c0 c1 c2 c3 hk hh2 =>
      obtain ⟨sa, sc, hkv, hrest⟩ := hk
      subst hkv
      exact ⟨_, _, sa, sc, ha, rfl, ⟨sa, sc, rfl, hrest⟩, hh2, c0, c1, c2, c3⟩

set_option maxRecDepth 100000 in
set_option maxHeartbeats 2000000 in
theorem rsh_neq (w : World) (base : Nat) (av : Value) (l : List Tm) (vs : List Value) (h : ShL w base av l vs) (x0 y0 x y : Int) (hx : inB l.length x = true) (hy : inB l.length y = true) (kb ko kc : Nat) (sv : Value) (sa : Option Addr) (sn sc : Nat) (hsv : sv = .slice sa sn sc)
    (k0 : w.cell? ⟨kb, ko, none⟩ = some (.int .i64 0)) (k1 : w.cell? ⟨kb, ko + 1, none⟩ = some (.int .i64 x)) (k2 : w.cell? ⟨kb, ko + 2, none⟩ = some (.int .i64 y)) (k3 : w.cell? ⟨kb, ko + 3, none⟩ = some sv) (hl : ((shwB l x).data.toList ++ [33, 61] ++ (shwB l y).data.toList).length ≤ 1000000000000000) :
    Calls Try.prog 63 #[av, .agg #[.int .i64 1, .int .i64 x0, .int .i64 y0, .slice (some ⟨kb, ko, none⟩) 1 kc]] w fun e w' => e = .returned (.string (shwB l x ++ ofB [33, 61] ++ shwB l y)) ∧ Kept0 w w' := by
  subst hsv
  obtain ⟨aa, ac, rfl⟩ := h.form
  have KA : Kept0 w (w.alloc (.cells #[.int .i64 1, .int .i64 x0, .int .i64 y0, .slice (some ⟨kb, ko, none⟩) 1 kc] 94)) := Kept.alloc (Kept.refl _ w) _
  have hc : ∀ {W : World} {b o : Nat} {u : Value}, Kept0 w W → w.cell? ⟨b, o, none⟩ = some u → W.cell? ⟨b, o, none⟩ = some u := fun {W b o u} K hu => (World.cell?_of_block (K.block b (World.block_lt_of_cell? w _ hu) (fun e => e))).trans hu
  have j0 := hc KA k0
  have j1 := hc KA k1
  have j2 := hc KA k2
  have j3 := hc KA k3
  have R1 := made_row w #[.int .i64 1, .int .i64 x0, .int .i64 y0, .slice (some ⟨kb, ko, none⟩) 1 kc] 94
  have c0 : (w.alloc (.cells #[.int .i64 1, .int .i64 x0, .int .i64 y0, .slice (some ⟨kb, ko, none⟩) 1 kc] 94)).cell? ⟨w.heap.size, 0, none⟩ = some (.int .i64 1) := R1.cell (i := 0) (by simp)
  have c3 : (w.alloc (.cells #[.int .i64 1, .int .i64 x0, .int .i64 y0, .slice (some ⟨kb, ko, none⟩) 1 kc] 94)).cell? ⟨w.heap.size, 3, none⟩ = some (.slice (some ⟨kb, ko, none⟩) 1 kc) := R1.cell (i := 3) (by simp)
  have hcat : (shwB l x).size + 2 + (shwB l y).size ≤ 1000000000000000 := by
    rw [List.length_append, List.length_append, Array.length_toList, Array.length_toList] at hl
    exact hl
  have n1 : ¬ 9223372036854775807 < (shwB l x).size + 2 := by omega
  have n2 : ¬ 9223372036854775807 < (shwB l x).size + 2 + (shwB l y).size := by omega
  have n3 : ¬ 9223372036854775807 < (shwB l x ++ ofB [33, 61]).size + (shwB l y).size := by rw [ByteArray.size_append, ofB_size]; simp only [List.length_cons, List.length_nil]; omega
  have hz1 : (w.alloc (.cells #[.int .i64 1, .int .i64 x0, .int .i64 y0, .slice (some ⟨kb, ko, none⟩) 1 kc] 94)).heap.size = w.heap.size + 1 := by simp
  clear hl hcat hc k0 k1 k2 k3 R1
  go_enter Try.func63, Try.ntmps63
  go_wp2_with fail
  generalize w.alloc (.cells #[.int .i64 1, .int .i64 x0, .int .i64 y0, .slice (some ⟨kb, ko, none⟩) 1 kc] 94) = w1 at KA c0 c3 j0 j1 j2 j3 hz1 ⊢
  have KB : Kept0 w1 (w1.alloc (.cells #[.int .i64 0, .int .i64 x, .int .i64 y, .slice sa sn sc] 94)) := Kept.alloc (Kept.refl _ w1) _
  have R2 := made_row w1 #[.int .i64 0, .int .i64 x, .int .i64 y, .slice sa sn sc] 94
  have c1 : (w1.alloc (.cells #[.int .i64 0, .int .i64 x, .int .i64 y, .slice sa sn sc] 94)).cell? ⟨w1.heap.size, 1, none⟩ = some (.int .i64 x) := R2.cell (i := 1) (by simp)
  have c2 : (w1.alloc (.cells #[.int .i64 0, .int .i64 x, .int .i64 y, .slice sa sn sc] 94)).cell? ⟨w1.heap.size, 2, none⟩ = some (.int .i64 y) := R2.cell (i := 2) (by simp)
  have K5 := Kept.trans KA KB
  have H5 := h.kept0 K5
  generalize w1.alloc (.cells #[.int .i64 0, .int .i64 x, .int .i64 y, .slice sa sn sc] 94) = w5 at K5 c1 c2 H5 ⊢
  rw [hz1] at c1 c2
  generalize w.heap.size + 1 = xb at *
  clear hz1
  have RS : ∀ (W : World) (n : Int), inB l.length n = true → Kept0 w5 W → Calls Try.prog 71 #[.slice aa l.length ac, .int .i64 n] W fun e w' => e = .returned (.string (shwB l n)) ∧ Kept0 W w' := fun W n hn K => (H5.kept0 K).show1 n hn
  have KD : ∀ m, Kept0 w5 (w5.drewN m) := fun m => Kept.drewN (Kept.refl _ w5) m
  have stay : ∀ W, Kept0 w5 W → W.cell? ⟨xb, 1, none⟩ = some (.int .i64 x) ∧ W.cell? ⟨xb, 2, none⟩ = some (.int .i64 y) := fun W K => ⟨(World.cell?_of_block (K.block _ (World.block_lt_of_cell? w5 _ c1) (fun e => e))).trans c1, (World.cell?_of_block (K.block _ (World.block_lt_of_cell? w5 _ c2) (fun e => e))).trans c2⟩
  clear H5
  refine wp_region_held_drew (S := fun W => W.cell? ⟨xb, 1, none⟩ = some (.int .i64 x) ∧ W.cell? ⟨xb, 2, none⟩ = some (.int .i64 y)) (by kernel_rfl) ⟨c1, c2⟩ (fun hHeld => ?_)
  refine wpAnyH_take (i := 0) (oi := _) (v := ?_) rfl (by kernel_rfl) (by kernel_rfl) (by kernel_rfl) (fun _ _ _ h => h) (Or.inl ⟨by rfl, ?_⟩) (by assumption) ?_
  rotate_left 1
  · intro w hSw; (try dsimp only at hSw); go_simp; (try with_reducible rfl)
  try simp only [Act.put, List.getElem_toArray, List.getElem_cons_zero, List.setIfInBounds_toArray, List.set_cons_zero, List.set_cons_succ]
  refine wpAnyH_take (i := 1) (oi := _) (v := ?_) rfl (by kernel_rfl) (by kernel_rfl) (by kernel_rfl) (fun _ _ _ h => h) (Or.inl ⟨by rfl, ?_⟩) (by assumption) ?_
  rotate_left 1
  · intro w hSw; (try dsimp only at hSw); go_simp; (try with_reducible rfl)
  try simp only [Act.put, List.getElem_toArray, List.getElem_cons_succ, List.getElem_cons_zero, List.setIfInBounds_toArray, List.set_cons_zero, List.set_cons_succ]
  refine wpAnyH_take (i := 2) (oi := _) (v := ?_) rfl (by kernel_rfl) (by kernel_rfl) (by kernel_rfl) (fun _ _ _ h => h) (Or.inl ⟨by rfl, ?_⟩) (by assumption) ?_
  rotate_left 1
  · intro w hSw; (try dsimp only at hSw); go_simp; (try with_reducible rfl)
  try simp only [Act.put, List.getElem_toArray, List.getElem_cons_succ, List.getElem_cons_zero, List.setIfInBounds_toArray, List.set_cons_zero, List.set_cons_succ]
  refine wpAnyH_take (i := 3) (oi := _) (v := ?_) rfl (by kernel_rfl) (by kernel_rfl) (by kernel_rfl) (fun _ _ _ h => h) (Or.inl ⟨by rfl, ?_⟩) (by assumption) ?_
  rotate_left 1
  · intro w hSw; (try dsimp only at hSw); go_simp; (try with_reducible rfl)
  try simp only [Act.put, List.getElem_toArray, List.getElem_cons_succ, List.getElem_cons_zero, List.setIfInBounds_toArray, List.set_cons_zero, List.set_cons_succ]
  refine wpAnyH_take (i := 6) (oi := _) (v := ?_) rfl (by kernel_rfl) (by kernel_rfl) (by kernel_rfl) (fun _ _ _ h => h) (Or.inl ⟨by rfl, ?_⟩) (by assumption) ?_
  rotate_left 1
  · intro w hSw; (try dsimp only at hSw); go_simp; (try with_reducible rfl)
  try simp only [Act.put, List.getElem_toArray, List.getElem_cons_succ, List.getElem_cons_zero, List.setIfInBounds_toArray, List.set_cons_zero, List.set_cons_succ]
  refine wpAnyH_take (i := 7) (oi := _) (v := ?_) rfl (by kernel_rfl) (by kernel_rfl) (by kernel_rfl) (fun _ _ _ h => h) (Or.inl ⟨by rfl, ?_⟩) (by assumption) ?_
  rotate_left 1
  · intro w hSw; (try dsimp only at hSw); go_simp; (try with_reducible rfl)
  try simp only [Act.put, List.getElem_toArray, List.getElem_cons_succ, List.getElem_cons_zero, List.setIfInBounds_toArray, List.set_cons_zero, List.set_cons_succ]
  refine wpAnyH_take (i := 8) (oi := _) (v := ?_) rfl (by kernel_rfl) (by kernel_rfl) (by kernel_rfl) (fun _ _ _ h => h) (Or.inl ⟨by rfl, ?_⟩) (by assumption) ?_
  rotate_left 1
  · intro w hSw; (try dsimp only at hSw); go_simp; (try with_reducible rfl)
  try simp only [Act.put, List.getElem_toArray, List.getElem_cons_succ, List.getElem_cons_zero, List.setIfInBounds_toArray, List.set_cons_zero, List.set_cons_succ]
  refine wpAnyH_take (i := 9) (oi := _) (v := ?_) rfl (by kernel_rfl) (by kernel_rfl) (by kernel_rfl) (fun _ _ _ h => h) (Or.inl ⟨by rfl, ?_⟩) (by assumption) ?_
  rotate_left 1
  · intro w hSw; (try dsimp only at hSw); go_simp; (try with_reducible rfl)
  try simp only [Act.put, List.getElem_toArray, List.getElem_cons_succ, List.getElem_cons_zero, List.setIfInBounds_toArray, List.set_cons_zero, List.set_cons_succ]
  refine wpAnyH_ready (rs := [4]) (by kernel_rfl) (by simp) ?_
  refine AllReadyH.cons rfl (fun K hK => ?_) AllReadyH.nil
  try simp only [List.getElem_toArray, List.getElem_cons_succ, List.getElem_cons_zero]
  go_simp
  go_at_call 71
  refine (RS _ x hx (KD 1)).mono ?_
  rintro e w6 ⟨rfl, K6⟩
  have KS6 : Kept0 w5 w6 := Kept.trans (KD 1) K6
  refine hK.out _ _ ?_ (fun hHeld => ?_)
  · exact stay _ KS6
  clear hK K
  try simp only [Act.put, List.getElem_toArray, List.getElem_cons_succ, List.getElem_cons_zero, List.setIfInBounds_toArray, List.set_cons_zero, List.set_cons_succ]
  refine wpAnyH_take (i := 5) (oi := _) (v := ?_) rfl (by kernel_rfl) (by kernel_rfl) (by kernel_rfl) (fun _ _ _ h => h) (Or.inl ⟨by rfl, ?_⟩) (by assumption) ?_
  rotate_left 1
  · intro w hSw; (try dsimp only at hSw); go_simp; (try with_reducible rfl)
  try simp only [Act.put, List.getElem_toArray, List.getElem_cons_succ, List.getElem_cons_zero, List.setIfInBounds_toArray, List.set_cons_zero, List.set_cons_succ]
  refine wpAnyH_ready (rs := [10]) (by kernel_rfl) (by simp) ?_
  refine AllReadyH.cons rfl (fun K hK => ?_) AllReadyH.nil
  try simp only [List.getElem_toArray, List.getElem_cons_succ, List.getElem_cons_zero]
  go_simp
  go_at_call 71
  refine (RS _ y hy KS6).mono ?_
  rintro e w7 ⟨rfl, K7⟩
  have KS7 : Kept0 w5 w7 := Kept.trans KS6 K7
  refine hK.out _ _ ?_ (fun hHeld => ?_)
  · exact stay _ KS7
  clear hK K
  try simp only [Act.put, List.getElem_toArray, List.getElem_cons_succ, List.getElem_cons_zero, List.setIfInBounds_toArray, List.set_cons_zero, List.set_cons_succ]
  refine wpAnyH_take (i := 11) (oi := _) (v := ?_) rfl (by kernel_rfl) (by kernel_rfl) (by kernel_rfl) (fun _ _ _ h => h) (Or.inl ⟨by rfl, ?_⟩) (by assumption) ?_
  rotate_left 1
  · intro w hSw; (try dsimp only at hSw); go_simp; (try with_reducible rfl)
  try simp only [Act.put, List.getElem_toArray, List.getElem_cons_succ, List.getElem_cons_zero, List.setIfInBounds_toArray, List.set_cons_zero, List.set_cons_succ]
  refine wpAnyH_take (i := 12) (oi := _) (v := ?_) rfl (by kernel_rfl) (by kernel_rfl) (by kernel_rfl) (fun _ _ _ h => h) (Or.inl ⟨by rfl, ?_⟩) (by assumption) ?_
  rotate_left 1
  · intro w hSw; (try dsimp only at hSw); go_simp; (try with_reducible rfl)
  try simp only [Act.put, List.getElem_toArray, List.getElem_cons_succ, List.getElem_cons_zero, List.setIfInBounds_toArray, List.set_cons_zero, List.set_cons_succ]
  refine wpAnyH_done (by kernel_rfl) ?_ _
  go_wp2_with fail
  go_ret
  exact ⟨rfl, Kept.trans K5 KS7⟩

set_option maxRecDepth 100000 in
set_option maxHeartbeats 2000000 in
theorem rsh_not (w : World) (av : Value) (x0 y0 op x y : Int) (h0 : ¬ op = 0) (kb ko kc : Nat) (sa : Option Addr) (sn sc : Nat) (aa : Option Addr) (an ac : Nat) (hav : av = .slice aa an ac) (Z : List UInt8) (hZ : Z.length ≤ 1000000000000000)
    (k0 : w.cell? ⟨kb, ko, none⟩ = some (.int .i64 op)) (k1 : w.cell? ⟨kb, ko + 1, none⟩ = some (.int .i64 x)) (k2 : w.cell? ⟨kb, ko + 2, none⟩ = some (.int .i64 y)) (k3 : w.cell? ⟨kb, ko + 3, none⟩ = some (.slice sa sn sc))
    (RK : ∀ W, Kept0 w W → Calls Try.prog 63 #[av, .agg #[.int .i64 op, .int .i64 x, .int .i64 y, .slice sa sn sc]] W fun e w' => e = .returned (.string (ofB Z)) ∧ Kept0 W w') :
    Calls Try.prog 63 #[av, .agg #[.int .i64 1, .int .i64 x0, .int .i64 y0, .slice (some ⟨kb, ko, none⟩) 1 kc]] w fun e w' => e = .returned (.string (ofB [33] ++ ofB Z)) ∧ Kept0 w w' := by
  subst hav
  have KA : Kept0 w (w.alloc (.cells #[.int .i64 1, .int .i64 x0, .int .i64 y0, .slice (some ⟨kb, ko, none⟩) 1 kc] 94)) := Kept.alloc (Kept.refl _ w) _
  have hc : ∀ {W : World} {b o : Nat} {u : Value}, Kept0 w W → w.cell? ⟨b, o, none⟩ = some u → W.cell? ⟨b, o, none⟩ = some u := fun {W b o u} K hu => (World.cell?_of_block (K.block b (World.block_lt_of_cell? w _ hu) (fun e => e))).trans hu
  have j0 := hc KA k0
  have j1 := hc KA k1
  have j2 := hc KA k2
  have j3 := hc KA k3
  have R1 := made_row w #[.int .i64 1, .int .i64 x0, .int .i64 y0, .slice (some ⟨kb, ko, none⟩) 1 kc] 94
  have c0 : (w.alloc (.cells #[.int .i64 1, .int .i64 x0, .int .i64 y0, .slice (some ⟨kb, ko, none⟩) 1 kc] 94)).cell? ⟨w.heap.size, 0, none⟩ = some (.int .i64 1) := R1.cell (i := 0) (by simp)
  have c3 : (w.alloc (.cells #[.int .i64 1, .int .i64 x0, .int .i64 y0, .slice (some ⟨kb, ko, none⟩) 1 kc] 94)).cell? ⟨w.heap.size, 3, none⟩ = some (.slice (some ⟨kb, ko, none⟩) 1 kc) := R1.cell (i := 3) (by simp)
  have d0 : (op == 0) = false := by simpa using h0
  have n1 : ¬ 9223372036854775807 < 1 + (ofB Z).size := by rw [ofB_size]; omega
  clear hc k0 k1 k2 k3 R1
  go_enter Try.func63, Try.ntmps63
  go_wp2_with (first | (go_at_call 63; refine (RK _ (Kept.trans KA (Kept.alloc (Kept.refl _ _) _))).mono ?_; rintro e w7 ⟨rfl, K7⟩))
  go_ret
  exact ⟨rfl, Kept.trans (Kept.trans KA (Kept.alloc (Kept.refl _ _) _)) K7⟩

end Go.Proofs.Ytinphcnknionmaa

namespace Go.Proofs.Ytinphcnknionmaa
open Go.RowKit Go.Maps

set_option maxRecDepth 100000 in
set_option maxHeartbeats 2000000 in
theorem rsh_two (w : World) (av : Value) (o x0 y0 op1 x1 y1 op2 x2 y2 : Int) (ho : o = 2 ∨ o = 3 ∨ o = 4) (kb ko kc : Nat) (sa1 : Option Addr) (sn1 sc1 : Nat) (sa2 : Option Addr) (sn2 sc2 : Nat) (aa : Option Addr) (an ac : Nat) (hav : av = .slice aa an ac) (Z1 Z2 : List UInt8) (hZ : Z1.length + Z2.length ≤ 1000000000000000)
    (k0 : w.cell? ⟨kb, ko, none⟩ = some (.int .i64 op1)) (k1 : w.cell? ⟨kb, ko + 1, none⟩ = some (.int .i64 x1)) (k2 : w.cell? ⟨kb, ko + 2, none⟩ = some (.int .i64 y1)) (k3 : w.cell? ⟨kb, ko + 3, none⟩ = some (.slice sa1 sn1 sc1))
    (k4 : w.cell? ⟨kb, ko + 4, none⟩ = some (.int .i64 op2)) (k5 : w.cell? ⟨kb, ko + 4 + 1, none⟩ = some (.int .i64 x2)) (k6 : w.cell? ⟨kb, ko + 4 + 2, none⟩ = some (.int .i64 y2)) (k7 : w.cell? ⟨kb, ko + 4 + 3, none⟩ = some (.slice sa2 sn2 sc2))
    (RK1 : ∀ W, Kept0 w W → Calls Try.prog 63 #[av, .agg #[.int .i64 op1, .int .i64 x1, .int .i64 y1, .slice sa1 sn1 sc1]] W fun e w' => e = .returned (.string (ofB Z1)) ∧ Kept0 W w')
    (RK2 : ∀ W, Kept0 w W → Calls Try.prog 63 #[av, .agg #[.int .i64 op2, .int .i64 x2, .int .i64 y2, .slice sa2 sn2 sc2]] W fun e w' => e = .returned (.string (ofB Z2)) ∧ Kept0 W w') :
    Calls Try.prog 63 #[av, .agg #[.int .i64 o, .int .i64 x0, .int .i64 y0, .slice (some ⟨kb, ko, none⟩) 2 kc]] w fun e w' => e = .returned (.string (ofB [40] ++ ofB Z1 ++ ofB (opS o) ++ ofB Z2 ++ ofB [41])) ∧ Kept0 w w' := by
  subst hav
  have KA : Kept0 w (w.alloc (.cells #[.int .i64 o, .int .i64 x0, .int .i64 y0, .slice (some ⟨kb, ko, none⟩) 2 kc] 94)) := Kept.alloc (Kept.refl _ w) _
  have hc : ∀ {W : World} {b o : Nat} {u : Value}, Kept0 w W → w.cell? ⟨b, o, none⟩ = some u → W.cell? ⟨b, o, none⟩ = some u := fun {W b o u} K hu => (World.cell?_of_block (K.block b (World.block_lt_of_cell? w _ hu) (fun e => e))).trans hu
  have j0 := hc KA k0
  have j1 := hc KA k1
  have j2 := hc KA k2
  have j3 := hc KA k3
  have R1 := made_row w #[.int .i64 o, .int .i64 x0, .int .i64 y0, .slice (some ⟨kb, ko, none⟩) 2 kc] 94
  have c0 : (w.alloc (.cells #[.int .i64 o, .int .i64 x0, .int .i64 y0, .slice (some ⟨kb, ko, none⟩) 2 kc] 94)).cell? ⟨w.heap.size, 0, none⟩ = some (.int .i64 o) := R1.cell (i := 0) (by simp)
  have c3 : (w.alloc (.cells #[.int .i64 o, .int .i64 x0, .int .i64 y0, .slice (some ⟨kb, ko, none⟩) 2 kc] 94)).cell? ⟨w.heap.size, 3, none⟩ = some (.slice (some ⟨kb, ko, none⟩) 2 kc) := R1.cell (i := 3) (by simp)
  have n1 : ¬ 9223372036854775807 < 1 + (ofB Z1).size := by rw [ofB_size]; omega
  have n2 : ¬ 9223372036854775807 < 1 + (ofB Z1).size + 1 := by rw [ofB_size]; omega
  have n3 : ¬ 9223372036854775807 < 1 + (ofB Z1).size + 2 := by rw [ofB_size]; omega
  have n4 : ¬ 9223372036854775807 < 1 + (ofB Z1).size + 1 + (ofB Z2).size := by rw [ofB_size, ofB_size]; omega
  have n5 : ¬ 9223372036854775807 < 1 + (ofB Z1).size + 2 + (ofB Z2).size := by rw [ofB_size, ofB_size]; omega
  have n6 : ¬ 9223372036854775807 < 1 + (ofB Z1).size + 1 + (ofB Z2).size + 1 := by rw [ofB_size, ofB_size]; omega
  have n7 : ¬ 9223372036854775807 < 1 + (ofB Z1).size + 2 + (ofB Z2).size + 1 := by rw [ofB_size, ofB_size]; omega
  have HK : Hid (∀ W, Kept0 w W → W.cell? ⟨kb, ko + 4, none⟩ = some (.int .i64 op2) ∧ W.cell? ⟨kb, ko + 4 + 1, none⟩ = some (.int .i64 x2) ∧ W.cell? ⟨kb, ko + 4 + 2, none⟩ = some (.int .i64 y2) ∧ W.cell? ⟨kb, ko + 4 + 3, none⟩ = some (.slice sa2 sn2 sc2)) := fun W K => ⟨hc K k4, hc K k5, hc K k6, hc K k7⟩
  clear hc k0 k1 k2 k3 k4 k5 k6 k7 R1
  have fin : ∀ z : ByteArray, z = opS o |> ofB → True := fun _ _ => trivial
  clear fin
  rcases ho with rfl | rfl | rfl
  all_goals
    go_enter Try.func63, Try.ntmps63
    go_wp2_with (first | (go_at_call 63; refine (RK2 _ KQ).mono ?_; rintro e w8 ⟨rfl, K8⟩) | (go_at_call 63; refine (RK1 _ KA).mono ?_; rintro e w7 ⟨rfl, K7⟩; have KQ := Kept.trans KA K7; obtain ⟨q4, q5, q6, q7⟩ := HK.out w7 KQ; have d3 := (World.cell?_of_block (K7.block _ (World.block_lt_of_cell? _ _ c3) (fun e => e))).trans c3))
    go_ret
    exact ⟨rfl, Kept.trans KQ K8⟩

end Go.Proofs.Ytinphcnknionmaa

namespace Go.Proofs.Ytinphcnknionmaa
open Go.RowKit Go.Maps

theorem wf_cases (t : Lf) (h : WfF t.er) : (t.op = 0 ∧ t.kids = []) ∨ (t.op = 1 ∧ ∃ k, t.kids = [k] ∧ WfF k.er) ∨ ((t.op = 2 ∨ t.op = 3 ∨ t.op = 4) ∧ ∃ a b, t.kids = [a, b] ∧ WfF a.er ∧ WfF b.er) := by
  generalize hf : t.er = f at h
  cases h with
  | eq x y =>
    obtain ⟨h1, _, _, h4⟩ := Lf.er_kids hf
    exact Or.inl ⟨h1, List.map_eq_nil_iff.1 h4⟩
  | neg g hg =>
    obtain ⟨h1, _, _, h4⟩ := Lf.er_kids hf
    obtain ⟨k, hk, hke⟩ := map_one h4
    exact Or.inr (Or.inl ⟨h1, k, hk, hke ▸ hg⟩)
  | two o g k ho hg hk =>
    obtain ⟨h1, _, _, h4⟩ := Lf.er_kids hf
    obtain ⟨a, b, hab, ha, hb⟩ := map_two h4
    exact Or.inr (Or.inr ⟨h1 ▸ ho, a, b, hab, ha ▸ hg, hb ▸ hk⟩)

theorem shF_eq (l : List Tm) (g : List UInt8) (x y : Int) (ks : List Fo) : shF l g (.mk 0 x y ks) = (shwB l x).data.toList ++ g ++ (shwB l y).data.toList := by
  unfold shF
  rfl
theorem shF_neg (l : List Tm) (x y : Int) (k : Fo) : shF l [61] (.mk 1 x y [k]) = if k.op = 0 then shF l [33, 61] k else 33 :: shF l [61] k := by
  rw [shF]
  simp
theorem shF_two (l : List Tm) (o x y : Int) (ho : o = 2 ∨ o = 3 ∨ o = 4) (a b : Fo) : shF l [61] (.mk o x y [a, b]) = 40 :: (shF l [61] a ++ opS o ++ shF l [61] b ++ [41]) := by
  rcases ho with rfl | rfl | rfl <;> simp [shF]

theorem rsh : ∀ t : Lf, RSh t
  | .mk b o op x y kv kids => by
    intro w base av l vs h hk hks hw hin hl
    obtain ⟨aa, ac, hav⟩ := h.form
    rcases wf_cases _ hw with ⟨h0, hn⟩ | ⟨h1, k, hkk, hwk⟩ | ⟨h2, ka, kb, hkk, hwa, hwb⟩
    · simp only [Lf.op, Lf.kids, Lf.x, Lf.y, Lf.kv] at h0 hn hk ⊢
      subst h0 hn
      obtain ⟨sa, sc, rfl, _⟩ := hk
      rw [Lf.er] at hin hl ⊢
      rw [shF_eq] at hl ⊢
      have hp := hin (x, y) (by simp [eqF])
      have := rsh_eq w base av l vs h x y hp.1 hp.2 sa 0 sc hl
      refine this.mono ?_
      rintro e w' ⟨he, K⟩
      refine ⟨?_, K⟩
      rw [he, ← ofB_app, ← ofB_app, ofB_data, ofB_data]
    · simp only [Lf.op, Lf.kids, Lf.x, Lf.y, Lf.kv] at h1 hkk hk hks ⊢
      subst h1 hkk
      obtain ⟨sa, sc, rfl, _, hkk⟩ := hk
      obtain ⟨kb, ko, ka, kc, hsa, hkv, q1, q2, c0, c1, c2, c3⟩ := kidC_at hkk hks (j := 0) (k := k) rfl
      subst hsa
      simp only [Nat.zero_mul, Nat.add_zero] at c0 c1 c2 c3
      rw [show [k].length = 1 from rfl] at hin hl ⊢
      have he : (Lf.mk b o 1 x y (.slice (some ⟨kb, ko, none⟩) 1 sc) [k]).er = .mk 1 x y [k.er] := by rw [Lf.er]; rfl
      rw [he] at hin
      have hl' : (shF l [61] (.mk 1 x y [k.er])).length ≤ 1000000000000000 := by rw [← he]; exact hl
      show Calls Try.prog 63 _ w fun e w' => e = .returned (.string (ofB (shF l [61] (Lf.mk b o 1 x y (.slice (some ⟨kb, ko, none⟩) 1 sc) [k]).er))) ∧ Kept0 w w'
      rw [he, shF_neg]
      rw [shF_neg] at hl'
      have hin' : InF l k.er := fun p hp => hin p (by simp [eqF]; exact hp)
      by_cases hz : k.er.op = 0
      · rw [if_pos hz] at hl' ⊢
        have hz' : k.op = 0 := by rw [← Lf.er_op]; exact hz
        rw [hz'] at c0
        have hke : k.er = .mk 0 k.x k.y (k.kids.map Lf.er) := by
          obtain ⟨b1, o1, op1, x1, y1, kv1, ks1⟩ := k
          simp only [Lf.op] at hz'
          subst hz'
          rw [Lf.er]
          rfl
        rw [hke, shF_eq] at hl' ⊢
        have hp := hin' (k.x, k.y) (by rw [hke]; simp [eqF])
        have := rsh_neq w base av l vs h x y k.x k.y hp.1 hp.2 kb ko sc _ ka k.kids.length kc rfl c0 c1 c2 c3 hl'
        refine this.mono ?_
        rintro e w' ⟨he, K⟩
        refine ⟨?_, K⟩
        rw [he, ← ofB_app, ← ofB_app, ofB_data, ofB_data]
      · rw [if_neg hz] at hl' ⊢
        have hz' : ¬ k.op = 0 := by rw [← Lf.er_op]; exact hz
        have hlk : (shF l [61] k.er).length ≤ 1000000000000000 := by simp at hl'; omega
        have RK : ∀ W, Kept0 w W → Calls Try.prog 63 #[av, .agg #[.int .i64 k.op, .int .i64 k.x, .int .i64 k.y, .slice ka k.kids.length kc]] W fun e w' => e = .returned (.string (ofB (shF l [61] k.er))) ∧ Kept0 W w' := fun W K => by
          have := rsh k W base av l vs (h.kept0 K) q1 (fun u hu => layC_kept0 K (q2 u hu)) hwk hin' hlk
          rw [hkv] at this
          exact this
        have := rsh_not w av x y k.op k.x k.y hz' kb ko sc ka k.kids.length kc aa l.length ac hav _ hlk c0 c1 c2 c3 RK
        refine this.mono ?_
        rintro e w' ⟨he, K⟩
        refine ⟨?_, K⟩
        rw [he, ofB_app]
        rfl
    · simp only [Lf.op, Lf.kids, Lf.x, Lf.y, Lf.kv] at h2 hkk hk hks ⊢
      subst hkk
      obtain ⟨sa, sc, rfl, _, hkk⟩ := hk
      obtain ⟨kb1, ko, a1, a2, hsa, hkv1, q1, q2, c0, c1, c2, c3⟩ := kidC_at hkk hks (j := 0) (k := ka) rfl
      obtain ⟨kb2, ko2, b1, b2, hsa2, hkv2, q3, q4, c4, c5, c6, c7⟩ := kidC_at hkk hks (j := 1) (k := kb) rfl
      subst hsa
      simp at hsa2
      obtain ⟨rfl, rfl⟩ := hsa2
      simp only [Nat.zero_mul, Nat.add_zero, Nat.one_mul] at c0 c1 c2 c3 c4 c5 c6 c7
      rw [show [ka, kb].length = 2 from rfl] at hin hl ⊢
      have ho' : ¬ op = 0 := by rcases h2 with rfl | rfl | rfl <;> decide
      have he : (Lf.mk b o op x y (.slice (some ⟨kb1, ko, none⟩) 2 sc) [ka, kb]).er = .mk op x y [ka.er, kb.er] := by rw [Lf.er]; rfl
      rw [he] at hin
      have hl' : (shF l [61] (.mk op x y [ka.er, kb.er])).length ≤ 1000000000000000 := by rw [← he]; exact hl
      show Calls Try.prog 63 _ w fun e w' => e = .returned (.string (ofB (shF l [61] (Lf.mk b o op x y (.slice (some ⟨kb1, ko, none⟩) 2 sc) [ka, kb]).er))) ∧ Kept0 w w'
      rw [he, shF_two l op x y h2]
      rw [shF_two l op x y h2] at hl'
      have hla : (shF l [61] ka.er).length + (shF l [61] kb.er).length ≤ 1000000000000000 := by simp at hl'; omega
      have hin1 : InF l ka.er := fun p hp => hin p (by simp [eqF, ho']; exact Or.inl hp)
      have hin2 : InF l kb.er := fun p hp => hin p (by simp [eqF, ho']; exact Or.inr hp)
      have RK1 : ∀ W, Kept0 w W → Calls Try.prog 63 #[av, .agg #[.int .i64 ka.op, .int .i64 ka.x, .int .i64 ka.y, .slice a1 ka.kids.length a2]] W fun e w' => e = .returned (.string (ofB (shF l [61] ka.er))) ∧ Kept0 W w' := fun W K => by
        have := rsh ka W base av l vs (h.kept0 K) q1 (fun u hu => layC_kept0 K (q2 u hu)) hwa hin1 (by omega)
        rw [hkv1] at this
        exact this
      have RK2 : ∀ W, Kept0 w W → Calls Try.prog 63 #[av, .agg #[.int .i64 kb.op, .int .i64 kb.x, .int .i64 kb.y, .slice b1 kb.kids.length b2]] W fun e w' => e = .returned (.string (ofB (shF l [61] kb.er))) ∧ Kept0 W w' := fun W K => by
        have := rsh kb W base av l vs (h.kept0 K) q3 (fun u hu => layC_kept0 K (q4 u hu)) hwb hin2 (by omega)
        rw [hkv2] at this
        exact this
      have := rsh_two w av op x y ka.op ka.x ka.y kb.op kb.x kb.y h2 kb1 ko sc a1 ka.kids.length a2 b1 kb.kids.length b2 aa l.length ac hav _ _ hla c0 c1 c2 c3 c4 c5 c6 c7 RK1 RK2
      refine this.mono ?_
      rintro e w' ⟨he, K⟩
      refine ⟨?_, K⟩
      rw [he, ofB_app, ofB_app, ofB_app, ofB_app]
      simp
termination_by t => SizeOf.sizeOf t
decreasing_by
  all_goals simp_wf
  all_goals first | (subst_vars; simp; omega) | simp
  all_goals omega

end Go.Proofs.Ytinphcnknionmaa

namespace Go.Proofs.Ytinphcnknionmaa
open Go.RowKit

theorem ret_b {p q : Bool} (h : p = q) : Ending.returned (.bool p) = Ending.returned (.bool q) := by rw [h]

/-- Has a Form as many Kids as told? -/
def whN (op : Int) (n : Nat) : Bool := if op = 0 then n == 0 else if op = 1 then n == 1 else if op = 2 ∨ op = 3 ∨ op = 4 then n == 2 else false

theorem LayC.kept {w w' : World} (hB : Below w.heap.size w w') {t : Lf} (h : LayC w t) : LayC w' t := by
  induction h with
  | mk c0 c1 c2 c3 hk _ ih =>
    have kc : ∀ p v, w.cell? p = some v → w'.cell? p = some v := fun p v hp => (hB.cell (World.block_lt_of_cell? w p hp)).trans hp
    exact .mk (kc _ _ c0) (kc _ _ c1) (kc _ _ c2) (kc _ _ c3) hk ih

/-- Classes in memory. -/
def ClsAt (w : World) (ca : Option Addr) (cls : List Int) : Prop :=
  cls = [] ∨ ∃ g off, ca = some ⟨g, off, none⟩ ∧ ∀ (j : Nat) (c : Int), cls[j]? = some c → w.cell? ⟨g, off + j, none⟩ = some (.int .i64 c)
theorem ClsAt.below {w w' : World} {ca : Option Addr} {cls : List Int} (hB : Below w.heap.size w w') (h : ClsAt w ca cls) : ClsAt w' ca cls := by
  rcases h with e | ⟨g, off, h1, h2⟩
  · exact Or.inl e
  · exact Or.inr ⟨g, off, h1, fun j c hj => (hB.cell (World.block_lt_of_cell? w _ (h2 j c hj))).trans (h2 j c hj)⟩

end Go.Proofs.Ytinphcnknionmaa

namespace Go.Proofs.Ytinphcnknionmaa
open Go.RowKit

theorem kid_cells {w : World} {kids : List Lf} (hks : ∀ k ∈ kids, LayC w k) {kb ko : Nat} (hadr : ∀ (j : Nat) (t : Lf), kids[j]? = some t → t.b = kb ∧ t.o = ko + j * 4) (j : Nat) (k : Lf) (hj : kids[j]? = some k) (w2 : World) (hB : Below w.heap.size w w2) :
    w2.cell? ⟨kb, ko + j * 4, none⟩ = some (.int .i64 k.op) ∧ w2.cell? ⟨kb, ko + j * 4 + 1, none⟩ = some (.int .i64 k.x) ∧ w2.cell? ⟨kb, ko + j * 4 + 2, none⟩ = some (.int .i64 k.y) ∧ ∃ sa sn sc, k.kv = .slice sa sn sc ∧ w2.cell? ⟨kb, ko + j * 4 + 3, none⟩ = some (.slice sa sn sc) := by
  have hm := List.mem_of_getElem? hj
  have hl := (hks k hm).kept hB
  obtain ⟨a1, a2⟩ := hadr j k hj
  cases hl with
  | mk d0 d1 d2 d3 dk dh =>
    simp only [Lf.b, Lf.o] at a1 a2
    subst a1 a2
    obtain ⟨sa, sc, rfl, _⟩ := dk
    exact ⟨d0, d1, d2, sa, _, sc, rfl, d3⟩

end Go.Proofs.Ytinphcnknionmaa

namespace Go.Proofs.Ytinphcnknionmaa
open Go.RowKit

/-- No Form of it has too many Kids. -/
inductive Szd : Lf → Prop where
  | mk {b o : Nat} {op x y : Int} {kv : Value} {kids : List Lf} (hn : kids.length ≤ 140737488355328) (h : ∀ k ∈ kids, Szd k) : Szd (.mk b o op x y kv kids)

/-- Same says true of two Forms that are the same. -/
def SmT (t : Lf) : Prop := ∀ (u : Lf) (w : World), t.er = u.er → Szd t → KidsIn t.kv t.kids → (∀ k ∈ t.kids, LayC w k) → KidsIn u.kv u.kids → (∀ k ∈ u.kids, LayC w k) →
  Calls Try.prog 60 #[.agg #[.int .i64 t.op, .int .i64 t.x, .int .i64 t.y, t.kv], .agg #[.int .i64 u.op, .int .i64 u.x, .int .i64 u.y, u.kv]] w fun e w' => e = .returned (.bool true) ∧ Below w.heap.size w w'

set_option maxRecDepth 100000 in
set_option maxHeartbeats 2000000 in
theorem smt_step (t : Lf) (ih : ∀ k ∈ t.kids, SmT k) : SmT t := by
  intro u w he hsz hk hks hk2 hks2
  obtain ⟨b, o, op, x, y, kv, kids⟩ := t
  obtain ⟨b2, o2, op2, x2, y2, kv2, kids2⟩ := u
  simp only [Lf.op, Lf.x, Lf.y, Lf.kv, Lf.kids, Lf.er, Fo.mk.injEq] at ih hk hks hk2 hks2 he ⊢
  obtain ⟨rfl, rfl, rfl, hm⟩ := he
  obtain ⟨hnb, hsz2⟩ : kids.length ≤ 140737488355328 ∧ ∀ k ∈ kids, Szd k := by cases hsz with | mk h1 h2 => exact ⟨h1, h2⟩
  obtain ⟨a, cap, rfl, hcap, hkk⟩ := hk
  obtain ⟨a2, cap2, rfl, hcap2, hkk2⟩ := hk2
  have hl : kids.length = kids2.length := by have := congrArg List.length hm; simpa using this
  rw [← hl] at hcap2 ⊢
  generalize hn : kids.length = n at *
  -- at each place: the cells of both Kids, and what Same says of them
  have KD : Hid (∀ (i : Nat), i < n → ∃ k u kb ko kb2 ko2 sa sn sc sa2 sn2 sc2, a = some ⟨kb, ko, none⟩ ∧ a2 = some ⟨kb2, ko2, none⟩ ∧ ∀ W, Below w.heap.size w W → W.cell? ⟨kb, ko + i * 4, none⟩ = some (.int .i64 (Lf.op k)) ∧ W.cell? ⟨kb, ko + i * 4 + 1, none⟩ = some (.int .i64 (Lf.x k)) ∧ W.cell? ⟨kb, ko + i * 4 + 2, none⟩ = some (.int .i64 (Lf.y k)) ∧ W.cell? ⟨kb, ko + i * 4 + 3, none⟩ = some (.slice sa sn sc) ∧
      W.cell? ⟨kb2, ko2 + i * 4, none⟩ = some (.int .i64 (Lf.op u)) ∧ W.cell? ⟨kb2, ko2 + i * 4 + 1, none⟩ = some (.int .i64 (Lf.x u)) ∧ W.cell? ⟨kb2, ko2 + i * 4 + 2, none⟩ = some (.int .i64 (Lf.y u)) ∧ W.cell? ⟨kb2, ko2 + i * 4 + 3, none⟩ = some (.slice sa2 sn2 sc2) ∧
      Calls Try.prog 60 #[.agg #[.int .i64 (Lf.op k), .int .i64 (Lf.x k), .int .i64 (Lf.y k), .slice sa sn sc], .agg #[.int .i64 (Lf.op u), .int .i64 (Lf.x u), .int .i64 (Lf.y u), .slice sa2 sn2 sc2]] W fun e w' => e = .returned (.bool true) ∧ Below W.heap.size W w') := by
    intro i hi
    have g1 : kids[i]? = some kids[i] := List.getElem?_eq_getElem (by omega)
    have g2 : kids2[i]? = some kids2[i] := List.getElem?_eq_getElem (by omega)
    obtain ⟨kb, ko, rfl, ha⟩ : ∃ kb ko, a = some ⟨kb, ko, none⟩ ∧ ∀ (j : Nat) (t : Lf), kids[j]? = some t → t.b = kb ∧ t.o = ko + j * 4 := by
      rcases hkk with e | h
      · exact absurd (hn ▸ congrArg List.length e) (by simp; omega)
      · exact h
    obtain ⟨kb2, ko2, rfl, ha2⟩ : ∃ kb ko, a2 = some ⟨kb, ko, none⟩ ∧ ∀ (j : Nat) (t : Lf), kids2[j]? = some t → t.b = kb ∧ t.o = ko + j * 4 := by
      rcases hkk2 with e | h
      · exact absurd (hl ▸ congrArg List.length e) (by simp; omega)
      · exact h
    have m1 := List.mem_of_getElem? g1
    have m2 := List.mem_of_getElem? g2
    have hee : kids[i].er = kids2[i].er := by
      have := congrArg (·[i]?) hm
      simpa [g1, g2] using this
    generalize kids[i] = k at *
    generalize kids2[i] = u at *
    have d1 := ha i k g1
    have d2 := ha2 i u g2
    obtain ⟨kb0, ko0, kop, kx, ky, kkv, kks⟩ := k
    obtain ⟨ub0, uo0, uop, ux, uy, ukv, uks⟩ := u
    simp only [Lf.b, Lf.o] at d1 d2
    obtain ⟨rfl, rfl⟩ := d1
    obtain ⟨rfl, rfl⟩ := d2
    have hi1 := ih _ m1
    have hz1 := hsz2 _ m1
    obtain ⟨sa, sc, rfl, s1⟩ : KidsIn kkv kks := by cases hks _ m1 with | mk _ _ _ _ h _ => exact h
    obtain ⟨sa2, sc2, rfl, s2⟩ : KidsIn ukv uks := by cases hks2 _ m2 with | mk _ _ _ _ h _ => exact h
    refine ⟨.mk kb0 (ko + i * 4) kop kx ky (.slice sa kks.length sc) kks, .mk ub0 (ko2 + i * 4) uop ux uy (.slice sa2 uks.length sc2) uks, _, _, _, _, sa, kks.length, sc, sa2, uks.length, sc2, rfl, rfl, fun W hB => ?_⟩
    cases (hks _ m1).kept hB with
    | mk q0 q1 q2 q3 q4 q5 =>
      cases (hks2 _ m2).kept hB with
      | mk r0 r1 r2 r3 r4 r5 => exact ⟨q0, q1, q2, q3, r0, r1, r2, r3, hi1 _ W hee hz1 q4 q5 r4 r5⟩
  clear hkk hkk2 hks hks2 ih hm hl hcap hcap2 hsz hsz2
  clear hn
  go_enter Try.func60, Try.ntmps60
  go_wp2_with fail
  go_loopw [5] (fun t5 W => ∃ k : Nat, k ≤ n ∧ t5 = .int .i64 (k : Int) ∧ Below w.heap.size w W ∧ W.cell? ⟨w.heap.size, 3, none⟩ = some (.slice a n cap) ∧ W.cell? ⟨w.heap.size + 1, 3, none⟩ = some (.slice a2 n cap2)) (fun t5 _ => n - (intOf t5).toNat)
  case atStart =>
    refine ⟨0, by omega, rfl, ((Below.refl _ w).alloc (Nat.le_refl _) _).alloc (by simp) _, ?_, ?_⟩ <;> simp [go_sem]
  case round =>
    obtain ⟨k, hk, rfl, B, y1, y2⟩ := hrel
    have z1 := World.block_lt_of_cell? _ _ y1
    have z2 := World.block_lt_of_cell? _ _ y2
    by_cases hk2 : k < n
    · have dk : decide ((k : Int) < (n : Int)) = true := decide_eq_true (by omega)
      obtain ⟨t, u, kb, ko, kb2, ko2, sa, sn, sc, sa2, sn2, sc2, rfl, rfl, hh⟩ := KD.out k hk2
      have BD : Below w.heap.size w wr.drew := B.drew
      obtain ⟨q0, q1, q2, q3, r0, r1, r2, r3, SM⟩ := hh wr.drew BD
      have FIN : Hid (∀ w3, Below wr.drew.heap.size wr.drew w3 → Below w.heap.size w w3 ∧ w3.cell? ⟨w.heap.size, 3, none⟩ = some (.slice (some ⟨kb, ko, none⟩) n cap) ∧ w3.cell? ⟨w.heap.size + 1, 3, none⟩ = some (.slice (some ⟨kb2, ko2, none⟩) n cap2)) := fun w3 B3 => ⟨BD.trans (B3.mono BD.size), (B3.cell (p := ⟨w.heap.size, 3, none⟩) z1).trans y1, (B3.cell (p := ⟨w.heap.size + 1, 3, none⟩) z2).trans y2⟩
      have wrp : IntKind.i64.wrap ((k : Int) + 1) = (k : Int) + 1 := by rw [IntKind.wrap_i64]; omega
      clear hh KD
      generalize t.op = top at *
      generalize t.x = tx at *
      generalize t.y = ty at *
      generalize u.op = uop at *
      generalize u.x = ux at *
      generalize u.y = uy at *
      go_wp2_with fail
      go_region_with (go_at_call 60; refine SM.mono ?_; rintro e w3 ⟨rfl, B3⟩)
      all_goals
        simp only [Act.put, List.getElem_toArray, List.getElem_cons_succ, List.getElem_cons_zero, List.setIfInBounds_toArray, List.set_cons_succ, List.set_cons_zero]
        obtain ⟨f1, f2, f3⟩ := FIN.out w3 B3
        go_wp2_with fail
        exact ⟨⟨k + 1, hk2, by simp, f1, f2, f3⟩, by simp [intOf]; omega⟩
    · have dk : decide ((k : Int) < (n : Int)) = false := decide_eq_false (by omega)
      clear KD
      go_wp2_with fail
      go_ret
      exact ⟨rfl, B⟩

/-- Same says true of Forms that are the same. -/
theorem smt : ∀ t : Lf, SmT t
  | .mk b o op x y kv kids => smt_step _ fun k hk => by
    have : k ∈ kids := hk
    have := List.sizeOf_lt_of_mem this
    exact smt k
termination_by t => SizeOf.sizeOf t
decreasing_by simp; omega

end Go.Proofs.Ytinphcnknionmaa
