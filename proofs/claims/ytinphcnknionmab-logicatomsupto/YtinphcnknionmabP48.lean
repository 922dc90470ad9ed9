/- LogicAtoms: its walk. LogicAtoms: its walk. -/
import Derived.Test.YtinphcnknionmabP46
import Derived.Test.YtinphcnknionmabRaB
namespace Go.Proofs.Ytinphcnknionmab
open Go.RowKit Go.Maps

/-- What is known of the Forms. -/
structure LfAt (w W : World) (op x y : Int) (kv : Value) (xb : Nat) (op2 x2 y2 : Int) (kv2 : Value) (f : Fo) : Prop where
  below : Below w.heap.size w W
  fb : FB W w.heap.size op x y kv
  ib : FB W xb op2 x2 y2 kv2
  is : FIs W (.agg #[.int .i64 op2, .int .i64 x2, .int .i64 y2, kv2]) f
theorem LfAt.keep {w W W' : World} {op x y : Int} {kv : Value} {xb : Nat} {op2 x2 y2 : Int} {kv2 : Value} {f : Fo} (h : LfAt w W op x y kv xb op2 x2 y2 kv2 f) (hB : Below W.heap.size W W') : LfAt w W' op x y kv xb op2 x2 y2 kv2 f :=
  ⟨h.below.trans (hB.mono h.below.size), h.fb.keep hB, h.ib.keep hB, h.is.keep hB⟩

/-- The document's answer. -/
def WantIs (W : World) (v : Value) (m : List (Int × Int)) : Prop := m = [] ∨ ∃ g cap, v = .slice (some ⟨g, 0, none⟩) m.length cap ∧ m.length ≤ cap ∧ ∀ j p, m[j]? = some p → W.cell? ⟨g, j * 2, none⟩ = some (.int .i64 p.1) ∧ W.cell? ⟨g, j * 2 + 1, none⟩ = some (.int .i64 p.2)
theorem WantIs.keep {W W' : World} {v : Value} {m : List (Int × Int)} (h : WantIs W v m) (hB : Below W.heap.size W W') : WantIs W' v m := by
  rcases h with e | ⟨g, cap, h1, h2, h3⟩
  · exact Or.inl e
  · refine Or.inr ⟨g, cap, h1, h2, fun j p hj => ?_⟩
    obtain ⟨q1, q2⟩ := h3 j p hj
    have hb := World.block_lt_of_cell? W _ q1
    exact ⟨(hB.cell hb).trans q1, (hB.cell (p := ⟨g, j * 2 + 1, none⟩) hb).trans q2⟩
theorem want_of {W : World} {base : Nat} {ty : TypeId} {v : Value} {m : List (Int × Int)} (h : W.ownsRow base ty 2 v m.length (pairC m)) : WantIs W v m := by
  by_cases hm : m = []
  · exact Or.inl hm
  · cases m with
    | nil => exact absurd rfl hm
    | cons p0 r =>
      obtain ⟨g, cap, e, _, hc, _⟩ := row_cells h (i := 0) (p := p0) rfl
      refine Or.inr ⟨g, cap, e, hc, fun j p hj => ?_⟩
      obtain ⟨g', cap', e', _, _, q1, q2⟩ := row_cells h hj
      rw [e] at e'
      simp at e'
      obtain ⟨rfl, rfl⟩ := e'
      exact ⟨q1, q2⟩

/-- The program's answer, of whose first k the number A is written over. -/
def MarkIs (W : World) (lo hi : Nat) (v : Value) (m : List (Int × Int)) (k : Nat) : Prop := m = [] ∨ ∃ g cap N F, v = .slice (some ⟨g, 0, none⟩) m.length cap ∧ m.length ≤ cap ∧ lo ≤ g ∧ g < hi ∧ W.rowIs g 28 N F ∧ ∀ j p, m[j]? = some p → j * 2 + 1 < N ∧ F (j * 2 + 1) = .int .i64 p.2 ∧ (k ≤ j → F (j * 2) = .int .i64 p.1)
theorem mark_of {W : World} {base : Nat} {v : Value} {m : List (Int × Int)} (h : W.ownsRow base 28 2 v m.length (pairC m)) : MarkIs W base W.heap.size v m 0 := by
  by_cases hm : m = []
  · exact Or.inl hm
  · rcases h.2 with ⟨e, h0⟩ | ⟨g, cap, cur, e, e1, e2, e3, e4, e5, e6⟩
    · exact absurd (List.length_eq_zero_iff.1 h0) hm
    · have get : ∀ j u, (pairC m)[j]? = some u → cur[j]? = some u := fun j u hu => by
        rw [← e6, List.getElem?_take] at hu
        split at hu
        · simpa using hu
        · cases hu
      refine Or.inr ⟨g, cap, cur.size, fun i => cur[i]?.getD undef, e, e3, e1, (Array.getElem?_eq_some_iff.1 e2).1, ⟨cur, e2, rfl, fun i hi => by simp [hi]⟩, fun j p hj => ?_⟩
      obtain ⟨h1, h2⟩ := pairC_at m j
      rw [hj] at h1 h2
      have g1 := get _ _ h1
      have g2 := get _ _ h2
      exact ⟨(Array.getElem?_eq_some_iff.1 g2).1, by simp [g2], fun _ => by simp [g1]⟩

/-- All of it. -/
structure LaAt (w W : World) (op x y : Int) (kv : Value) (xb : Nat) (op2 x2 y2 : Int) (kv2 : Value) (f : Fo) (lo hi : Nat) (va vw : Value) (m : List (Int × Int)) (k : Nat) : Prop where
  lf : LfAt w W op x y kv xb op2 x2 y2 kv2 f
  mark : MarkIs W lo hi va m k
  want : ∀ W', (∀ b, hi ≤ b → W'.heap[b]? = W.heap[b]?) → WantIs W' vw m
  lo1 : w.heap.size < lo
  lo2 : xb < lo
theorem LaAt.drewN {w W : World} {op x y : Int} {kv : Value} {xb : Nat} {op2 x2 y2 : Int} {kv2 : Value} {f : Fo} {lo hi : Nat} {va vw : Value} {m : List (Int × Int)} {k : Nat} (h : LaAt w W op x y kv xb op2 x2 y2 kv2 f lo hi va vw m k) (n : Nat) : LaAt w (W.drewN n) op x y kv xb op2 x2 y2 kv2 f lo hi va vw m k :=
  ⟨h.lf.keep ⟨rfl, rfl, rfl, Nat.le_refl _, fun _ _ => rfl⟩, h.mark, h.want, h.lo1, h.lo2⟩

/-- One number more is written over. -/
theorem LaAt.put {w W : World} {op x y : Int} {kv : Value} {xb : Nat} {op2 x2 y2 : Int} {kv2 : Value} {f : Fo} {lo hi : Nat} {vw : Value} {m : List (Int × Int)} {k g cap N : Nat} {F : Nat → Value} (h : LaAt w W op x y kv xb op2 x2 y2 kv2 f lo hi (.slice (some ⟨g, 0, none⟩) m.length cap) vw m k) (hg1 : lo ≤ g) (hg2 : g < hi) (hc : m.length ≤ cap) (hr : W.rowIs g 28 N F) (hF : ∀ j p, m[j]? = some p → j * 2 + 1 < N ∧ F (j * 2 + 1) = .int .i64 p.2 ∧ (k ≤ j → F (j * 2) = .int .i64 p.1)) (u : Value) :
    LaAt w (W.setCell ⟨g, k * 2, none⟩ u) op x y kv xb op2 x2 y2 kv2 f lo hi (.slice (some ⟨g, 0, none⟩) m.length cap) vw m (k + 1) := by
  have nm : ∀ b, b ≠ g → (W.setCell ⟨g, k * 2, none⟩ u).heap[b]? = W.heap[b]? := fun b hb => Below.heap_setCell W ⟨g, k * 2, none⟩ u b hb
  have fbk : ∀ {b : Nat} {o1 o2 o3 : Int} {kk : Value}, b ≠ g → FB W b o1 o2 o3 kk → FB (W.setCell ⟨g, k * 2, none⟩ u) b o1 o2 o3 kk := fun {b o1 o2 o3 kk} hb hh => ⟨(World.cell?_of_block (nm b hb)).trans hh.1, (World.cell?_of_block (nm b hb)).trans hh.2.1, (World.cell?_of_block (nm b hb)).trans hh.2.2.1, (World.cell?_of_block (nm b hb)).trans hh.2.2.2⟩
  have h1 := h.lo1
  have h2 := h.lo2
  refine ⟨⟨h.lf.below.setCell (p := ⟨g, k * 2, none⟩) (by show w.heap.size ≤ g; omega) _, fbk (by omega) h.lf.fb, fbk (by omega) h.lf.ib, ?_⟩, Or.inr ⟨g, cap, N, fun i => if i = k * 2 then u else F i, rfl, hc, hg1, hg2, World.rowIs.congr (hr.set (k * 2) u) (fun j hj => rfl), fun j p hj => ?_⟩, fun W' hW' => h.want W' (fun b hb => (hW' b hb).trans (nm b (by omega))), h.lo1, h.lo2⟩
  · refine FValA.keep (fun b c fz _ hb => (nm b ?_).trans hb) h.lf.is
    rintro rfl
    obtain ⟨c', hc', _⟩ := hr
    rw [hc'] at hb
    simp at hb
  · obtain ⟨a1, a2, a3⟩ := hF j p hj
    refine ⟨a1, by simp only [if_neg (show ¬ j * 2 + 1 = k * 2 by omega)]; exact a2, fun hk => by simp only [if_neg (show ¬ j * 2 = k * 2 by omega)]; exact a3 (by omega)⟩

end Go.Proofs.Ytinphcnknionmab

namespace Go.Proofs.Ytinphcnknionmab
open Go.RowKit Go.Maps

theorem flat_le (kids : List Fo) (h : ∀ k ∈ kids, (eqF k).length ≤ szF k) : ((kids.map eqF).flatten).length ≤ (kids.map szF).sum := by
  induction kids with
  | nil => simp
  | cons k r ih =>
    simp only [List.map_cons, List.flatten_cons, List.length_append, List.sum_cons]
    have h1 := h k (by simp)
    have h2 := ih (fun k hk => h k (by simp [hk]))
    omega
theorem len_eqF (f : Fo) : (eqF f).length ≤ szF f := by
  obtain ⟨op, x, y, kids⟩ := f
  rw [eqF, szF]
  split
  · simp
  · have := flat_le kids (fun k hk => len_eqF k)
    omega
termination_by f
decreasing_by
  have := List.sizeOf_lt_of_mem hk
  simp
  omega
theorem MarkIs.keep {W W' : World} {lo hi : Nat} {v : Value} {m : List (Int × Int)} {k : Nat} (h : MarkIs W lo hi v m k) (hB : Below W.heap.size W W') : MarkIs W' lo hi v m k := by
  rcases h with e | ⟨g, cap, N, F, h1, h2, h3, h4, h5, h6⟩
  · exact Or.inl e
  · exact Or.inr ⟨g, cap, N, F, h1, h2, h3, h4, h5.of_block (hB.block g h5.lt), h6⟩

set_option maxRecDepth 100000 in
set_option maxHeartbeats 4000000 in
theorem latoms_in (w : World) (op x y : Int) (kv : Value) (kids : List Lf) (hk : KidsIn kv kids) (hks : ∀ k ∈ kids, LayC w k) (hsm : Sml (.mk 0 0 op x y kv kids)) (hR : RF (.mk op x y (kids.map Lf.er))) (hsz : szF (.mk op x y (kids.map Lf.er)) ≤ 1048576) :
    Calls Try.prog 4 #[.agg #[.int .i64 op, .int .i64 x, .int .i64 y, kv]] w fun e w' => e = .returned (.bool true) ∧ Below w.heap.size w w' := by
  have he : (Lf.mk 0 0 op x y kv kids).er = .mk op x y (kids.map Lf.er) := by rw [Lf.er]
  have B1 := Below.new w (.cells #[.int .i64 op, .int .i64 x, .int .i64 y, kv] 26)
  have LK : ∀ W, Below w.heap.size w W → ∀ k ∈ kids, LayC W k := fun W hB k hkk => (hks k hkk).kept hB
  have GV := gvt (.mk 0 0 op x y kv kids) _ hsm hk (LK _ B1)
  have SM : ∀ (W : World) (v : Value), Below w.heap.size w W → FIs W v (.mk op x y (kids.map Lf.er)) → Calls Try.prog 8 #[v, .agg #[.int .i64 op, .int .i64 x, .int .i64 y, kv]] W fun e w' => e = .returned (.bool true) ∧ Below W.heap.size W w' := fun W v hB hv => same5_in W v _ hv (.mk 0 0 op x y kv kids) he hsm.szd hk (LK W hB)
  have RT : ∀ (W : World), Below w.heap.size w W → Calls Try.prog 12 #[.agg #[.int .i64 op, .int .i64 x, .int .i64 y, kv], .slice none 0 0] W fun e w' => ∃ v', e = .returned v' ∧ w'.ownsRow W.heap.size 23 2 v' (ats (eqF (.mk op x y (kids.map Lf.er)))).length (pairC (ats (eqF (.mk op x y (kids.map Lf.er))))) ∧ Below W.heap.size W w' := fun W hB => by
    have h := rat (.mk 0 0 op x y kv kids) W W W.heap.size (.slice none 0 0) [] hsm (Nat.le_refl _) (Below.refl _ _) hk (LK W hB) (World.ownsRow_nil _ _ _ _) (by rw [he]; have := len_eqF (.mk op x y (kids.map Lf.er)); simp; omega) (Nat.le_refl _)
    rw [he, atsG_nil] at h
    refine h.mono ?_
    rintro e w' ⟨v', h1, h2, h3, _⟩
    exact ⟨v', h1, h2, ⟨h3.os, h3.tape, h3.output, h3.size, fun k hk => h3.block k hk (by simp [Value.ownBlock])⟩⟩
  have AT : ∀ (W : World) (v : Value), FIs W v (.mk op x y (kids.map Lf.er)) → Calls Try.prog 11 #[v] W fun e w' => ∃ u, e = .returned u ∧ w'.ownsRow W.heap.size 28 2 u (ats (eqF (.mk op x y (kids.map Lf.er)))).length (pairC (ats (eqF (.mk op x y (kids.map Lf.er))))) ∧ Below W.heap.size W w' := fun W v hv => atomsF_in W v _ hv (by omega) hR
  have hml : (ats (eqF (.mk op x y (kids.map Lf.er)))).length ≤ 1048576 := by
    have h1 := ats_len (eqF (.mk op x y (kids.map Lf.er)))
    have h2 := len_eqF (.mk op x y (kids.map Lf.er))
    omega
  simp only [Lf.op, Lf.x, Lf.y, Lf.kv] at GV
  rw [he] at GV
  have Y1 := FB.new' w op x y kv
  obtain ⟨ka, kc, rfl, _⟩ := hk
  clear he hks LK hsm hR hsz
  generalize ats (eqF (.mk op x y (kids.map Lf.er))) = m at *
  generalize Fo.mk op x y (kids.map Lf.er) = f at *
  generalize kids.length = kn at *
  obtain ⟨y0, y1, y2, y3⟩ := Y1
  go_enter Try.func4, Try.ntmps4
  go_wp2_with (first | (go_at_call 6; refine GV.mono ?_; rintro e w2 ⟨v, rfl, FV, B2⟩; obtain ⟨op2, x2, y2', ka2, kn2, kc2, rfl⟩ := FV.form))
  have B3 := Below.new w2 (.cells #[.int .i64 op2, .int .i64 x2, .int .i64 y2', .slice ka2 kn2 kc2] 31)
  have Y3 := FB.new w2 op2 x2 y2' (.slice ka2 kn2 kc2)
  have Z3 := (FB.keep (And.intro y0 (And.intro y1 (And.intro y2 y3))) B2).keep B3
  have FV3 := FV.is.keep B3
  have BW3 : Below w.heap.size w (w2.alloc (.cells #[.int .i64 op2, .int .i64 x2, .int .i64 y2', .slice ka2 kn2 kc2] 31)) := (B1.trans (B2.mono B1.size)).trans (B3.mono (Nat.le_trans B1.size B2.size))
  have hx3 : w2.heap.size < (w2.alloc (.cells #[.int .i64 op2, .int .i64 x2, .int .i64 y2', .slice ka2 kn2 kc2] 31)).heap.size := by simp
  have hw3 : w.heap.size < (w2.alloc (.cells #[.int .i64 op2, .int .i64 x2, .int .i64 y2', .slice ka2 kn2 kc2] 31)).heap.size := by have h1 := B1.size; have h2 := B2.size; simp at h1 h2 ⊢; omega
  generalize w2.alloc (.cells #[.int .i64 op2, .int .i64 x2, .int .i64 y2', .slice ka2 kn2 kc2] 31) = w3 at B3 Y3 Z3 FV3 BW3 hx3 hw3 ⊢
  generalize w2.heap.size = xb at *
  have L3 : LfAt w w3 op x y (.slice ka kn kc) xb op2 x2 y2' (.slice ka2 kn2 kc2) f := ⟨BW3, Z3, Y3, FV3⟩
  have AT3 := AT w3 _ L3.is
  obtain ⟨c0, c1, c2, c3⟩ := L3.ib
  have HS : Hid (_ ∧ _ ∧ _ ∧ _) := And.intro SM (And.intro RT (And.intro AT L3))
  clear AT L3 SM RT GV B1 B2 FV y0 y1 y2 y3 B3 Y3 Z3 FV3 BW3
  go_wp2_with (first | (go_at_call 11; refine AT3.mono ?_; rintro e w4 ⟨va, rfl, R4, B4⟩; obtain ⟨aa, ac, hva⟩ := row_form R4; subst hva; have L4 := HS.out.2.2.2.keep B4; obtain ⟨e0, e1, e2, e3⟩ := L4.fb; have RT4 := HS.out.2.1 w4 L4.below) | (go_at_call 12; refine RT4.mono ?_; rintro e w5 ⟨vw, rfl, R5, B5⟩; obtain ⟨ba, bc, hvw⟩ := row_form R5; subst hvw))
  have L5 : LaAt w w5 op x y (.slice ka kn kc) xb op2 x2 y2' (.slice ka2 kn2 kc2) f w3.heap.size w4.heap.size (.slice aa m.length ac) (.slice ba m.length bc) m 0 :=
    ⟨L4.keep B5, (mark_of R4).keep B5, fun W' hW' => want_of (row_blockG R5 (fun b hb => hW' b (ownsRow_at R5 hb).1)), hw3, hx3⟩
  have hlo : w3.heap.size ≤ w4.heap.size := B4.size
  have hhi : w4.heap.size ≤ w5.heap.size := B5.size
  clear R4 R5 B4 B5 L4 RT4 AT3 c0 c1 c2 c3 e0 e1 e2 e3
  generalize w3.heap.size = lo at *
  generalize w4.heap.size = hi at *
  go_loopw [6] (fun t6 W => ∃ k : Nat, k ≤ m.length ∧ t6 = .int .i64 (k : Int) ∧ Hid (LaAt w W op x y (.slice ka kn kc) xb op2 x2 y2' (.slice ka2 kn2 kc2) f lo hi (.slice aa m.length ac) (.slice ba m.length bc) m k ∧ hi ≤ W.heap.size)) (fun t6 _ => m.length - (intOf t6).toNat)
  case atStart => exact ⟨0, by omega, rfl, L5, hhi⟩
  case round =>
    obtain ⟨k, hk, rfl, HL⟩ := hrel
    by_cases hk2 : k < m.length
    · have dk : decide ((k : Int) < (m.length : Int)) = true := decide_eq_true (by omega)
      obtain ⟨LW, hW⟩ := HL.out
      have hpk : m[k]? = some m[k] := List.getElem?_eq_getElem hk2
      have hne : m ≠ [] := by intro e; rw [e] at hk2; simp at hk2
      obtain ⟨g, gc, N, F, hv, hc, hg1, hg2, hr, hF⟩ := LW.mark.resolve_left hne
      simp only [Value.slice.injEq, true_and] at hv
      obtain ⟨rfl, rfl⟩ := hv
      obtain ⟨g2, gc2, hv2, hc2, hq⟩ := (LW.want wr (fun _ _ => rfl)).resolve_left hne
      simp only [Value.slice.injEq, true_and] at hv2
      obtain ⟨rfl, rfl⟩ := hv2
      obtain ⟨z1, z2⟩ := hq k _ hpk
      obtain ⟨n1, n2, n3⟩ := hF k _ hpk
      have x1 := hr.cell (i := k * 2) (by omega)
      have x2' := hr.cell (i := k * 2 + 1) n1
      rw [n3 (Nat.le_refl _)] at x1
      rw [n2] at x2'
      have fz := hr.frozen (k * 2)
      have wrp : IntKind.i64.wrap ((k : Int) + 1) = (k : Int) + 1 := by rw [IntKind.wrap_i64]; omega
      have LD : Hid (∀ n u, LaAt w ((wr.drewN n).setCell ⟨g, k * 2, none⟩ u) op x y (.slice ka kn kc) xb op2 x2 y2' (.slice ka2 kn2 kc2) f lo hi (.slice (some ⟨g, 0, none⟩) m.length ac) (.slice (some ⟨g2, 0, none⟩) m.length bc) m (k + 1) ∧ hi ≤ ((wr.drewN n).setCell ⟨g, k * 2, none⟩ u).heap.size) := fun n u => ⟨(LW.drewN n).put hg1 hg2 hc hr hF u, by simp [World.setCell]; exact hW⟩
      generalize m[k] = pk at *
      clear LW HL hF hq hr n3 n2 hpk hne HS L5
      have xd : ∀ n, (wr.drewN n).cell? ⟨g, k * 2, none⟩ = some (.int .i64 pk.1) := fun n => x1
      have fd : ∀ n, (wr.drewN n).frozen? ⟨g, k * 2, none⟩ = false := fun n => fz
      go_wp2_with fail
      go_quiet (fail)
      go_wp2_with fail
      exact ⟨⟨k + 1, hk2, by simp, LD.out _ _⟩, by simp [intOf]; omega⟩
    · have dk : decide ((k : Int) < (m.length : Int)) = false := decide_eq_false (by omega)
      obtain ⟨LW, hW⟩ := HL.out
      have AT6 := HS.out.2.2.1 wr _ LW.lf.is
      obtain ⟨c0, c1, c2, c3⟩ := LW.lf.ib
      clear HL L5
      have HW : Hid (_) := LW
      clear LW
      go_wp2_with (first | (go_at_call 11; refine AT6.mono ?_; rintro e w7 ⟨v7, rfl, R7, B7⟩; obtain ⟨ra, rc, hv7⟩ := row_form R7; subst hv7))
      have L7 : LfAt w w7 op x y (.slice ka kn kc) xb op2 x2 y2' (.slice ka2 kn2 kc2) f ∧ WantIs w7 (.slice ra m.length rc) m ∧ WantIs w7 (.slice ba m.length bc) m := ⟨HW.out.lf.keep B7, want_of R7, (HW.out.want wr (fun _ _ => rfl)).keep B7⟩
      clear HW R7 B7 AT6 c0 c1 c2 c3
      go_loopw [8] (fun t8 W => ∃ k : Nat, k ≤ m.length ∧ t8 = .int .i64 (k : Int) ∧ Hid (LfAt w W op x y (.slice ka kn kc) xb op2 x2 y2' (.slice ka2 kn2 kc2) f ∧ WantIs W (.slice ra m.length rc) m ∧ WantIs W (.slice ba m.length bc) m)) (fun t8 _ => m.length - (intOf t8).toNat)
      case atStart => exact ⟨0, by omega, rfl, L7⟩
      case round =>
        obtain ⟨i, hi1, rfl, HL⟩ := hrel
        by_cases hi2 : i < m.length
        · have di : decide ((i : Int) < (m.length : Int)) = true := decide_eq_true (by omega)
          obtain ⟨LW, QA, QW⟩ := HL.out
          have hpk : m[i]? = some m[i] := List.getElem?_eq_getElem hi2
          have hne : m ≠ [] := by intro e; rw [e] at hi2; simp at hi2
          obtain ⟨g, gc, hv, hc, hq1⟩ := QA.resolve_left hne
          simp only [Value.slice.injEq, true_and] at hv
          obtain ⟨rfl, rfl⟩ := hv
          obtain ⟨g2, gc2, hv2, hc2, hq⟩ := QW.resolve_left hne
          simp only [Value.slice.injEq, true_and] at hv2
          obtain ⟨rfl, rfl⟩ := hv2
          obtain ⟨z1, z2⟩ := hq i _ hpk
          obtain ⟨x1, x2''⟩ := hq1 i _ hpk
          have wrp : IntKind.i64.wrap ((i : Int) + 1) = (i : Int) + 1 := by rw [IntKind.wrap_i64]; omega
          have BD : ∀ n, Below wr.heap.size wr (wr.drewN n) := fun n => ⟨rfl, rfl, rfl, Nat.le_refl _, fun _ _ => rfl⟩
          have LD : Hid (∀ n, LfAt w (wr.drewN n) op x y (.slice ka kn kc) xb op2 x2 y2' (.slice ka2 kn2 kc2) f ∧ WantIs (wr.drewN n) (.slice (some ⟨g, 0, none⟩) m.length rc) m ∧ WantIs (wr.drewN n) (.slice (some ⟨g2, 0, none⟩) m.length bc) m) := fun n => ⟨LW.keep (BD n), QA.keep (BD n), QW.keep (BD n)⟩
          generalize m[i] = pk at *
          clear LW HL hq hq1 hpk hne HS QA QW BD L7
          go_wp2_with fail
          go_quiet (fail)
          go_wp2_with fail
          exact ⟨⟨i + 1, hi2, by simp, LD.out _⟩, by simp [intOf]; omega⟩
        · have di : decide ((i : Int) < (m.length : Int)) = false := decide_eq_false (by omega)
          obtain ⟨LW, _, _⟩ := HL.out
          obtain ⟨e0, e1, e2, e3⟩ := LW.fb
          obtain ⟨c0, c1, c2, c3⟩ := LW.ib
          have SM := HS.out.1 wr _ LW.below LW.is
          have Bw := LW.below
          have AL : ∀ W, Calls Try.prog 10 #[] W fun e w' => e = .returned (.bool true) ∧ Below W.heap.size W w' := alive5_any
          clear HS HL LW L7
          go_wp2_with (first | (go_at_call 8; refine SM.mono ?_; rintro e w8 ⟨rfl, B8⟩) | (go_at_call 10; refine (AL _).mono ?_; rintro e w9 ⟨rfl, B9⟩))
          go_ret
          exact ⟨rfl, (Bw.trans (B8.mono Bw.size)).trans (B9.mono (Nat.le_trans Bw.size B8.size))⟩

end Go.Proofs.Ytinphcnknionmab
