/- The document's Show, whole. The document's Eval. The document's Eval, whole. The statements' Same: of a Form that is the document's. law05: what the constant text says, plainly. -/
import Derived.Test.YtinphcnknionmaaP39
import Derived.Test.YtinphcnknionmaaP19
import Derived.WalkKit
import Derived.WalkSpells
import Derived.WalkLawsBesides
import Derived.Deep.OwnRows
import Derived.Deep.LoopGhost
import Derived.Deep.QuietTactic
import Derived.BigRegion
import Derived.BigQuiet
import Derived.Deep.RegionWith
import Derived.Below
import Derived.Deep.CutRange
import Derived.Laws.Bits64
import Derived.Test.YtinphcnknionmaaLoL
import Derived.Test.YtinphcnknionmaaP12
namespace Go.Proofs.Ytinphcnknionmaa
open Go.RowKit Go.Maps

theorem wf_cases (t : Lf) (h : WfF t.er) : (t.op = 0 ∧ t.kids = []) ∨ (t.op = 1 ∧ ∃ k, t.kids = [k] ∧ WfF k.er) ∨ ((t.op = 2 ∨ t.op = 3 ∨ t.op = 4) ∧ ∃ a b, t.kids = [a, b] ∧ WfF a.er ∧ WfF b.er) := by
  generalize hf : t.er = f at h
  cases h with
  | eq x y =>
    obtain ⟨h1, _, _, h4⟩ := Lf.er_kids hf
    exact Or.inl ⟨h1, List.map_eq_nil_iff.1 h4⟩
  | neg g hg =>
    obtain ⟨h1, _, _, h4⟩ := Lf.er_kids hf
    obtain ⟨k, hk, hke⟩ := map_one h4
    exact Or.inr (Or.inl ⟨h1, k, hk, hke ▸ hg⟩)
  | two o g k ho hg hk =>
    obtain ⟨h1, _, _, h4⟩ := Lf.er_kids hf
    obtain ⟨a, b, hab, ha, hb⟩ := map_two h4
    exact Or.inr (Or.inr ⟨h1 ▸ ho, a, b, hab, ha ▸ hg, hb ▸ hk⟩)

theorem shF_eq (l : List Tm) (g : List UInt8) (x y : Int) (ks : List Fo) : shF l g (.mk 0 x y ks) = (shwB l x).data.toList ++ g ++ (shwB l y).data.toList := by
  unfold shF
  rfl
theorem shF_neg (l : List Tm) (x y : Int) (k : Fo) : shF l [61] (.mk 1 x y [k]) = if k.op = 0 then shF l [33, 61] k else 33 :: shF l [61] k := by
  rw [shF]
  simp
theorem shF_two (l : List Tm) (o x y : Int) (ho : o = 2 ∨ o = 3 ∨ o = 4) (a b : Fo) : shF l [61] (.mk o x y [a, b]) = 40 :: (shF l [61] a ++ opS o ++ shF l [61] b ++ [41]) := by
  rcases ho with rfl | rfl | rfl <;> simp [shF]

theorem rsh : ∀ t : Lf, RSh t
  | .mk b o op x y kv kids => by
    intro w base av l vs h hk hks hw hin hl
    obtain ⟨aa, ac, hav⟩ := h.form
    rcases wf_cases _ hw with ⟨h0, hn⟩ | ⟨h1, k, hkk, hwk⟩ | ⟨h2, ka, kb, hkk, hwa, hwb⟩
    · simp only [Lf.op, Lf.kids, Lf.x, Lf.y, Lf.kv] at h0 hn hk ⊢
      subst h0 hn
      obtain ⟨sa, sc, rfl, _⟩ := hk
      rw [Lf.er] at hin hl ⊢
      rw [shF_eq] at hl ⊢
      have hp := hin (x, y) (by simp [eqF])
      have := rsh_eq w base av l vs h x y hp.1 hp.2 sa 0 sc hl
      refine this.mono ?_
      rintro e w' ⟨he, K⟩
      refine ⟨?_, K⟩
      rw [he, ← ofB_app, ← ofB_app, ofB_data, ofB_data]
    · simp only [Lf.op, Lf.kids, Lf.x, Lf.y, Lf.kv] at h1 hkk hk hks ⊢
      subst h1 hkk
      obtain ⟨sa, sc, rfl, _, hkk⟩ := hk
      obtain ⟨kb, ko, ka, kc, hsa, hkv, q1, q2, c0, c1, c2, c3⟩ := kidC_at hkk hks (j := 0) (k := k) rfl
      subst hsa
      simp only [Nat.zero_mul, Nat.add_zero] at c0 c1 c2 c3
      rw [show [k].length = 1 from rfl] at hin hl ⊢
      have he : (Lf.mk b o 1 x y (.slice (some ⟨kb, ko, none⟩) 1 sc) [k]).er = .mk 1 x y [k.er] := by rw [Lf.er]; rfl
      rw [he] at hin
      have hl' : (shF l [61] (.mk 1 x y [k.er])).length ≤ 1000000000000000 := by rw [← he]; exact hl
      show Calls Try.prog 63 _ w fun e w' => e = .returned (.string (ofB (shF l [61] (Lf.mk b o 1 x y (.slice (some ⟨kb, ko, none⟩) 1 sc) [k]).er))) ∧ Kept0 w w'
      rw [he, shF_neg]
      rw [shF_neg] at hl'
      have hin' : InF l k.er := fun p hp => hin p (by simp [eqF]; exact hp)
      by_cases hz : k.er.op = 0
      · rw [if_pos hz] at hl' ⊢
        have hz' : k.op = 0 := by rw [← Lf.er_op]; exact hz
        rw [hz'] at c0
        have hke : k.er = .mk 0 k.x k.y (k.kids.map Lf.er) := by
          obtain ⟨b1, o1, op1, x1, y1, kv1, ks1⟩ := k
          simp only [Lf.op] at hz'
          subst hz'
          rw [Lf.er]
          rfl
        rw [hke, shF_eq] at hl' ⊢
        have hp := hin' (k.x, k.y) (by rw [hke]; simp [eqF])
        have := rsh_neq w base av l vs h x y k.x k.y hp.1 hp.2 kb ko sc _ ka k.kids.length kc rfl c0 c1 c2 c3 hl'
        refine this.mono ?_
        rintro e w' ⟨he, K⟩
        refine ⟨?_, K⟩
        rw [he, ← ofB_app, ← ofB_app, ofB_data, ofB_data]
      · rw [if_neg hz] at hl' ⊢
        have hz' : ¬ k.op = 0 := by rw [← Lf.er_op]; exact hz
        have hlk : (shF l [61] k.er).length ≤ 1000000000000000 := by simp at hl'; omega
        have RK : ∀ W, Kept0 w W → Calls Try.prog 63 #[av, .agg #[.int .i64 k.op, .int .i64 k.x, .int .i64 k.y, .slice ka k.kids.length kc]] W fun e w' => e = .returned (.string (ofB (shF l [61] k.er))) ∧ Kept0 W w' := fun W K => by
          have := rsh k W base av l vs (h.kept0 K) q1 (fun u hu => layC_kept0 K (q2 u hu)) hwk hin' hlk
          rw [hkv] at this
          exact this
        have := rsh_not w av x y k.op k.x k.y hz' kb ko sc ka k.kids.length kc aa l.length ac hav _ hlk c0 c1 c2 c3 RK
        refine this.mono ?_
        rintro e w' ⟨he, K⟩
        refine ⟨?_, K⟩
        rw [he, ofB_app]
        rfl
    · simp only [Lf.op, Lf.kids, Lf.x, Lf.y, Lf.kv] at h2 hkk hk hks ⊢
      subst hkk
      obtain ⟨sa, sc, rfl, _, hkk⟩ := hk
      obtain ⟨kb1, ko, a1, a2, hsa, hkv1, q1, q2, c0, c1, c2, c3⟩ := kidC_at hkk hks (j := 0) (k := ka) rfl
      obtain ⟨kb2, ko2, b1, b2, hsa2, hkv2, q3, q4, c4, c5, c6, c7⟩ := kidC_at hkk hks (j := 1) (k := kb) rfl
      subst hsa
      simp at hsa2
      obtain ⟨rfl, rfl⟩ := hsa2
      simp only [Nat.zero_mul, Nat.add_zero, Nat.one_mul] at c0 c1 c2 c3 c4 c5 c6 c7
      rw [show [ka, kb].length = 2 from rfl] at hin hl ⊢
      have ho' : ¬ op = 0 := by rcases h2 with rfl | rfl | rfl <;> decide
      have he : (Lf.mk b o op x y (.slice (some ⟨kb1, ko, none⟩) 2 sc) [ka, kb]).er = .mk op x y [ka.er, kb.er] := by rw [Lf.er]; rfl
      rw [he] at hin
      have hl' : (shF l [61] (.mk op x y [ka.er, kb.er])).length ≤ 1000000000000000 := by rw [← he]; exact hl
      show Calls Try.prog 63 _ w fun e w' => e = .returned (.string (ofB (shF l [61] (Lf.mk b o op x y (.slice (some ⟨kb1, ko, none⟩) 2 sc) [ka, kb]).er))) ∧ Kept0 w w'
      rw [he, shF_two l op x y h2]
      rw [shF_two l op x y h2] at hl'
      have hla : (shF l [61] ka.er).length + (shF l [61] kb.er).length ≤ 1000000000000000 := by simp at hl'; omega
      have hin1 : InF l ka.er := fun p hp => hin p (by simp [eqF, ho']; exact Or.inl hp)
      have hin2 : InF l kb.er := fun p hp => hin p (by simp [eqF, ho']; exact Or.inr hp)
      have RK1 : ∀ W, Kept0 w W → Calls Try.prog 63 #[av, .agg #[.int .i64 ka.op, .int .i64 ka.x, .int .i64 ka.y, .slice a1 ka.kids.length a2]] W fun e w' => e = .returned (.string (ofB (shF l [61] ka.er))) ∧ Kept0 W w' := fun W K => by
        have := rsh ka W base av l vs (h.kept0 K) q1 (fun u hu => layC_kept0 K (q2 u hu)) hwa hin1 (by omega)
        rw [hkv1] at this
        exact this
      have RK2 : ∀ W, Kept0 w W → Calls Try.prog 63 #[av, .agg #[.int .i64 kb.op, .int .i64 kb.x, .int .i64 kb.y, .slice b1 kb.kids.length b2]] W fun e w' => e = .returned (.string (ofB (shF l [61] kb.er))) ∧ Kept0 W w' := fun W K => by
        have := rsh kb W base av l vs (h.kept0 K) q3 (fun u hu => layC_kept0 K (q4 u hu)) hwb hin2 (by omega)
        rw [hkv2] at this
        exact this
      have := rsh_two w av op x y ka.op ka.x ka.y kb.op kb.x kb.y h2 kb1 ko sc a1 ka.kids.length a2 b1 kb.kids.length b2 aa l.length ac hav _ _ hla c0 c1 c2 c3 c4 c5 c6 c7 RK1 RK2
      refine this.mono ?_
      rintro e w' ⟨he, K⟩
      refine ⟨?_, K⟩
      rw [he, ofB_app, ofB_app, ofB_app, ofB_app]
      simp
termination_by t => SizeOf.sizeOf t
decreasing_by
  all_goals simp_wf
  all_goals first | (subst_vars; simp; omega) | simp
  all_goals omega

end Go.Proofs.Ytinphcnknionmaa

namespace Go.Proofs.Ytinphcnknionmaa
open Go.RowKit

theorem ret_b {p q : Bool} (h : p = q) : Ending.returned (.bool p) = Ending.returned (.bool q) := by rw [h]

/-- Has a Form as many Kids as told? -/
def whN (op : Int) (n : Nat) : Bool := if op = 0 then n == 0 else if op = 1 then n == 1 else if op = 2 ∨ op = 3 ∨ op = 4 then n == 2 else false

theorem LayC.kept {w w' : World} (hB : Below w.heap.size w w') {t : Lf} (h : LayC w t) : LayC w' t := by
  induction h with
  | mk c0 c1 c2 c3 hk _ ih =>
    have kc : ∀ p v, w.cell? p = some v → w'.cell? p = some v := fun p v hp => (hB.cell (World.block_lt_of_cell? w p hp)).trans hp
    exact .mk (kc _ _ c0) (kc _ _ c1) (kc _ _ c2) (kc _ _ c3) hk ih

/-- Classes in memory. -/
def ClsAt (w : World) (ca : Option Addr) (cls : List Int) : Prop :=
  cls = [] ∨ ∃ g off, ca = some ⟨g, off, none⟩ ∧ ∀ (j : Nat) (c : Int), cls[j]? = some c → w.cell? ⟨g, off + j, none⟩ = some (.int .i64 c)
theorem ClsAt.below {w w' : World} {ca : Option Addr} {cls : List Int} (hB : Below w.heap.size w w') (h : ClsAt w ca cls) : ClsAt w' ca cls := by
  rcases h with e | ⟨g, off, h1, h2⟩
  · exact Or.inl e
  · exact Or.inr ⟨g, off, h1, fun j c hj => (hB.cell (World.block_lt_of_cell? w _ (h2 j c hj))).trans (h2 j c hj)⟩

end Go.Proofs.Ytinphcnknionmaa

namespace Go.Proofs.Ytinphcnknionmaa
open Go.RowKit

theorem kid_cells {w : World} {kids : List Lf} (hks : ∀ k ∈ kids, LayC w k) {kb ko : Nat} (hadr : ∀ (j : Nat) (t : Lf), kids[j]? = some t → t.b = kb ∧ t.o = ko + j * 4) (j : Nat) (k : Lf) (hj : kids[j]? = some k) (w2 : World) (hB : Below w.heap.size w w2) :
    w2.cell? ⟨kb, ko + j * 4, none⟩ = some (.int .i64 k.op) ∧ w2.cell? ⟨kb, ko + j * 4 + 1, none⟩ = some (.int .i64 k.x) ∧ w2.cell? ⟨kb, ko + j * 4 + 2, none⟩ = some (.int .i64 k.y) ∧ ∃ sa sn sc, k.kv = .slice sa sn sc ∧ w2.cell? ⟨kb, ko + j * 4 + 3, none⟩ = some (.slice sa sn sc) := by
  have hm := List.mem_of_getElem? hj
  have hl := (hks k hm).kept hB
  obtain ⟨a1, a2⟩ := hadr j k hj
  cases hl with
  | mk d0 d1 d2 d3 dk dh =>
    simp only [Lf.b, Lf.o] at a1 a2
    subst a1 a2
    obtain ⟨sa, sc, rfl, _⟩ := dk
    exact ⟨d0, d1, d2, sa, _, sc, rfl, d3⟩

end Go.Proofs.Ytinphcnknionmaa

namespace Go.Proofs.Ytinphcnknionmaa
open Go.RowKit

/-- No Form of it has too many Kids. -/
inductive Szd : Lf → Prop where
  | mk {b o : Nat} {op x y : Int} {kv : Value} {kids : List Lf} (hn : kids.length ≤ 140737488355328) (h : ∀ k ∈ kids, Szd k) : Szd (.mk b o op x y kv kids)

/-- Same says true of two Forms that are the same. -/
def SmT (t : Lf) : Prop := ∀ (u : Lf) (w : World), t.er = u.er → Szd t → KidsIn t.kv t.kids → (∀ k ∈ t.kids, LayC w k) → KidsIn u.kv u.kids → (∀ k ∈ u.kids, LayC w k) →
  Calls Try.prog 60 #[.agg #[.int .i64 t.op, .int .i64 t.x, .int .i64 t.y, t.kv], .agg #[.int .i64 u.op, .int .i64 u.x, .int .i64 u.y, u.kv]] w fun e w' => e = .returned (.bool true) ∧ Below w.heap.size w w'

set_option maxRecDepth 100000 in
set_option maxHeartbeats 2000000 in
theorem smt_step (t : Lf) (ih : ∀ k ∈ t.kids, SmT k) : SmT t := by
  intro u w he hsz hk hks hk2 hks2
  obtain ⟨b, o, op, x, y, kv, kids⟩ := t
  obtain ⟨b2, o2, op2, x2, y2, kv2, kids2⟩ := u
  simp only [Lf.op, Lf.x, Lf.y, Lf.kv, Lf.kids, Lf.er, Fo.mk.injEq] at ih hk hks hk2 hks2 he ⊢
  obtain ⟨rfl, rfl, rfl, hm⟩ := he
  obtain ⟨hnb, hsz2⟩ : kids.length ≤ 140737488355328 ∧ ∀ k ∈ kids, Szd k := by cases hsz with | mk h1 h2 => exact ⟨h1, h2⟩
  obtain ⟨a, cap, rfl, hcap, hkk⟩ := hk
  obtain ⟨a2, cap2, rfl, hcap2, hkk2⟩ := hk2
  have hl : kids.length = kids2.length := by have := congrArg List.length hm; simpa using this
  rw [← hl] at hcap2 ⊢
  generalize hn : kids.length = n at *
  -- at each place: the cells of both Kids, and what Same says of them
  have KD : Hid (∀ (i : Nat), i < n → ∃ k u kb ko kb2 ko2 sa sn sc sa2 sn2 sc2, a = some ⟨kb, ko, none⟩ ∧ a2 = some ⟨kb2, ko2, none⟩ ∧ ∀ W, Below w.heap.size w W → W.cell? ⟨kb, ko + i * 4, none⟩ = some (.int .i64 (Lf.op k)) ∧ W.cell? ⟨kb, ko + i * 4 + 1, none⟩ = some (.int .i64 (Lf.x k)) ∧ W.cell? ⟨kb, ko + i * 4 + 2, none⟩ = some (.int .i64 (Lf.y k)) ∧ W.cell? ⟨kb, ko + i * 4 + 3, none⟩ = some (.slice sa sn sc) ∧
      W.cell? ⟨kb2, ko2 + i * 4, none⟩ = some (.int .i64 (Lf.op u)) ∧ W.cell? ⟨kb2, ko2 + i * 4 + 1, none⟩ = some (.int .i64 (Lf.x u)) ∧ W.cell? ⟨kb2, ko2 + i * 4 + 2, none⟩ = some (.int .i64 (Lf.y u)) ∧ W.cell? ⟨kb2, ko2 + i * 4 + 3, none⟩ = some (.slice sa2 sn2 sc2) ∧
      Calls Try.prog 60 #[.agg #[.int .i64 (Lf.op k), .int .i64 (Lf.x k), .int .i64 (Lf.y k), .slice sa sn sc], .agg #[.int .i64 (Lf.op u), .int .i64 (Lf.x u), .int .i64 (Lf.y u), .slice sa2 sn2 sc2]] W fun e w' => e = .returned (.bool true) ∧ Below W.heap.size W w') := by
    intro i hi
    have g1 : kids[i]? = some kids[i] := List.getElem?_eq_getElem (by omega)
    have g2 : kids2[i]? = some kids2[i] := List.getElem?_eq_getElem (by omega)
    obtain ⟨kb, ko, rfl, ha⟩ : ∃ kb ko, a = some ⟨kb, ko, none⟩ ∧ ∀ (j : Nat) (t : Lf), kids[j]? = some t → t.b = kb ∧ t.o = ko + j * 4 := by
      rcases hkk with e | h
      · exact absurd (hn ▸ congrArg List.length e) (by simp; omega)
      · exact h
    obtain ⟨kb2, ko2, rfl, ha2⟩ : ∃ kb ko, a2 = some ⟨kb, ko, none⟩ ∧ ∀ (j : Nat) (t : Lf), kids2[j]? = some t → t.b = kb ∧ t.o = ko + j * 4 := by
      rcases hkk2 with e | h
      · exact absurd (hl ▸ congrArg List.length e) (by simp; omega)
      · exact h
    have m1 := List.mem_of_getElem? g1
    have m2 := List.mem_of_getElem? g2
    have hee : kids[i].er = kids2[i].er := by
      have := congrArg (·[i]?) hm
      simpa [g1, g2] using this
    generalize kids[i] = k at *
    generalize kids2[i] = u at *
    have d1 := ha i k g1
    have d2 := ha2 i u g2
    obtain ⟨kb0, ko0, kop, kx, ky, kkv, kks⟩ := k
    obtain ⟨ub0, uo0, uop, ux, uy, ukv, uks⟩ := u
    simp only [Lf.b, Lf.o] at d1 d2
    obtain ⟨rfl, rfl⟩ := d1
    obtain ⟨rfl, rfl⟩ := d2
    have hi1 := ih _ m1
    have hz1 := hsz2 _ m1
    obtain ⟨sa, sc, rfl, s1⟩ : KidsIn kkv kks := by cases hks _ m1 with | mk _ _ _ _ h _ => exact h
    obtain ⟨sa2, sc2, rfl, s2⟩ : KidsIn ukv uks := by cases hks2 _ m2 with | mk _ _ _ _ h _ => exact h
    refine ⟨.mk kb0 (ko + i * 4) kop kx ky (.slice sa kks.length sc) kks, .mk ub0 (ko2 + i * 4) uop ux uy (.slice sa2 uks.length sc2) uks, _, _, _, _, sa, kks.length, sc, sa2, uks.length, sc2, rfl, rfl, fun W hB => ?_⟩
    cases (hks _ m1).kept hB with
    | mk q0 q1 q2 q3 q4 q5 =>
      cases (hks2 _ m2).kept hB with
      | mk r0 r1 r2 r3 r4 r5 => exact ⟨q0, q1, q2, q3, r0, r1, r2, r3, hi1 _ W hee hz1 q4 q5 r4 r5⟩
  clear hkk hkk2 hks hks2 ih hm hl hcap hcap2 hsz hsz2
  clear hn
  go_enter Try.func60, Try.ntmps60
  go_wp2_with fail
  go_loopw [5] (fun t5 W => ∃ k : Nat, k ≤ n ∧ t5 = .int .i64 (k : Int) ∧ Below w.heap.size w W ∧ W.cell? ⟨w.heap.size, 3, none⟩ = some (.slice a n cap) ∧ W.cell? ⟨w.heap.size + 1, 3, none⟩ = some (.slice a2 n cap2)) (fun t5 _ => n - (intOf t5).toNat)
  case atStart =>
    refine ⟨0, by omega, rfl, ((Below.refl _ w).alloc (Nat.le_refl _) _).alloc (by simp) _, ?_, ?_⟩ <;> simp [go_sem]
  case round =>
    obtain ⟨k, hk, rfl, B, y1, y2⟩ := hrel
    have z1 := World.block_lt_of_cell? _ _ y1
    have z2 := World.block_lt_of_cell? _ _ y2
    by_cases hk2 : k < n
    · have dk : decide ((k : Int) < (n : Int)) = true := decide_eq_true (by omega)
      obtain ⟨t, u, kb, ko, kb2, ko2, sa, sn, sc, sa2, sn2, sc2, rfl, rfl, hh⟩ := KD.out k hk2
      have BD : Below w.heap.size w wr.drew := B.drew
      obtain ⟨q0, q1, q2, q3, r0, r1, r2, r3, SM⟩ := hh wr.drew BD
      have FIN : Hid (∀ w3, Below wr.drew.heap.size wr.drew w3 → Below w.heap.size w w3 ∧ w3.cell? ⟨w.heap.size, 3, none⟩ = some (.slice (some ⟨kb, ko, none⟩) n cap) ∧ w3.cell? ⟨w.heap.size + 1, 3, none⟩ = some (.slice (some ⟨kb2, ko2, none⟩) n cap2)) := fun w3 B3 => ⟨BD.trans (B3.mono BD.size), (B3.cell (p := ⟨w.heap.size, 3, none⟩) z1).trans y1, (B3.cell (p := ⟨w.heap.size + 1, 3, none⟩) z2).trans y2⟩
      have wrp : IntKind.i64.wrap ((k : Int) + 1) = (k : Int) + 1 := by rw [IntKind.wrap_i64]; omega
      clear hh KD
      generalize t.op = top at *
      generalize t.x = tx at *
      generalize t.y = ty at *
      generalize u.op = uop at *
      generalize u.x = ux at *
      generalize u.y = uy at *
      go_wp2_with fail
      go_region_with (go_at_call 60; refine SM.mono ?_; rintro e w3 ⟨rfl, B3⟩)
      all_goals
        simp only [Act.put, List.getElem_toArray, List.getElem_cons_succ, List.getElem_cons_zero, List.setIfInBounds_toArray, List.set_cons_succ, List.set_cons_zero]
        obtain ⟨f1, f2, f3⟩ := FIN.out w3 B3
        go_wp2_with fail
        exact ⟨⟨k + 1, hk2, by simp, f1, f2, f3⟩, by simp [intOf]; omega⟩
    · have dk : decide ((k : Int) < (n : Int)) = false := decide_eq_false (by omega)
      clear KD
      go_wp2_with fail
      go_ret
      exact ⟨rfl, B⟩

/-- Same says true of Forms that are the same. -/
theorem smt : ∀ t : Lf, SmT t
  | .mk b o op x y kv kids => smt_step _ fun k hk => by
    have : k ∈ kids := hk
    have := List.sizeOf_lt_of_mem this
    exact smt k
termination_by t => SizeOf.sizeOf t
decreasing_by simp; omega

end Go.Proofs.Ytinphcnknionmaa

namespace Go.Proofs.Ytinphcnknionmaa
open Go.RowKit

/-- a=b & !(a = c) -> b != c -/
def tx24 : ByteArray := ⟨#[97, 61, 98, 32, 38, 32, 33, 40, 97, 32, 61, 32, 99, 41, 32, 45, 62, 32, 98, 32, 33, 61, 32, 99]⟩
def aA : Tm := ⟨⟨#[97]⟩, []⟩
def aB : Tm := ⟨⟨#[98]⟩, []⟩
def aC : Tm := ⟨⟨#[99]⟩, []⟩
def f24 : Fo := .two 4 (.two 2 (.eq 0 1) (.neg (.eq 0 2))) (.neg (.eq 1 2))

theorem q1 : pRead ⟨#[97]⟩ [] = (0, 0, 0, [aA]) := by
  have n : nmE ⟨#[97]⟩ 0 = 1 := by rw [nmE_at (by decide) (by decide), nmE_end (by decide)]
  have b : badNm ⟨#[97]⟩ 0 = false := by simp only [badNm, n]; decide
  rw [pRead, if_neg (by decide), pWhole, bl_end (by decide), show 2 * (ByteArray.mk #[97]).size + 1 = 2 + 1 from rfl, pTerm, b, n, bl_end (by decide)]
  simp only [Bool.false_eq_true, if_false, show ¬ 12 < 0 from by omega, show stands ⟨#[97]⟩ 1 40 = false from by decide]
  rfl
theorem q2 : pRead ⟨#[98]⟩ [aA] = (1, 0, 0, [aA, aB]) := by
  have n : nmE ⟨#[98]⟩ 0 = 1 := by rw [nmE_at (by decide) (by decide), nmE_end (by decide)]
  have b : badNm ⟨#[98]⟩ 0 = false := by simp only [badNm, n]; decide
  rw [pRead, if_neg (by decide), pWhole, bl_end (by decide), show 2 * (ByteArray.mk #[98]).size + 1 = 2 + 1 from rfl, pTerm, b, n, bl_end (by decide)]
  simp only [Bool.false_eq_true, if_false, show ¬ 12 < 0 from by omega, show stands ⟨#[98]⟩ 1 40 = false from by decide]
  rfl
theorem q3 : pRead ⟨#[97]⟩ [aA, aB] = (0, 0, 0, [aA, aB]) := by
  have n : nmE ⟨#[97]⟩ 0 = 1 := by rw [nmE_at (by decide) (by decide), nmE_end (by decide)]
  have b : badNm ⟨#[97]⟩ 0 = false := by simp only [badNm, n]; decide
  rw [pRead, if_neg (by decide), pWhole, bl_end (by decide), show 2 * (ByteArray.mk #[97]).size + 1 = 2 + 1 from rfl, pTerm, b, n, bl_end (by decide)]
  simp only [Bool.false_eq_true, if_false, show ¬ 12 < 0 from by omega, show stands ⟨#[97]⟩ 1 40 = false from by decide]
  rfl
theorem q4 : pRead ⟨#[99]⟩ [aA, aB] = (2, 0, 0, [aA, aB, aC]) := by
  have n : nmE ⟨#[99]⟩ 0 = 1 := by rw [nmE_at (by decide) (by decide), nmE_end (by decide)]
  have b : badNm ⟨#[99]⟩ 0 = false := by simp only [badNm, n]; decide
  rw [pRead, if_neg (by decide), pWhole, bl_end (by decide), show 2 * (ByteArray.mk #[99]).size + 1 = 2 + 1 from rfl, pTerm, b, n, bl_end (by decide)]
  simp only [Bool.false_eq_true, if_false, show ¬ 12 < 0 from by omega, show stands ⟨#[99]⟩ 1 40 = false from by decide]
  rfl
theorem q5 : pRead ⟨#[98]⟩ [aA, aB, aC] = (1, 0, 0, [aA, aB, aC]) := by
  have n : nmE ⟨#[98]⟩ 0 = 1 := by rw [nmE_at (by decide) (by decide), nmE_end (by decide)]
  have b : badNm ⟨#[98]⟩ 0 = false := by simp only [badNm, n]; decide
  rw [pRead, if_neg (by decide), pWhole, bl_end (by decide), show 2 * (ByteArray.mk #[98]).size + 1 = 2 + 1 from rfl, pTerm, b, n, bl_end (by decide)]
  simp only [Bool.false_eq_true, if_false, show ¬ 12 < 0 from by omega, show stands ⟨#[98]⟩ 1 40 = false from by decide]
  rfl
theorem q6 : pRead ⟨#[99]⟩ [aA, aB, aC] = (2, 0, 0, [aA, aB, aC]) := by
  have n : nmE ⟨#[99]⟩ 0 = 1 := by rw [nmE_at (by decide) (by decide), nmE_end (by decide)]
  have b : badNm ⟨#[99]⟩ 0 = false := by simp only [badNm, n]; decide
  rw [pRead, if_neg (by decide), pWhole, bl_end (by decide), show 2 * (ByteArray.mk #[99]).size + 1 = 2 + 1 from rfl, pTerm, b, n, bl_end (by decide)]
  simp only [Bool.false_eq_true, if_false, show ¬ 12 < 0 from by omega, show stands ⟨#[99]⟩ 1 40 = false from by decide]
  rfl

theorem lt_at {s : ByteArray} {i e k n : Nat} {x : ByteArray} {l l' : List Tm} (hn : nmE s i = e) (hb : bl s e = k) (hk : ¬ byt s k = 40) (hx : s.extract i e = x) (hr : pRead x l = (n, 0, 0, l')) : lTerm s i l = .ok n k l' := by
  have ht : tEnd s i = e := by unfold tEnd; rw [hn, hb, if_neg hk]
  unfold lTerm
  rw [ht, hx, hr, hb]
  rfl

theorem u0 : lTerm tx24 0 [] = .ok 0 1 [aA] := lt_at (by rw [nmE_at (by decide) (by decide), nmE_end (by decide)]) (bl_end (by decide)) (by decide) (by rfl) q1
theorem u2 : lTerm tx24 2 [aA] = .ok 1 4 [aA, aB] := lt_at (by rw [nmE_at (by decide) (by decide), nmE_end (by decide)]) (by rw [bl_at (by decide) (by decide), bl_end (by decide)]) (by decide) (by rfl) q2
theorem u8 : lTerm tx24 8 [aA, aB] = .ok 0 10 [aA, aB] := lt_at (by rw [nmE_at (by decide) (by decide), nmE_end (by decide)]) (by rw [bl_at (by decide) (by decide), bl_end (by decide)]) (by decide) (by rfl) q3
theorem u12 : lTerm tx24 12 [aA, aB] = .ok 2 13 [aA, aB, aC] := lt_at (by rw [nmE_at (by decide) (by decide), nmE_end (by decide)]) (bl_end (by decide)) (by decide) (by rfl) q4
theorem u18 : lTerm tx24 18 [aA, aB, aC] = .ok 1 20 [aA, aB, aC] := lt_at (by rw [nmE_at (by decide) (by decide), nmE_end (by decide)]) (by rw [bl_at (by decide) (by decide), bl_end (by decide)]) (by decide) (by rfl) q5
theorem u23 : lTerm tx24 23 [aA, aB, aC] = .ok 2 24 [aA, aB, aC] := lt_at (by rw [nmE_at (by decide) (by decide), nmE_end (by decide)]) (bl_end (by decide)) (by decide) (by rfl) q6

theorem e0 : gEqu tx24 0 [] = .ok (.eq 0 1) 4 [aA, aB] := by
  rw [gEqu, u0]
  simp only [Res.bind, show byt tx24 1 = 61 from by decide, show stands tx24 1 61 = true from by decide, show ¬ 61 = 33 from by decide, if_false, if_true, show bl tx24 (1 + 1) = 2 from bl_end (by decide), u2]
  rfl
theorem e8 : gEqu tx24 8 [aA, aB] = .ok (.eq 0 2) 13 [aA, aB, aC] := by
  rw [gEqu, u8]
  simp only [Res.bind, show byt tx24 10 = 61 from by decide, show stands tx24 10 61 = true from by decide, show ¬ 61 = 33 from by decide, if_false, if_true, show bl tx24 (10 + 1) = 12 from by rw [bl_at (by decide) (by decide), bl_end (by decide)], u12]
  rfl
theorem e18 : gEqu tx24 18 [aA, aB, aC] = .ok (.neg (.eq 1 2)) 24 [aA, aB, aC] := by
  rw [gEqu, u18]
  simp only [Res.bind, show byt tx24 20 = 33 from by decide, show stands tx24 (20 + 1) 61 = true from by decide, if_true, show bl tx24 (20 + 1 + 1) = 23 from by rw [bl_at (by decide) (by decide), bl_end (by decide)], u23]
  rfl

/-- An equality where no sign follows, at the levels. -/
theorem up3 {s : ByteArray} {f d i k : Nat} {l l' : List Tm} {a : Fo} (h1 : ¬ byt s i = 33) (h2 : ¬ byt s i = 40) (h : gEqu s i l = .ok a k l') : gp s (f + 1) 3 d i l = .ok a k l' := by
  rw [gp, if_neg (by decide), if_pos rfl, if_neg h1, if_neg h2, h]
theorem up2 {s : ByteArray} {f d i k : Nat} {l l' : List Tm} {a : Fo} (h : gp s (f + 1) 3 d i l = .ok a k l') (hk : ¬ byt s k = 38) : gp s (f + 2) 2 d i l = .ok a k l' := by
  rw [gp, if_neg (by decide), if_neg (by decide), h]
  simp only [Res.bind]
  rw [gl, if_neg (by simpa [sgn] using hk)]
theorem up1 {s : ByteArray} {f d i k : Nat} {l l' : List Tm} {a : Fo} (h : gp s (f + 1) 2 d i l = .ok a k l') (hk : ¬ byt s k = 124) : gp s (f + 2) 1 d i l = .ok a k l' := by
  rw [gp, if_neg (by decide), if_neg (by decide), h]
  simp only [Res.bind]
  rw [gl, if_neg (by simpa [sgn] using hk)]
theorem up0 {s : ByteArray} {f d i k : Nat} {l l' : List Tm} {a : Fo} (h : gp s f 1 d i l = .ok a k l') (hk : ¬ byt s k = 45) : gp s (f + 1) 0 d i l = .ok a k l' := by
  rw [gp, if_pos rfl, h]
  simp only [Res.bind]
  rw [if_neg hk]

theorem in8 (f d : Nat) : gp tx24 (f + 4) 0 d 8 [aA, aB] = .ok (.eq 0 2) 13 [aA, aB, aC] := up0 (up1 (f := f + 1) (up2 (f := f) (up3 (by decide) (by decide) e8) (by decide)) (by decide)) (by decide)
theorem in18 (f d : Nat) : gp tx24 (f + 4) 0 d 18 [aA, aB, aC] = .ok (.neg (.eq 1 2)) 24 [aA, aB, aC] := up0 (up1 (f := f + 1) (up2 (f := f) (up3 (by decide) (by decide) e18) (by decide)) (by decide)) (by decide)
theorem in7 (f d : Nat) (hd : ¬ 20 ≤ d) : gp tx24 (f + 5) 3 d 7 [aA, aB] = .ok (.eq 0 2) 15 [aA, aB, aC] := by
  rw [gp, if_neg (by decide), if_pos rfl, if_neg (by decide), if_pos (by decide), if_neg hd, show bl tx24 (7 + 1) = 8 from bl_end (by decide), in8]
  simp only [Res.bind, show stands tx24 13 41 = true from by decide, if_true, show bl tx24 (13 + 1) = 15 from by rw [bl_at (by decide) (by decide), bl_end (by decide)]]
theorem in6 (f d : Nat) (hd : ¬ 19 ≤ d) : gp tx24 (f + 6) 3 d 6 [aA, aB] = .ok (.neg (.eq 0 2)) 15 [aA, aB, aC] := by
  rw [gp, if_neg (by decide), if_pos rfl, if_pos (by decide), if_neg (by omega), show bl tx24 (6 + 1) = 7 from bl_end (by decide), in7 f (d + 1) (by omega)]
  rfl
theorem in2 (f : Nat) : gp tx24 (f + 8) 2 0 0 [] = .ok (.two 2 (.eq 0 1) (.neg (.eq 0 2))) 15 [aA, aB, aC] := by
  rw [gp, if_neg (by decide), if_neg (by decide), up3 (f := f + 6) (by decide) (by decide) e0]
  simp only [Res.bind]
  rw [gl, if_pos (by decide), show bl tx24 (4 + 1) = 6 from by rw [bl_at (by decide) (by decide), bl_end (by decide)], in6 f 0 (by omega)]
  simp only [Res.bind]
  rw [gl, if_neg (by decide)]
  rfl
theorem in0 (f : Nat) : gp tx24 (f + 10) 0 0 0 [] = .ok f24 24 [aA, aB, aC] := by
  rw [gp, if_pos rfl, up1 (f := f + 7) (in2 f) (by decide)]
  simp only [Res.bind]
  rw [if_pos (by decide), if_pos (by decide), show bl tx24 (15 + 1 + 1) = 18 from by rw [bl_at (by decide) (by decide), bl_end (by decide)], in18 (f + 5) 0]
  rfl
theorem tx24_parse : gParse tx24 [] = (f24, 0, 0, [aA, aB, aC]) := by
  rw [gParse, if_neg (by decide), gWhole, show bl tx24 0 = 0 from bl_end (by decide), show 6 * tx24.size + 5 = 139 + 10 from rfl, in0 139]
  rfl

end Go.Proofs.Ytinphcnknionmaa
