/- law04: what its constant texts say; the only choice. law04: alive. law04: WhyCloses' walk. -/
import Derived.Test.YtinphcnknionmaaG54
import Derived.Test.YtinphcnknionmaaG45
import Derived.Deep.RegionWith
namespace Go.Proofs.Ytinphcnknionmaa
open Go.RowKit Go.Maps

def tB : Tm := ⟨⟨#[98]⟩, []⟩
def tC : Tm := ⟨⟨#[99]⟩, []⟩
def tD : Tm := ⟨⟨#[100]⟩, []⟩
theorem rd_a : pRead ⟨#[97]⟩ [] = (0, 0, 0, [tA]) := by
  have n0 : nmE ⟨#[97]⟩ 0 = 1 := by rw [nmE_at (by decide) (by decide), nmE_end (by decide)]
  have w0 : badNm ⟨#[97]⟩ 0 = false := by simp only [badNm, n0]; decide
  have b0 : bl ⟨#[97]⟩ 0 = 0 := bl_end (by decide)
  have b1 : bl ⟨#[97]⟩ 1 = 1 := bl_end (by decide)
  have p0 : pTerm ⟨#[97]⟩ 3 0 0 [] = .ok 0 1 [tA] := by
    rw [pTerm, w0, n0, b1]
    simp only [Bool.false_eq_true, if_false, show ¬ 12 < 0 from by decide, show stands ⟨#[97]⟩ 1 40 = false from by decide]
    rfl
  rw [pRead, if_neg (by decide), pWhole, b0, show 2 * (⟨#[97]⟩ : ByteArray).size + 1 = 3 from rfl, p0]
  rfl
theorem rd_b : pRead ⟨#[98]⟩ [tA] = (1, 0, 0, [tA, tB]) := by
  have n0 : nmE ⟨#[98]⟩ 0 = 1 := by rw [nmE_at (by decide) (by decide), nmE_end (by decide)]
  have w0 : badNm ⟨#[98]⟩ 0 = false := by simp only [badNm, n0]; decide
  have b0 : bl ⟨#[98]⟩ 0 = 0 := bl_end (by decide)
  have b1 : bl ⟨#[98]⟩ 1 = 1 := bl_end (by decide)
  have p0 : pTerm ⟨#[98]⟩ 3 0 0 [tA] = .ok 1 1 [tA, tB] := by
    rw [pTerm, w0, n0, b1]
    simp only [Bool.false_eq_true, if_false, show ¬ 12 < 0 from by decide, show stands ⟨#[98]⟩ 1 40 = false from by decide]
    rfl
  rw [pRead, if_neg (by decide), pWhole, b0, show 2 * (⟨#[98]⟩ : ByteArray).size + 1 = 3 from rfl, p0]
  rfl
theorem rd_c : pRead ⟨#[99]⟩ [tA, tB] = (2, 0, 0, [tA, tB, tC]) := by
  have n0 : nmE ⟨#[99]⟩ 0 = 1 := by rw [nmE_at (by decide) (by decide), nmE_end (by decide)]
  have w0 : badNm ⟨#[99]⟩ 0 = false := by simp only [badNm, n0]; decide
  have b0 : bl ⟨#[99]⟩ 0 = 0 := bl_end (by decide)
  have b1 : bl ⟨#[99]⟩ 1 = 1 := bl_end (by decide)
  have p0 : pTerm ⟨#[99]⟩ 3 0 0 [tA, tB] = .ok 2 1 [tA, tB, tC] := by
    rw [pTerm, w0, n0, b1]
    simp only [Bool.false_eq_true, if_false, show ¬ 12 < 0 from by decide, show stands ⟨#[99]⟩ 1 40 = false from by decide]
    rfl
  rw [pRead, if_neg (by decide), pWhole, b0, show 2 * (⟨#[99]⟩ : ByteArray).size + 1 = 3 from rfl, p0]
  rfl
theorem rd_d : pRead ⟨#[100]⟩ [tA, tB, tC] = (3, 0, 0, [tA, tB, tC, tD]) := by
  have n0 : nmE ⟨#[100]⟩ 0 = 1 := by rw [nmE_at (by decide) (by decide), nmE_end (by decide)]
  have w0 : badNm ⟨#[100]⟩ 0 = false := by simp only [badNm, n0]; decide
  have b0 : bl ⟨#[100]⟩ 0 = 0 := bl_end (by decide)
  have b1 : bl ⟨#[100]⟩ 1 = 1 := bl_end (by decide)
  have p0 : pTerm ⟨#[100]⟩ 3 0 0 [tA, tB, tC] = .ok 3 1 [tA, tB, tC, tD] := by
    rw [pTerm, w0, n0, b1]
    simp only [Bool.false_eq_true, if_false, show ¬ 12 < 0 from by decide, show stands ⟨#[100]⟩ 1 40 = false from by decide]
    rfl
  rw [pRead, if_neg (by decide), pWhole, b0, show 2 * (⟨#[100]⟩ : ByteArray).size + 1 = 3 from rfl, p0]
  rfl

def l4 : List Tm := [tA, tB, tC, tD]
theorem l4_bd : Cc.Bd l4 ∧ Kp l4 := by
  have hK : Kp l4 := by
    have h1 := Kp.nil.read ⟨#[97]⟩
    rw [rd_a] at h1
    have h2 := h1.read ⟨#[98]⟩
    rw [rd_b] at h2
    have h3 := h2.read ⟨#[99]⟩
    rw [rd_c] at h3
    have h4 := h3.read ⟨#[100]⟩
    rw [rd_d] at h4
    exact h4
  refine ⟨⟨fun n t ht a ha => ?_, hK.good.four, hK.good.one, by decide⟩, hK⟩
  have hn : n < 4 := (List.getElem?_eq_some_iff.1 ht).1
  rcases (by omega : n = 0 ∨ n = 1 ∨ n = 2 ∨ n = 3) with rfl | rfl | rfl | rfl <;> simp [l4, tA, tB, tC, tD] at ht <;> subst ht <;> simp at ha

theorem l4_names : ∀ (i j : Nat) (t u : Tm), l4[i]? = some t → l4[j]? = some u → t.name = u.name → i = j := by
  intro i j t u h1 h2 h3
  have hi : i < 4 := (List.getElem?_eq_some_iff.1 h1).1
  have hj : j < 4 := (List.getElem?_eq_some_iff.1 h2).1
  rcases (by omega : i = 0 ∨ i = 1 ∨ i = 2 ∨ i = 3) with rfl | rfl | rfl | rfl <;> rcases (by omega : j = 0 ∨ j = 1 ∨ j = 2 ∨ j = 3) with rfl | rfl | rfl | rfl <;> simp [l4] at h1 h2 <;> subst h1 h2 <;> first | rfl | exact absurd h3 (by decide)

/-- What all pairs keep, the closure keeps. -/
theorem cg4 (S : Nat → Bool) (P : List (Nat × Nat)) (hP : ∀ p, p ∈ P → S p.1 = S p.2) {i j : Nat} (h : Cc.Cg l4 P i j) : S i = S j := by
  induction h with
  | told hm _ _ => exact hP _ hm
  | refl _ => rfl
  | symm _ ih => exact ih.symm
  | trans _ _ i1 i2 => exact i1.trans i2
  | cong h1 h2 h3 _ _ _ => rw [l4_names _ _ _ _ h1 h2 h3]

def ps3 : List (Int × Int) := [(0, 1), (2, 3), (1, 2)]
theorem ps3_get {n : Nat} {q : Nat × Nat} (h : (ps3[n]?).bind (Wm.okP l4.length) = some q) : (n = 0 ∧ q = (0, 1)) ∨ (n = 1 ∧ q = (2, 3)) ∨ (n = 2 ∧ q = (1, 2)) := by
  match n with
  | 0 => exact .inl ⟨rfl, (Option.some.inj (h.symm.trans (show _ = some (0, 1) from rfl)))⟩
  | 1 => exact .inr (.inl ⟨rfl, (Option.some.inj (h.symm.trans (show _ = some (2, 3) from rfl)))⟩)
  | 2 => exact .inr (.inr ⟨rfl, (Option.some.inj (h.symm.trans (show _ = some (1, 2) from rfl)))⟩)
  | n + 3 => simp [ps3] at h

theorem fol4 {ns : List Nat} (h : cgB l4 (Wm.prs l4.length ps3 ns) 0 2 = true) : 0 ∈ ns ∧ 2 ∈ ns := by
  have hc := (cgB_iff.1 h).2.2
  constructor
  · by_cases e : 0 ∈ ns
    · exact e
    · have := cg4 (fun i => decide (i = 0)) _ (fun p hp => by
        obtain ⟨n, hn, hq⟩ := Wm.mem_prs.1 hp
        rcases ps3_get hq with ⟨rfl, rfl⟩ | ⟨rfl, rfl⟩ | ⟨rfl, rfl⟩
        · exact absurd hn e
        · rfl
        · rfl) hc
      simp at this
  · by_cases e : 2 ∈ ns
    · exact e
    · have := cg4 (fun i => decide (i < 2)) _ (fun p hp => by
        obtain ⟨n, hn, hq⟩ := Wm.mem_prs.1 hp
        rcases ps3_get hq with ⟨rfl, rfl⟩ | ⟨rfl, rfl⟩ | ⟨rfl, rfl⟩
        · rfl
        · rfl
        · exact absurd hn e) hc
      simp at this
theorem fol4_yes {ns : List Nat} (h0 : 0 ∈ ns) (h2 : 2 ∈ ns) : cgB l4 (Wm.prs l4.length ps3 ns) 0 2 = true := by
  refine cgB_iff.2 ⟨by decide, by decide, ?_⟩
  have t1 : Cc.Cg l4 (Wm.prs l4.length ps3 ns) 0 1 := .told (Wm.mem_prs.2 ⟨0, h0, rfl⟩) (by decide) (by decide)
  have t2 : Cc.Cg l4 (Wm.prs l4.length ps3 ns) 1 2 := .told (Wm.mem_prs.2 ⟨2, h2, rfl⟩) (by decide) (by decide)
  exact t1.trans t2

theorem fits4 {ns : List Nat} (h : Fits l4 ps3 0 2 ns) : ns = [0, 2] := by
  obtain ⟨h0, h2⟩ := fol4 h.fol
  have h1 : 1 ∉ ns := fun h1 => by
    have := h.less 1 h1 [0, 2] (fun k hk => by
      simp at hk
      rcases hk with rfl | rfl
      · exact ⟨h0, by decide⟩
      · exact ⟨h2, by decide⟩)
    rw [fol4_yes (by simp) (by simp)] at this
    cases this
  have key : ∀ n, n ∈ ns ↔ n ∈ [0, 2] := fun n => by
    constructor
    · intro hn
      have hl : n < 3 := h.lt n hn
      rcases (by omega : n = 0 ∨ n = 1 ∨ n = 2) with rfl | rfl | rfl
      · simp
      · exact absurd hn h1
      · simp
    · intro hn
      simp at hn
      rcases hn with rfl | rfl
      · exact h0
      · exact h2
  have hp : ns.Perm [0, 2] := (List.perm_ext_iff_of_nodup (h.up.imp (fun e => Nat.ne_of_lt e)) (by decide)).2 key
  exact hp.eq_of_pairwise (le := (· < ·)) (fun a b _ _ e1 e2 => absurd e1 (by omega)) h.up (by decide)

end Go.Proofs.Ytinphcnknionmaa

namespace Go.Proofs.Ytinphcnknionmaa
open Go.RowKit Go.Maps

/-- A bank behind a call of Read, with whatever is below as it was. -/
def Bb (w : World) (p nb fb : Nat) (l : List Tm) (W : World) : Prop := ∃ ev, Bk W w.heap.size p ev nb fb l ∧ Below w.heap.size w W

theorem Bb.read {w W : World} {p nb fb : Nat} {l : List Tm} (h : Bb w p nb fb l W) (hl : l.length ≤ 150) (s : ByteArray) {n a b : Nat} {l' : List Tm} (hs : pRead s l = (n, a, b, l')) :
    Calls Try.prog 16 #[.pointer (some ⟨p, 0, none⟩), .string s] W fun e W' => e = .returned (.tuple #[.int .i64 (n : Int), .int .i64 (a : Int), .int .i64 (b : Int)]) ∧ Bb w p nb fb l' W' := by
  obtain ⟨ev, B, bel⟩ := h
  have R := tRead_in W w.heap.size p ev nb fb l B hl bel.size s
  rw [hs] at R
  refine R.mono ?_
  rintro e W' ⟨he, ev2, B2, K2, _⟩
  exact ⟨he, ev2, B2, bel.trans (Kept.below K2 bel.size (fun k e => B.foot_ge e))⟩

theorem prw3 (w : World) : Prw (w.alloc (.cells #[.int .i64 0, .int .i64 1, .int .i64 2, .int .i64 3, .int .i64 1, .int .i64 2] 86)) (some ⟨w.heap.size, 0, none⟩) ps3 := by
  have c : ∀ k, (w.alloc (.cells #[.int .i64 0, .int .i64 1, .int .i64 2, .int .i64 3, .int .i64 1, .int .i64 2] 86)).cell? ⟨w.heap.size, k, none⟩ = #[Value.int .i64 0, .int .i64 1, .int .i64 2, .int .i64 3, .int .i64 1, .int .i64 2][k]? := fun k => World.cell?_alloc_at _ _ _ k rfl
  intro k x hk
  refine ⟨w.heap.size, 0, rfl, by simp, ?_, ?_⟩
  · rw [c]
    match k, hk with
    | 0, hk => cases hk; rfl
    | 1, hk => cases hk; rfl
    | 2, hk => cases hk; rfl
    | k + 3, hk => simp [ps3] at hk
  · rw [c]
    match k, hk with
    | 0, hk => cases hk; rfl
    | 1, hk => cases hk; rfl
    | 2, hk => cases hk; rfl
    | k + 3, hk => simp [ps3] at hk

set_option maxHeartbeats 2000000 in
set_option maxRecDepth 100000 in
theorem alive4_any (w : World) : Calls Try.prog 56 #[] w fun e w' => e = .returned (.bool true) ∧ Below w.heap.size w w' := by
  have NEW := tNew_any w
  have WY : Hid (∀ W p nb fb, Bb w p nb fb l4 W → Calls Try.prog 52 #[.pointer (some ⟨p, 0, none⟩), .slice (some ⟨W.heap.size, 0, none⟩) 3 3, .int .i64 0, .int .i64 2] (W.alloc (.cells #[.int .i64 0, .int .i64 1, .int .i64 2, .int .i64 3, .int .i64 1, .int .i64 2] 86)) fun e w' => ∃ g cap, e = .returned (.tuple #[.slice (some ⟨g, 0, none⟩) 2 cap, .bool true]) ∧ w'.cell? ⟨g, 0, none⟩ = some (.int .i64 0) ∧ w'.cell? ⟨g, 1, none⟩ = some (.int .i64 2) ∧ Below w.heap.size w w') := fun W p nb fb hB => by
    obtain ⟨ev, B, bel⟩ := hB
    have KA : Kept0 W (W.alloc (.cells #[.int .i64 0, .int .i64 1, .int .i64 2, .int .i64 3, .int .i64 1, .int .i64 2] 86)) := (Kept.refl _ W).alloc _
    refine (why_in _ w.heap.size p ev nb fb l4 (B.kept0 KA) l4_bd.1 (by decide) _ 3 ps3 (prw3 W) (by decide) 0 2).mono ?_
    rintro e w' ⟨K, hh⟩
    have hb : Below w.heap.size w w' := bel.trans (Kept.below (KA.trans K) bel.size (fun _ e => e.elim))
    rcases hh with ⟨h1, _⟩ | ⟨_, ns, v, rfl, R, F, _⟩
    · rw [fol4_yes (by decide) (by decide)] at h1
      cases h1
    · obtain rfl := fits4 F
      rcases R.2 with ⟨_, e2⟩ | ⟨g, cap, cur, e', _⟩
      · cases e2
      · subst e'
        exact ⟨g, cap, rfl, R.cellAt 0 (by decide), R.cellAt 1 (by decide), hb⟩
  go_enter Try.func56, Try.ntmps56
  go_wp2_with (first | (go_at_call 15; refine NEW.mono ?_; rintro e w1 ⟨p, nb, fb, rfl, H1, B1⟩; have P1 : Bb w p nb fb [] w1 := ⟨_, H1, B1⟩; have Q1 := P1.read (by decide) _ rd_a; clear NEW H1 B1) | (go_at_call 16; refine Q4.mono ?_; rintro e w5 ⟨rfl, P5⟩; have Y5 := WY.out w5 p nb fb P5; clear Q4) | (go_at_call 16; refine Q3.mono ?_; rintro e w4 ⟨rfl, P4⟩; have Q4 := P4.read (by decide) _ rd_d; clear Q3) | (go_at_call 16; refine Q2.mono ?_; rintro e w3 ⟨rfl, P3⟩; have Q3 := P3.read (by decide) _ rd_c; clear Q2) | (go_at_call 16; refine Q1.mono ?_; rintro e w2 ⟨rfl, P2⟩; have Q2 := P2.read (by decide) _ rd_b; clear Q1) | (go_at_call 52; refine Y5.mono ?_; rintro e w6 ⟨g, cap, rfl, c0, c1, B6⟩))
  go_ret
  exact ⟨rfl, B6⟩

end Go.Proofs.Ytinphcnknionmaa

namespace Go.Proofs.Ytinphcnknionmaa
open Go.RowKit Go.Maps

theorem prs_merge {l : List Tm} {ps : List (Int × Int)} {ns : List Nat} {n : Nat} {p : Int × Int} (hp : ps[n]? = some p) : mergeP l (Wm.prs l.length ps ns) p.1 p.2 = Wm.prs l.length ps (ns ++ [n]) := by
  unfold mergeP
  cases hi : inB l.length p.1 && inB l.length p.2
  · rw [Wm.prs_app]
    simp [Wm.prs, hp, Wm.okP, hi]
  · rw [Wm.prs_snoc (q := (p.1.toNat, p.2.toNat)) (by rw [hp]; simp [Wm.okP, hi])]
    rfl

/-- A closure and a row of numbers apart from it. -/
structure Wd (w W : World) (l : List Tm) (d : Ks) (Q : List (Nat × Nat)) (v : Value) (ns : List Nat) : Prop where
  dl : Cl W w.heap.size l d Q
  row : W.ownsRow w.heap.size 3 1 v ns.length (natC ns)
  far : ∀ j, v.ownBlock = some j → ¬ d.All j
  bel : Kept0 w W
theorem Wd.kept0 {w W W' : World} {l : List Tm} {d : Ks} {Q : List (Nat × Nat)} {v : Value} {ns : List Nat} (h : Wd w W l d Q v ns) (K : Kept0 W W') : Wd w W' l d Q v ns :=
  ⟨h.dl.kept0 K, ownsRow_block h.row (fun j hj => K.block j (h.row.lt j hj).2 (fun e => e)), h.far, h.bel.trans K⟩
theorem Wd.tell {w W : World} {l : List Tm} {d : Ks} {ps : List (Int × Int)} {ms : List Nat} {v : Value} {ns : List Nat} (h : Wd w W l d (Wm.prs l.length ps ms) v ns) {n : Nat} {p : Int × Int} (hp : ps[n]? = some p) (hb : (ms.length + 1) * 8 ≤ 140737488355328) :
    Calls Try.prog 39 #[.pointer (some ⟨d.pc, 0, none⟩), .int .i64 p.1, .int .i64 p.2] W fun e W' => (∃ x, e = .returned (.int .i64 x)) ∧ ∃ d2 : Ks, d2.pc = d.pc ∧ Wd w W' l d2 (Wm.prs l.length ps (ms ++ [n])) v ns := by
  have hl := Wm.prs_len l.length ps ms
  refine (kMerge_in W w.heap.size l d _ h.dl p.1 p.2 (by omega)).mono ?_
  rintro e W' ⟨rfl, d2, D2, K, hpc, hA⟩
  rw [prs_merge hp] at D2
  refine ⟨⟨_, rfl⟩, d2, hpc, D2, ownsRow_block h.row (fun j hj => K.block j (h.row.lt j hj).2 (fun e => h.far j hj e.all)), fun j hj hA' => ?_, h.bel.into K (fun i hi => .inr (h.dl.foot_ge hi))⟩
  rcases hA j hA' with e | e
  · exact h.far j hj e
  · have := (h.row.lt j hj).2; omega

/-- Both that Why answers, at one place. -/
theorem WhyIs.told {w w' : World} {l : List Tm} {ps : List (Int × Int)} {x y : Int} {e : Ending} (h : WhyIs w l ps x y e w') : ∃ (ns : List Nat) (va : Option Addr) (vc : Nat), e = .returned (.tuple #[.slice va ns.length vc, .bool (cgB l (Wm.prs l.length ps (List.range ps.length)) x y)]) ∧
    w'.ownsRow w.heap.size 3 1 (.slice va ns.length vc) ns.length (natC ns) ∧ Kept0 w w' ∧ (∀ n, n ∈ ns → n < ps.length) ∧ (∀ i n, ns[i]? = some n → cgB l (Wm.prs l.length ps (ns.take i)) x y = false) ∧ cgB l (Wm.prs l.length ps ns) x y = cgB l (Wm.prs l.length ps (List.range ps.length)) x y ∧ ns.length ≤ ps.length := by
  obtain ⟨K, ⟨hf, he⟩ | ⟨ht, ns, v, he, R, F, hl⟩⟩ := h
  · refine ⟨[], none, 0, by rw [hf]; exact he, World.ownsRow_nil _ _ _ _, K, fun n hn => by simp at hn, fun i n hi => by simp at hi, ?_, by simp⟩
    rw [hf]
    rw [Bool.eq_false_iff] at hf ⊢
    intro e1
    obtain ⟨hx, hy⟩ := cgB_in e1
    refine hf ((cgB_fol hx hy _).2 (Wm.fol_mon l ps _ _ [] _ (fun x hx => by simp at hx) ((cgB_fol hx hy _).1 e1)))
  · obtain ⟨va, vc, rfl⟩ := row_form' R
    refine ⟨ns, va, vc, by rw [ht]; exact he, R, K, F.lt, fun i n hi => ?_, by rw [ht]; exact F.fol, hl⟩
    refine F.less n (List.mem_of_getElem? hi) _ (fun k hk => ⟨List.mem_of_mem_take hk, fun e => ?_⟩)
    subst e
    obtain ⟨j, hj, hjk⟩ := List.mem_take_iff_getElem.1 hk
    have hil := (List.getElem?_eq_some_iff.1 hi)
    have := List.pairwise_iff_getElem.1 F.up j i (by omega) hil.1 (by omega)
    rw [hil.2, hjk] at this
    omega

end Go.Proofs.Ytinphcnknionmaa
