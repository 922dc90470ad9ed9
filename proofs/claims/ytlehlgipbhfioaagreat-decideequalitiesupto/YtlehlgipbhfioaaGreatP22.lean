/- The document's reader: Read. The document's Show. law01.Same. What the constant text says, plainly. law01.alive; what reading keeps. TermBack: what is shown, as bytes of a text. TermBack: what is shown is read as the same term. TermBack: what reading keeps besides; reading back. TermReads' walk. TermBack's walk. law03: Load, ints; what the constant text says. Package close: what a closure says, plainly. law03: alive; two closures of one bank. CloseOrder's walk. Package decide: closed. Package decide: check, by what areFormulas and areMany answer. Package decide: told. -/
import Derived.Test.YtlehlgipbhfioaaGreatP21
import Derived.Deep.RegionHeld3
import Derived.Test.YtlehlgipbhfioaaGreatP20
import Derived.Deep.RegionWith
import Derived.Test.YtlehlgipbhfioaaGreatP14
namespace Go.Proofs.YtlehlgipbhfioaaGreat
open Go.RowKit

theorem rterm_all (f : Nat) : RTermAt f := by
  induction f using Nat.strongRecOn with
  | ind f ih =>
    intro w base r av s i l vs deep h hGo hf hb hd
    obtain ⟨f, rfl⟩ : ∃ f', f = f' + 1 := ⟨f - 1, by omega⟩
    by_cases hE : badNm s (bl s i) = true ∨ 12 < deep
    · exact rterm_err f w base r av s i l vs deep h hd hE
    · have hbad : badNm s (bl s i) = false := by
        cases hx : badNm s (bl s i) with
        | false => rfl
        | true => exact absurd (Or.inl hx) hE
      have hab : ¬ 12 < deep := fun e => hE (Or.inr e)
      cases hst : stands s (bl s (nmE s (bl s i))) 40 with
      | false => exact rterm_plain f w base r av s i l vs deep h hGo hf hb hab hbad hst
      | true => exact rterm_paren f (fun g hg => ih g (by omega)) w base r av s i l vs deep h hGo hf hb hab hbad hst

/-- The document's bank at block q. -/
structure RBk (w : World) (base q : Nat) (av : Value) (l : List Tm) (vs : List Value) : Prop where
  row : w.rowIs q 52 1 (fun _ => av)
  ls : Ls w base av l vs
  bs : base ≤ w.heap.size

theorem lsC_len (l : List Tm) (vs : List Value) (h : vs.length = l.length) : (lsC l vs).length = l.length * 2 := by
  induction l generalizing vs with
  | nil => simp [lsC]
  | cons a l ih =>
    cases vs with
    | nil => simp at h
    | cons b vs =>
      have := ih vs (by simpa using h)
      unfold lsC at this ⊢
      simp at this ⊢
      omega
theorem lsC_one {w : World} {base : Nat} {av : Value} {l : List Tm} {vs : List Value} (h : Ls w base av l vs) : ∀ u ∈ lsC l vs, u.oneCell' = true := by
  intro u hu
  unfold lsC at hu
  rw [List.mem_flatMap] at hu
  obtain ⟨x, hx, hu⟩ := hu
  simp at hu
  rcases hu with rfl | rfl
  · rfl
  · obtain ⟨xs, hxs⟩ := h.mem (List.of_mem_zip hx).2
    obtain ⟨a, c, e⟩ := row_form hxs
    rw [e]
    rfl
theorem row_cellsR {w : World} {base : Nat} {e : TypeId} {k n : Nat} {v : Value} {xs : List Value} (h : w.ownsRow base e k v n xs) {g c m : Nat} (hv : v = .slice (some ⟨g, 0, none⟩) m c) : ∀ j u, xs[j]? = some u → w.cell? ((⟨g, 0, none⟩ : Addr).add j) = some u := fun j u hj => h.cells (g := g) (by rw [hv]; rfl) j u hj

theorem row_base {w : World} {B B' : Nat} {e : TypeId} {k n : Nat} {v : Value} {xs : List Value} (h : w.ownsRow B e k v n xs) (hb : B' ≤ B) : w.ownsRow B' e k v n xs := by
  refine ⟨h.1, ?_⟩
  rcases h.2 with x | ⟨b, cap, cur, e1, e2, e3⟩
  · exact Or.inl x
  · exact Or.inr ⟨b, cap, cur, e1, Nat.le_trans hb e2, e3⟩

set_option maxHeartbeats 1000000 in
theorem copied_in (w : World) (base : Nat) (av : Value) (l : List Tm) (vs : List Value) (h : Ls w base av l vs) (hl : l.length ≤ 1000) (hbase : base ≤ w.heap.size) :
    Calls Tryz.prog 28 #[av] w fun e w' => ∃ av', e = .returned av' ∧ Ls w' base av' l vs ∧ Kept0 w w' ∧ ∀ k, av'.ownBlock = some k → w.heap.size ≤ k := by
  obtain ⟨i0, hi0, hz0, hz1, hz2⟩ := info_parts infoRT
  rcases h.row.2 with ⟨rfl, h0⟩ | ⟨g, cap, cur, rfl, _⟩
  · go_enter Tryz.func28, Tryz.ntmps28
    go_wp2_with fail
    go_ret
    exact ⟨_, rfl, h, Kept.refl _ w, by simp [Value.ownBlock]⟩
  · have NEWS := row_cellsR h.row rfl
    go_enter Tryz.func28, Tryz.ntmps28
    go_wp2_with (at_builtin; refine wpList_append_here rfl _ _ 25 rfl w.heap.size 140 i0 _ 2 40 Tryz.underlying25 hi0 hz0 hz1 hz2 rfl (by decide) (.slice none 0 0) 0 [] rfl (World.ownsRow_nil _ _ _ _) ⟨g, 0, none⟩ l.length cap (lsC l vs) rfl (lsC_len l vs h.len) NEWS (lsC_one h) (by unfold maxLen; omega) (by omega) (Nat.le_refl _) ?_; intro v' w5 hown5 hgrow hloc)
    go_ret
    rw [Nat.zero_add, List.nil_append] at hown5
    have K : Kept0 w w5 := ⟨hgrow.os, hgrow.tape, hgrow.output, hgrow.size, fun k hk _ => hgrow.block k hk (by simp [Value.ownBlock])⟩
    refine ⟨v', rfl, ⟨h.len, row_base hown5 hbase, fun i t v h1 h2 => (h.args i t v h1 h2).kept K.grownBy (Decidable.em _)⟩, K, fun k hk => (hown5.lt k hk).1⟩

/-- The list of values behind the document's Read. -/
def RReadPost (w : World) (base q : Nat) (res : Nat × Nat × Nat × List Tm) (e : Ending) (w' : World) : Prop :=
  e = .returned (.tuple #[.int .i64 (res.1 : Int), .int .i64 (res.2.1 : Int), .int .i64 (res.2.2.1 : Int)]) ∧ (∃ av' vs', RBk w' base q av' res.2.2.2 vs') ∧ Kept1 q w w'

theorem made_rr (w : World) (base : Nat) (av : Value) (s : ByteArray) (l : List Tm) (vs : List Value) (L : Ls w base av l vs) (hs : s.size ≤ 400) (hb : base ≤ w.heap.size) (hl : l.length ≤ 1000) (h4 : ∀ u ∈ l, u.args.length ≤ 4) :
    S1 (w.alloc (.cells #[.string s, .int .i64 0, av, .int .i64 0, .int .i64 0] 91)) base w.heap.size av s 0 0 0 l vs := by
  have K : Kept0 w (w.alloc (.cells #[.string s, .int .i64 0, av, .int .i64 0, .int .i64 0] 91)) := Kept.alloc (Kept.refl _ w) _
  refine ⟨⟨World.rowIs.congr (made_row w #[.string s, .int .i64 0, av, .int .i64 0, .int .i64 0] 91) (fun j hj => ?_), by omega, hs⟩, L.kept0 K, Nat.le_trans hb K.size, hl, h4⟩
  have hj' : j < 5 := hj
  rcases (by omega : j = 0 ∨ j = 1 ∨ j = 2 ∨ j = 3 ∨ j = 4) with rfl | rfl | rfl | rfl | rfl <;> rfl

set_option maxHeartbeats 4000000 in
set_option maxRecDepth 100000 in
theorem rRead_in (w : World) (base q : Nat) (av : Value) (l : List Tm) (vs : List Value) (h : RBk w base q av l vs) (hG : Good l) (hl : l.length ≤ 150) (s : ByteArray) :
    Calls Tryz.prog 14 #[.pointer (some ⟨q, 0, none⟩), .string s] w (RReadPost w base q (pRead s l)) := by
  by_cases hs : 400 < s.size
  · have hp : pRead s l = (0, 1, 0, l) := by simp [pRead, hs]
    have d : (400 : Int) < (s.size : Int) := by omega
    go_enter Tryz.func14, Tryz.ntmps14
    go_wp2
    refine ⟨rfl, .tuple #[.int .i64 0, .int .i64 1, .int .i64 0], by simp [results, Tryz.results14], ?_⟩
    rw [hp]
    exact ⟨rfl, ⟨av, vs, h⟩, Kept.refl _ w⟩
  · have hp : pRead s l = pWhole s l := by simp [pRead, hs]
    rw [hp]
    have d : ¬ (400 : Int) < (s.size : Int) := by omega
    have c0 : w.cell? ⟨q, 0, none⟩ = some av := h.row.cell (by omega)
    have CO := copied_in w base av l vs h.ls (by omega) h.bs
    have hb0 := bl_le (s := s) (i := 0) (by omega)
    obtain ⟨aa, ac, rfl⟩ := h.ls.form
    go_enter Tryz.func14, Tryz.ntmps14
    go_wp2_with (first | (go_at_call 28; refine CO.mono ?_; rintro e w1 ⟨av1, rfl, L1, K1, F1⟩; obtain ⟨a1, k1, hav1⟩ := L1.form; subst hav1))
    have M := made_rr w1 base (.slice a1 l.length k1) s l vs L1 (by omega) (Nat.le_trans h.bs K1.size) (by omega) hG.four
    have KM : Kept0 w1 (w1.alloc (.cells #[.string s, .int .i64 0, .slice a1 l.length k1, .int .i64 0, .int .i64 0] 91)) := Kept.alloc (Kept.refl _ w1) _
    have hw1 := K1.size
    generalize w1.alloc (.cells #[.string s, .int .i64 0, .slice a1 l.length k1, .int .i64 0, .int .i64 0] 91) = w2 at *
    have TM := rterm_all (2 * s.size + 1) w2 base w1.heap.size _ s 0 l vs 0 M hG (by omega) (by omega) (by omega)
    generalize hrr : w1.heap.size = r at *
    have F1' : ∀ k, (Value.slice a1 l.length k1).ownBlock = some k → w.heap.size ≤ k := F1
    have keep : ∀ (WW : World), GR r w2 (.slice a1 l.length k1) WW (.slice a1 l.length k1) ∨ (∃ av3, GR r w2 (.slice a1 l.length k1) WW av3) → (∀ k, k < w.heap.size → WW.heap[k]? = w.heap[k]?) ∧ Kept0 w WW := by
      intro WW hGG
      have GG : Kept (fun k => k = r ∨ (Value.slice a1 l.length k1).ownBlock = some k ∨ w2.heap.size ≤ k) w2 WW := by
        rcases hGG with e | ⟨_, e⟩
        · exact e.kept
        · exact e.kept
      have hz : ∀ k, k < w.heap.size → WW.heap[k]? = w.heap[k]? := fun k hk => by
        have h2 := KM.size
        have h3 := K1.size
        refine (GG.block k (by omega) ?_).trans ((KM.block k (by omega) (fun e => e)).trans (K1.block k hk (fun e => e)))
        rintro (e | e | e)
        · omega
        · have := F1' k e; omega
        · omega
      exact ⟨hz, ⟨GG.os.trans (KM.os.trans K1.os), GG.tape.trans (KM.tape.trans K1.tape), GG.output.trans (KM.output.trans K1.output), Nat.le_trans K1.size (Nat.le_trans KM.size GG.size), fun k hk _ => hz k hk⟩⟩
    have back : ∀ (WW : World), (∃ av3, GR r w2 (.slice a1 l.length k1) WW av3) → RBk WW base q (.slice aa l.length ac) l vs ∧ Kept1 q w WW := by
      intro WW hGG
      obtain ⟨hz, K⟩ := keep WW (Or.inr hGG)
      exact ⟨⟨h.row.of_block (hz q h.row.lt), h.ls.kept0 K, Nat.le_trans h.bs K.size⟩, Kept.mono K (fun _ _ e => e.elim)⟩
    cases hx : pTerm s (2 * s.size + 1) 0 (bl s 0) l with
    | bad c qq l2 =>
      have hpw : pWhole s l = (0, c, qq, l) := by simp [pWhole, hx]
      rw [hx] at TM
      have hc1 := ((p_bad s (2 * s.size + 1)).1 0 (bl s 0) l c qq l2 hb0 (by omega) hx).1
      have dE : ((c : Int) == 0) = false := beq_eq_false_iff_ne.2 (by omega)
      have dN : ((c : Int) != 0) = true := by simp; omega
      go_wp2_with (first | (go_at_call 29; refine TM.mono ?_; rintro e w3 ⟨rfl, av3, i3, l3, vs3, S3, G3, N3⟩; have BLK := rblanks_in w3 r s _ av3 c qq S3.rd))
      by_cases hlt : bl s i3 < s.size
      · have dl : decide ((bl s i3 : Int) < (s.size : Int)) = true := decide_eq_true (by omega)
        go_wp2_with (first | (go_at_call 30; refine BLK.mono ?_; rintro e w4 ⟨rfl, R4, K4⟩; have t1 := R4.c1; have FE := fail_in w4 r s _ av3 c qq R4 2 (bl s i3); rw [failE_err hc1, failA_err hc1] at FE) | (go_at_call 31; refine FE.mono ?_; rintro e w5 ⟨rfl, R5, K5⟩; have t3 := R5.c3; have t4 := R5.c4))
        go_quiet (fail)
        go_wp2_with fail
        refine ⟨rfl, .tuple #[.int .i64 0, .int .i64 (c : Int), .int .i64 (qq : Int)], by simp [results, Tryz.results14], ?_⟩
        rw [hpw]
        obtain ⟨B9, K9⟩ := back _ ⟨av3, ((G3.kept1 K4).kept1 K5).step (Kept.drewN (Kept.refl (fun _ => False) w5) nq) (fun _ _ e => e.elim)⟩
        exact ⟨rfl, ⟨_, _, B9⟩, K9⟩
      · have dl : decide ((bl s i3 : Int) < (s.size : Int)) = false := decide_eq_false (by omega)
        go_wp2_with (first | (go_at_call 30; refine BLK.mono ?_; rintro e w4 ⟨rfl, R4, K4⟩; have t1 := R4.c1; have t3 := R4.c3; have t4 := R4.c4))
        go_quiet (fail)
        go_wp2_with fail
        refine ⟨rfl, .tuple #[.int .i64 0, .int .i64 (c : Int), .int .i64 (qq : Int)], by simp [results, Tryz.results14], ?_⟩
        rw [hpw]
        obtain ⟨B9, K9⟩ := back _ ⟨av3, (G3.kept1 K4).step (Kept.drewN (Kept.refl (fun _ => False) w4) nq) (fun _ _ e => e.elim)⟩
        exact ⟨rfl, ⟨_, _, B9⟩, K9⟩
    | ok n k l' =>
      rw [hx] at TM
      go_wp2_with (first | (go_at_call 29; refine TM.mono ?_; rintro e w3 ⟨rfl, av3, i3, vs3, S3, hi3, G3, N3⟩; have BLK := rblanks_in w3 r s _ av3 0 0 S3.rd; rw [hi3] at BLK))
      obtain ⟨aa3, ac3, hav3⟩ := S3.ls.form
      subst hav3
      have lo3 := S3.lo
      by_cases hlt : k < s.size
      · have hpw : pWhole s l = (0, 2, k, l) := by simp [pWhole, hx, hlt]
        have dl : decide ((k : Int) < (s.size : Int)) = true := decide_eq_true (by omega)
        go_wp2_with (first | (go_at_call 30; refine BLK.mono ?_; rintro e w4 ⟨rfl, R4, K4⟩; have t1 := R4.c1; have FE : Calls Tryz.prog 31 #[.pointer (some ⟨r, 0, none⟩), .int .i64 ((2 : Nat) : Int), .int .i64 (k : Int)] w4 fun x w' => x = .returned (.tuple #[]) ∧ Rr w' r s k _ 2 k ∧ Kept1 r w4 w' := fail_in w4 r s _ _ 0 0 R4 2 k) | (go_at_call 31; refine FE.mono ?_; rintro e w5 ⟨rfl, R5, K5⟩; have t3 := R5.c3; have t4 := R5.c4))
        go_quiet (fail)
        go_wp2_with fail
        refine ⟨rfl, .tuple #[.int .i64 0, .int .i64 2, .int .i64 (k : Int)], by simp [results, Tryz.results14], ?_⟩
        rw [hpw]
        obtain ⟨B9, K9⟩ := back _ ⟨_, ((G3.kept1 K4).kept1 K5).step (Kept.drewN (Kept.refl (fun _ => False) w5) nq) (fun _ _ e => e.elim)⟩
        exact ⟨rfl, ⟨_, _, B9⟩, K9⟩
      · have dl : decide ((k : Int) < (s.size : Int)) = false := decide_eq_false (by omega)
        by_cases hm : 150 < l'.length
        · have hpw : pWhole s l = (0, 6, 0, l) := by simp [pWhole, hx, hlt, hm]
          have dm : decide ((150 : Int) < (l'.length : Int)) = true := decide_eq_true (by omega)
          go_wp2_with (first | (go_at_call 30; refine BLK.mono ?_; rintro e w4 ⟨rfl, R4, K4⟩; have t1 := R4.c1; have t3 := R4.c3; have t2 := R4.c2; have FE : Calls Tryz.prog 31 #[.pointer (some ⟨r, 0, none⟩), .int .i64 ((6 : Nat) : Int), .int .i64 ((0 : Nat) : Int)] w4 fun x w' => x = .returned (.tuple #[]) ∧ Rr w' r s k _ 6 0 ∧ Kept1 r w4 w' := fail_in w4 r s _ _ 0 0 R4 6 0) | (go_at_call 31; refine FE.mono ?_; rintro e w5 ⟨rfl, R5, K5⟩; have t3 := R5.c3; have t4 := R5.c4))
          go_quiet (fail)
          go_wp2_with fail
          refine ⟨rfl, .tuple #[.int .i64 0, .int .i64 6, .int .i64 0], by simp [results, Tryz.results14], ?_⟩
          rw [hpw]
          obtain ⟨B9, K9⟩ := back _ ⟨_, ((G3.kept1 K4).kept1 K5).step (Kept.drewN (Kept.refl (fun _ => False) w5) nq) (fun _ _ e => e.elim)⟩
          exact ⟨rfl, ⟨_, _, B9⟩, K9⟩
        · have hpw : pWhole s l = (n, 0, 0, l') := by simp [pWhole, hx, hlt, hm]
          have dm : decide ((150 : Int) < (l'.length : Int)) = false := decide_eq_false (by omega)
          go_wp2_with (first | (go_at_call 30; refine BLK.mono ?_; rintro e w4 ⟨rfl, R4, K4⟩; have t1 := R4.c1; have t3 := R4.c3; have t2 := R4.c2; have B4 := (back w4 ⟨_, G3.kept1 K4⟩).1; have q0 := World.rowIs.cell B4.row (i := 0) (by omega); have q1 := World.rowIs.frozen B4.row 0))
          have SS := S3.read K4 R4
          obtain ⟨B9, K9⟩ := back w4 ⟨_, G3.kept1 K4⟩
          refine ⟨rfl, .tuple #[.int .i64 (n : Int), .int .i64 0, .int .i64 0], by simp [results, Tryz.results14], ?_⟩
          rw [hpw]
          have KQ : Kept1 q w4 (w4.setCell ⟨q, 0, none⟩ (.slice aa3 l'.length ac3)) := Kept1.set (Kept.refl _ w4) _ _
          refine ⟨rfl, ⟨.slice aa3 l'.length ac3, vs3, ⟨Box.set B9.row _, SS.ls.blocks (fun b hb => KQ.block b (row_lt SS.ls.row hb) (fun e => row_ne SS.ls.row B9.row (by decide) (e ▸ hb))) (fun u hu b hb => ?_), Nat.le_trans B9.bs KQ.size⟩⟩, Kept.trans K9 KQ⟩
          obtain ⟨ys, hy⟩ := SS.ls.mem hu
          exact KQ.block b (row_lt hy hb) (fun e => row_ne hy B9.row (by decide) (e ▸ hb))

end Go.Proofs.YtlehlgipbhfioaaGreat

namespace Go.Proofs.YtlehlgipbhfioaaGreat
open Go.RowKit

/-- Bytes as a text. -/
def bt (l : List UInt8) : ByteArray := ⟨l.toArray⟩
theorem bt_size (l : List UInt8) : (bt l).size = l.length := by simp [bt, ByteArray.size]
theorem bt_app (a b : List UInt8) : bt a ++ bt b = bt (a ++ b) := by
  apply ByteArray.ext
  simp [bt]
theorem bt_name (n : ByteArray) : bt n.data.toList = n := by cases n; simp [bt]

end Go.Proofs.YtlehlgipbhfioaaGreat

namespace Go.Proofs.YtlehlgipbhfioaaGreat
open Go.RowKit

theorem shwB_out {l : List Tm} {n : Int} (h : inB l.length n = false) : shwB l n = ⟨#[]⟩ := by simp [shwB, h]
theorem shwB_in {l : List Tm} {n : Nat} (h : n < l.length) : shwB l (n : Int) = bt (shw l 13 n) := by simp [shwB, inB_nat h, bt]

/-- An answer's box: name and args. -/
theorem ans_box (w : World) (a b : Value) : (w.alloc (.cells #[a, b] 102)).cell? ⟨w.heap.size, 0, none⟩ = some a ∧ (w.alloc (.cells #[a, b] 102)).cell? ⟨w.heap.size, 1, none⟩ = some b :=
  ⟨World.rowIs.cell (made_row w #[a, b] 102) (i := 0) (by simp), World.rowIs.cell (made_row w #[a, b] 102) (i := 1) (by simp)⟩

theorem ans_cells {w6 : World} {B x : Nat} {va : Option Addr} {vc : Nat} {xs : List Nat} {m : Nat} {F : Nat → Value} (O : w6.ownsRow B 3 1 (.slice va xs.length vc) xs.length (argC xs)) (R : w6.rowIs x 102 m F) {i : Nat} (hi : i < xs.length) :
    ∃ gv, va = some ⟨gv, 0, none⟩ ∧ B ≤ gv ∧ gv ≠ x ∧ w6.cell? ⟨gv, i, none⟩ = some (.int .i64 (xs[i]?.getD 0 : Int)) ∧ w6.frozen? ⟨gv, i, none⟩ = false := by
  obtain ⟨gv, cap, hg, hc⟩ := arg_cell (w := w6) (base := B) (xs := xs) O hi
  injection hg with e1 _ e3
  refine ⟨gv, e1, ?_, ?_, ?_, ?_⟩
  · exact (O.lt gv (by rw [e1]; rfl)).1
  · have := row_ne O R (by decide)
    rw [e1] at this
    simpa [Value.ownBlock] using this
  · rw [hc, List.getElem?_eq_getElem hi]; rfl
  · rcases O.2 with ⟨hz, _⟩ | ⟨b, cap', cur, hb, _, hh, _⟩
    · rw [e1] at hz; cases hz
    · rw [e1] at hb
      injection hb with hb1
      injection hb1 with hb2
      injection hb2 with hb3
      subst hb3
      exact Lib.frozen_of_heap hh i

end Go.Proofs.YtlehlgipbhfioaaGreat

namespace Go.Proofs.YtlehlgipbhfioaaGreat
open Go.RowKit

/-- f(a, g(a)) -/
def txt : ByteArray := ⟨#[102, 40, 97, 44, 32, 103, 40, 97, 41, 41]⟩
def tA : Tm := ⟨⟨#[97]⟩, []⟩
def tG : Tm := ⟨⟨#[103]⟩, [0]⟩
def tF : Tm := ⟨⟨#[102]⟩, [0, 1]⟩

theorem tx_size : txt.size = 10 := rfl
theorem tx_n0 : nmE txt 0 = 1 := by rw [nmE_at (by decide) (by decide), nmE_end (by decide)]
theorem tx_n2 : nmE txt 2 = 3 := by rw [nmE_at (by decide) (by decide), nmE_end (by decide)]
theorem tx_n5 : nmE txt 5 = 6 := by rw [nmE_at (by decide) (by decide), nmE_end (by decide)]
theorem tx_n7 : nmE txt 7 = 8 := by rw [nmE_at (by decide) (by decide), nmE_end (by decide)]
theorem tx_b0 : bl txt 0 = 0 := bl_end (by decide)
theorem tx_b1 : bl txt 1 = 1 := bl_end (by decide)
theorem tx_b2 : bl txt 2 = 2 := bl_end (by decide)
theorem tx_b3 : bl txt 3 = 3 := bl_end (by decide)
theorem tx_b4 : bl txt 4 = 5 := by rw [bl_at (by decide) (by decide), bl_end (by decide)]
theorem tx_b6 : bl txt 6 = 6 := bl_end (by decide)
theorem tx_b7 : bl txt 7 = 7 := bl_end (by decide)
theorem tx_b8 : bl txt 8 = 8 := bl_end (by decide)
theorem tx_b9 : bl txt 9 = 9 := bl_end (by decide)
theorem tx_b10 : bl txt 10 = 10 := bl_end (by decide)
theorem tx_w0 : badNm txt 0 = false := by simp only [badNm, tx_n0]; decide
theorem tx_w2 : badNm txt 2 = false := by simp only [badNm, tx_n2]; decide
theorem tx_w5 : badNm txt 5 = false := by simp only [badNm, tx_n5]; decide
theorem tx_w7 : badNm txt 7 = false := by simp only [badNm, tx_n7]; decide
theorem tx_h1 : behind txt 1 40 = 2 := by rw [behind_true (by decide)]; exact tx_b2
theorem tx_h6 : behind txt 6 40 = 7 := by rw [behind_true (by decide)]; exact tx_b7
theorem tx_h3 : behind txt 3 44 = 5 := by rw [behind_true (by decide)]; exact tx_b4
theorem tx_h8 : behind txt 8 41 = 9 := by rw [behind_true (by decide)]; exact tx_b9
theorem tx_h9 : behind txt 9 41 = 10 := by rw [behind_true (by decide)]; exact tx_b10

theorem tx_a2 (f d : Nat) (hd : ¬ 12 < d) : pTerm txt (f + 1) d 2 [] = .ok 0 3 [tA] := by
  rw [pTerm, tx_w2, tx_n2, tx_b3]
  simp only [Bool.false_eq_true, if_false, hd, show stands txt 3 40 = false from by decide]
  rfl
theorem tx_a7 (f d : Nat) (hd : ¬ 12 < d) : pTerm txt (f + 1) d 7 [tA] = .ok 0 8 [tA] := by
  rw [pTerm, tx_w7, tx_n7, tx_b8]
  simp only [Bool.false_eq_true, if_false, hd, show stands txt 8 40 = false from by decide]
  rfl
theorem tx_g (f d : Nat) (hd : ¬ 11 < d) : pTerm txt (f + 3) d 5 [tA] = .ok 1 9 [tA, tG] := by
  rw [pTerm, tx_w5, tx_n5, tx_b6, tx_h6]
  simp only [Bool.false_eq_true, if_false, show ¬ 12 < d from by omega, show stands txt 6 40 = true from by decide, if_true]
  rw [pArgs, if_neg (by decide), if_neg (by decide), tx_a7 f (d + 1) (by omega)]
  simp only [show stands txt 8 41 = true from by decide, if_true, tx_h8]
  rfl
theorem tx_f (f : Nat) : pTerm txt (f + 6) 0 0 [] = .ok 2 10 [tA, tG, tF] := by
  rw [pTerm, tx_w0, tx_n0, tx_b1, tx_h1]
  simp only [Bool.false_eq_true, if_false, show ¬ 12 < 0 from by omega, show stands txt 1 40 = true from by decide, if_true]
  rw [pArgs, if_neg (by decide), if_neg (by decide), tx_a2 (f + 3) (0 + 1) (by omega)]
  simp only [show stands txt 3 41 = false from by decide, Bool.false_eq_true, if_false, show stands txt 3 44 = true from by decide, if_true, tx_h3]
  rw [pArgs, if_neg (by decide), if_neg (by decide), tx_g f (0 + 1) (by omega)]
  simp only [show stands txt 9 41 = true from by decide, if_true, tx_h9]
  rfl
theorem tx_read : pRead txt [] = (2, 0, 0, [tA, tG, tF]) := by
  rw [pRead, if_neg (by decide), pWhole, tx_b0, show 2 * txt.size + 1 = 15 + 6 from rfl, tx_f 15]
  rfl
theorem tx_shw : shw [tA, tG, tF] 13 2 = [102, 40, 97, 44, 103, 40, 97, 41, 41] := by rfl
theorem Hs_nil : Hs [] := fun n hn => absurd hn (by simp)
theorem Good_nil : Good [] := ⟨by simp, by simp⟩

end Go.Proofs.YtlehlgipbhfioaaGreat

namespace Go.Proofs.YtlehlgipbhfioaaGreat
open Go.RowKit

/-- What a bank keeps to. -/
structure Kp (l : List Tm) : Prop where
  hs : Hs l
  good : Good l
  len : l.length ≤ 150

theorem Kp.nil : Kp [] := ⟨Hs_nil, Good_nil, by simp⟩
theorem Kp.read {l : List Tm} (h : Kp l) (s : ByteArray) : Kp (pRead s l).2.2.2 := by
  unfold pRead
  split
  · exact h
  · unfold pWhole
    have hb := bl_le (s := s) (i := 0) (by omega)
    split
    · exact h
    · next n k l' hx =>
      split
      · exact h
      · split
        · exact h
        · exact ⟨((p_hs s _).1 0 (bl s 0) l n k l' hb h.hs hx).1, (p_good s _).1 0 (bl s 0) l n k l' hb h.good hx, by show l'.length ≤ 150; omega⟩

end Go.Proofs.YtlehlgipbhfioaaGreat

namespace Go.Proofs.YtlehlgipbhfioaaGreat
open Go.RowKit

theorem byt_bt (l : List UInt8) (i : Nat) : byt (bt l) i = (l[i]?.map UInt8.toNat).getD 0 := by
  unfold byt
  by_cases h : i < l.length
  · have h' : i < (bt l).size := by rw [bt_size]; exact h
    rw [dif_pos h', List.getElem?_eq_getElem h]
    simp [bt]
    rfl
  · have h' : ¬ i < (bt l).size := by rw [bt_size]; exact h
    rw [dif_neg h', List.getElem?_eq_none (by omega)]
    rfl

/-- A name as the bank has it: letters and digits, the first a letter. -/
def NmOk (n : ByteArray) : Prop := 0 < n.size ∧ n.size ≤ 6 ∧ (∀ i, i < n.size → isNm (byt n i) = true) ∧ isDig (byt n 0) = false

theorem nmE_run {s : ByteArray} {i k : Nat} (hk : i + k ≤ s.size) (h : ∀ j, j < k → isNm (byt s (i + j)) = true) (he : ¬ (i + k < s.size ∧ isNm (byt s (i + k)) = true)) : nmE s i = i + k := by
  induction k generalizing i with
  | zero => exact nmE_end he
  | succ k ih =>
    rw [nmE_at (by omega) (by simpa using h 0 (by omega)), ih (by omega) (fun j hj => by have := h (j + 1) (by omega); rwa [show i + 1 + j = i + (j + 1) from by omega]) (by rwa [show i + 1 + k = i + (k + 1) from by omega])]
    omega

/-- The name that is read is one. -/
theorem nm_run {s : ByteArray} {i : Nat} : ∀ j, i ≤ j → j < nmE s i → isNm (byt s j) = true := by
  induction i using nmE.induct s with
  | case1 i h ih =>
    intro j h1 h2
    rw [nmE_at h.1 h.2] at h2
    by_cases e : j = i
    · rw [e]; exact h.2
    · exact ih j (by omega) h2
  | case2 i h =>
    intro j h1 h2
    rw [nmE_end h] at h2
    omega
theorem byt_extract {s : ByteArray} {i k j : Nat} (hk : k ≤ s.size) (hj : i + j < k) : byt (s.extract i k) j = byt s (i + j) := by
  have h1 : (s.extract i k).size = k - i := ext_size (by omega) hk
  unfold byt
  rw [dif_pos (by omega), dif_pos (by omega)]
  simp [ByteArray.getElem_extract]
theorem nm_ok {s : ByteArray} {i : Nat} (hi : i ≤ s.size) (h : badNm s i = false) : NmOk (s.extract i (nmE s i)) := by
  have h1 := nm_lt h
  have h2 := nmE_le hi
  have h3 := nm_small h hi
  have h4 : (s.extract i (nmE s i)).size = nmE s i - i := ext_size (by omega) h2
  refine ⟨by omega, h3, fun j hj => ?_, ?_⟩
  · rw [byt_extract h2 (by omega)]
    exact nm_run (i := i) _ (by omega) (by omega)
  · rw [byt_extract h2 (by omega)]
    cases hd : isDig (byt s (i + 0)) with
    | false => rfl
    | true =>
      rw [Nat.add_zero] at hd
      simp [badNm, hd] at h

/-- The bytes x stand in s from i on. -/
def AtB (s : ByteArray) (i : Nat) (x : List UInt8) : Prop := ∀ j u, x[j]? = some u → i + j < s.size ∧ byt s (i + j) = u.toNat
theorem AtB.left {s : ByteArray} {i : Nat} {x y : List UInt8} (h : AtB s i (x ++ y)) : AtB s i x := fun j u hj => h j u (by rw [List.getElem?_append_left (List.getElem?_eq_some_iff.1 hj).1]; exact hj)
theorem AtB.right {s : ByteArray} {i : Nat} {x y : List UInt8} (h : AtB s i (x ++ y)) : AtB s (i + x.length) y := fun j u hj => by
  have := h (x.length + j) u (by rw [List.getElem?_append_right (by omega)]; simpa using hj)
  rwa [show i + x.length + j = i + (x.length + j) from by omega]
theorem AtB.le {s : ByteArray} {i : Nat} {x : List UInt8} (h : AtB s i x) (hi : i ≤ s.size) : i + x.length ≤ s.size := by
  by_cases hx : x.length = 0
  · omega
  · have hlt : x.length - 1 < x.length := by omega
    have := (h (x.length - 1) x[x.length - 1] (List.getElem?_eq_getElem hlt)).1
    omega
theorem AtB.head {s : ByteArray} {i : Nat} {u : UInt8} {x : List UInt8} (h : AtB s i (u :: x)) : i < s.size ∧ byt s i = u.toNat := by simpa using h 0 u rfl
theorem AtB.tail {s : ByteArray} {i : Nat} {u : UInt8} {x : List UInt8} (h : AtB s i (u :: x)) : AtB s (i + 1) x := fun j v hj => by
  have := h (j + 1) v (by simpa using hj)
  rwa [show i + 1 + j = i + (j + 1) from by omega]

theorem AtB.extract {s : ByteArray} {i : Nat} {n : ByteArray} (h : AtB s i n.data.toList) (hi : i ≤ s.size) : s.extract i (i + n.size) = n := by
  have hl : n.data.toList.length = n.size := by simp
  have hle := h.le hi
  rw [hl] at hle
  apply toList_name
  rw [ByteArray.toList_eq, ByteArray.toList_eq]
  apply List.ext_getElem
  · have := ext_size (s := s) (i := i) (k := i + n.size) (by omega) hle
    have e1 : (s.extract i (i + n.size)).data.toList.length = (s.extract i (i + n.size)).size := by rw [Array.length_toList]; rfl
    rw [e1, this, hl]
    omega
  · intro j h1 h2
    have h3 : j < n.size := by rw [← hl]; exact h2
    obtain ⟨h4, h5⟩ := h j n.data.toList[j] (List.getElem?_eq_getElem h2)
    have e := byt_extract (s := s) (i := i) (k := i + n.size) (j := j) hle (by omega)
    rw [h5] at e
    have h6 : j < (s.extract i (i + n.size)).size := by
      rw [ext_size (by omega) hle]; omega
    have e2 : byt (s.extract i (i + n.size)) j = ((s.extract i (i + n.size)).data.toList[j]).toNat := by
      rw [← byt_lt h6]; rfl
    rw [e2] at e
    exact UInt8.toNat_inj.1 e

/-- A term ends at k. -/
def Stop (s : ByteArray) (k : Nat) : Prop := k = s.size ∨ (k < s.size ∧ (byt s k = 44 ∨ byt s k = 41))
theorem Stop.bl {s : ByteArray} {k : Nat} (h : Stop s k) : bl s k = k := bl_end fun x => by rcases h with e | ⟨_, e | e⟩ <;> omega
theorem Stop.nm {s : ByteArray} {k : Nat} (h : Stop s k) : ¬ (k < s.size ∧ isNm (byt s k) = true) := fun x => by
  rcases h with e | ⟨_, e | e⟩
  · omega
  · rw [e] at x; exact absurd x.2 (by decide)
  · rw [e] at x; exact absurd x.2 (by decide)
theorem Stop.open {s : ByteArray} {k : Nat} (h : Stop s k) : stands s k 40 = false := decide_eq_false fun x => by rcases h with e | ⟨_, e | e⟩ <;> omega
theorem isNm_not {c : Nat} (h : isNm c = true) : c ≠ 32 := fun e => by rw [e] at h; exact absurd h (by decide)

/-- What the bank's names keep to. -/
def Nms (l : List Tm) : Prop := ∀ t ∈ l, NmOk t.name

theorem name_at {s : ByteArray} {i : Nat} {n : ByteArray} (hn : NmOk n) (h : AtB s i n.data.toList) (hi : i ≤ s.size) (he : ¬ (i + n.size < s.size ∧ isNm (byt s (i + n.size)) = true)) : nmE s i = i + n.size ∧ badNm s i = false := by
  have hl : n.data.toList.length = n.size := by simp
  have hle := h.le hi
  rw [hl] at hle
  have hb : ∀ j, j < n.size → byt s (i + j) = byt n j := fun j hj => by
    have hj' : j < n.data.toList.length := by omega
    rw [(h j n.data.toList[j] (List.getElem?_eq_getElem hj')).2, ← byt_lt hj]
    rfl
  have h1 := nmE_run (s := s) (i := i) (k := n.size) hle (fun j hj => by rw [hb j hj]; exact hn.2.2.1 j hj) he
  refine ⟨h1, ?_⟩
  have h2 : isDig (byt s i) = false := by
    have := hb 0 hn.1
    rw [Nat.add_zero] at this
    rw [this]; exact hn.2.2.2
  have h3 := hn.1
  have h4 := hn.2.1
  unfold badNm
  rw [h1, h2, decide_eq_false (by omega), decide_eq_false (by omega)]
  rfl

theorem shw_first {l : List Tm} (hn : Nms l) {f n : Nat} (h : Hgt l f n) {s : ByteArray} {i : Nat} (ha : AtB s i (shw l f n)) : i < s.size ∧ isNm (byt s i) = true := by
  cases f with
  | zero => exact h.elim
  | succ f =>
    obtain ⟨t, ht, _⟩ := h
    rw [shw, ht] at ha
    have hk := hn t (List.mem_of_getElem? ht)
    have hl : 0 < t.name.data.toList.length := by simpa using hk.1
    obtain ⟨h1, h2⟩ := ha.left 0 t.name.data.toList[0] (List.getElem?_eq_getElem hl)
    rw [Nat.add_zero] at h1 h2
    refine ⟨h1, ?_⟩
    have h3 := hk.2.2.1 0 hk.1
    rw [h2]
    rw [← byt_lt hk.1] at h3
    exact h3

end Go.Proofs.YtlehlgipbhfioaaGreat

namespace Go.Proofs.YtlehlgipbhfioaaGreat
open Go.RowKit

theorem pEnd_has {l : List Tm} (hnd : l.Nodup) (hg : Good l) {n : Nat} {t : Tm} (h : l[n]? = some t) (p k : Nat) : pEnd t p k l = .ok n k l := by
  have hf : fitsB l t = true := by
    have := clash_fits hg t
    have hc : clashB l t = false := List.any_eq_false.2 fun u hu => by
      simp only [clashP, Bool.and_eq_true, decide_eq_true_eq, not_and, ne_eq, Decidable.not_not]
      intro e
      exact hg.one u hu t (List.mem_of_getElem? h) e
    rw [hc] at this
    simpa using this.symm
  have hx := nix_at hnd h
  unfold pEnd
  rw [hf]
  simp [addN, addL, hx]

/-- The text from arg k on: m more behind it, and the bracket. -/
def rst (F : Nat → List UInt8) : Nat → Nat → List UInt8
  | 0, k => F k ++ [41]
  | m + 1, k => F k ++ 44 :: rst F m (k + 1)
theorem rst_join (F : Nat → List UInt8) : ∀ m k, joinTo F (k + m + 1) ++ [41] = joinTo F k ++ ((if k = 0 then [] else [44]) ++ rst F m k)
  | 0, k => by simp [joinTo, rst]
  | m + 1, k => by
    have := rst_join F m (k + 1)
    rw [show k + (m + 1) + 1 = (k + 1) + m + 1 from by omega, this, joinTo, rst]
    simp

theorem back_args {l : List Tm} {s : ByteArray} {above : Nat} (F : Nat → List UInt8) (xs : List Nat) (h4 : xs.length ≤ 4)
    (IH : ∀ k, k < xs.length → ∀ i G, AtB s i (F k) → Stop s (i + (F k).length) → 2 * (s.size - i) + 1 ≤ G → i ≤ s.size → pTerm s G above i l = .ok (xs.getD k 0) (i + (F k).length) l)
    (hne : ∀ k, k < xs.length → ∀ i, AtB s i (F k) → i < s.size ∧ isNm (byt s i) = true) :
    ∀ (m k i G : Nat), k + m + 1 = xs.length → AtB s i (rst F m k) → i ≤ s.size → Stop s (i + (rst F m k).length) → 2 * (s.size - i) + 2 ≤ G → pArgs s G above i l (xs.take k) = .ok xs (i + (rst F m k).length) l
  | 0, k, i, G, hk, ha, hi, hst, hG => by
    obtain ⟨G, rfl⟩ : ∃ g, G = g + 1 := ⟨G - 1, by omega⟩
    have a1 : AtB s i (F k) := ha.left
    have a2 := (AtB.right (x := F k) ha).head
    obtain ⟨n1, n2⟩ := hne k (by omega) i a1
    have q : byt s (i + (F k).length) = 41 := a2.2
    have st : Stop s (i + (F k).length) := Or.inr ⟨a2.1, Or.inr q⟩
    have tm := IH k (by omega) i G a1 st (by omega) hi
    have hl : (rst F 0 k).length = (F k).length + 1 := by simp [rst]
    rw [hl] at hst ⊢
    have b41 : stands s (i + (F k).length) 41 = true := stands_true a2.1 q
    have bh : behind s (i + (F k).length) 41 = i + ((F k).length + 1) := by
      rw [behind_true b41]
      exact Stop.bl (by rwa [show i + (F k).length + 1 = i + ((F k).length + 1) from by omega])
    have hx : xs.take k ++ [xs.getD k 0] = xs := by
      have e : xs.take (k + 1) = xs := List.take_of_length_le (by omega)
      have e2 : xs.take k ++ [xs.getD k 0] = xs.take (k + 1) := by
        rw [List.take_add_one, List.getElem?_eq_getElem (by omega), List.getD_eq_getElem?_getD, List.getElem?_eq_getElem (by omega)]
        simp
      rw [e2, e]
    rw [pArgs, if_neg (by omega), if_neg (by rw [List.length_take]; omega), tm]
    simp only [b41, if_true, bh, hx]
  | m + 1, k, i, G, hk, ha, hi, hst, hG => by
    obtain ⟨G, rfl⟩ : ∃ g, G = g + 1 := ⟨G - 1, by omega⟩
    have a1 : AtB s i (F k) := ha.left
    have a2 := AtB.right (x := F k) ha
    have a3 := a2.head
    have a4 := a2.tail
    obtain ⟨n1, n2⟩ := hne k (by omega) i a1
    have q : byt s (i + (F k).length) = 44 := a3.2
    have st : Stop s (i + (F k).length) := Or.inr ⟨a3.1, Or.inl q⟩
    have tm := IH k (by omega) i G a1 st (by omega) hi
    have hl : (rst F (m + 1) k).length = (F k).length + 1 + (rst F m (k + 1)).length := by simp [rst]; omega
    have b41 : stands s (i + (F k).length) 41 = false := stands_ne (by omega)
    have b44 : stands s (i + (F k).length) 44 = true := stands_true a3.1 q
    have a5 : AtB s (i + (F k).length + 1) (F (k + 1)) := by
      cases m with
      | zero => exact a4.left
      | succ m => exact a4.left
    obtain ⟨n3, n4⟩ := hne (k + 1) (by omega) _ a5
    have bh : behind s (i + (F k).length) 44 = i + (F k).length + 1 := by
      rw [behind_true b44]
      exact bl_end fun x => isNm_not n4 x.2
    have hx : xs.take k ++ [xs.getD k 0] = xs.take (k + 1) := by
      rw [List.take_add_one, List.getElem?_eq_getElem (by omega), List.getD_eq_getElem?_getD, List.getElem?_eq_getElem (by omega)]
      simp
    have nx := back_args F xs h4 IH hne m (k + 1) (i + (F k).length + 1) G (by omega) a4 (by omega) (by rw [hl] at hst; rwa [show i + (F k).length + 1 + (rst F m (k + 1)).length = i + ((F k).length + 1 + (rst F m (k + 1)).length) from by omega]) (by omega)
    rw [pArgs, if_neg (by omega), if_neg (by rw [List.length_take]; omega), tm]
    simp only [b41, Bool.false_eq_true, if_false, b44, if_true, bh, hx]
    rw [nx, hl]
    congr 1
    omega

/-- What is shown is read as the term it shows; nothing is added. -/
theorem back {l : List Tm} (hnd : l.Nodup) (hg : Good l) (hn : Nms l) (s : ByteArray) : ∀ (f n : Nat), Hgt l f n → ∀ (above i G : Nat), above + f ≤ 13 → AtB s i (shw l f n) → Stop s (i + (shw l f n).length) → 2 * (s.size - i) + 1 ≤ G → i ≤ s.size →
    pTerm s G above i l = .ok n (i + (shw l f n).length) l
  | 0, _, h => h.elim
  | f + 1, n, h => by
    intro above i G hab ha hst hG hi
    obtain ⟨G, rfl⟩ : ∃ g, G = g + 1 := ⟨G - 1, by omega⟩
    obtain ⟨t, ht, hargs⟩ := h
    have hk := hn t (List.mem_of_getElem? ht)
    have h4 := hg.four t (List.mem_of_getElem? ht)
    have hnl : t.name.data.toList.length = t.name.size := by simp
    have hsh : shw l (f + 1) n = t.name.data.toList ++ (if t.args.length = 0 then [] else 40 :: (joinTo (fun j => shw l f (t.arg j)) t.args.length ++ [41])) := by rw [shw, ht]
    rw [hsh] at ha hst ⊢
    have a1 : AtB s i t.name.data.toList := ha.left
    have a2 := ha.right
    rw [hnl] at a2
    by_cases hz : t.args.length = 0
    · rw [if_pos hz, List.append_nil, hnl] at hst ⊢
      obtain ⟨e1, e2⟩ := name_at hk a1 hi hst.nm
      rw [pTerm, e2, e1, hst.bl, hst.open]
      simp only [Bool.false_eq_true, if_false, show ¬ 12 < above from by omega]
      rw [AtB.extract a1 hi]
      have e3 : (⟨t.name, []⟩ : Tm) = t := by
        cases t with
        | mk nm xs => simp at hz; simp [hz]
      rw [e3]
      exact pEnd_has hnd hg ht _ _
    · rw [if_neg hz] at hst a2 ⊢
      have a3 := a2.head
      have a4 := a2.tail
      obtain ⟨m, hm⟩ : ∃ m, t.args.length = 0 + m + 1 := ⟨t.args.length - 1, by omega⟩
      have hj := rst_join (fun j => shw l f (t.arg j)) m 0
      rw [← hm] at hj
      simp only [joinTo, if_true, List.nil_append] at hj
      rw [hj] at a4 hst ⊢
      have q40 : byt s (i + t.name.size) = 40 := a3.2
      have hnx : ¬ (i + t.name.size < s.size ∧ isNm (byt s (i + t.name.size)) = true) := fun x => by rw [q40] at x; exact absurd x.2 (by decide)
      obtain ⟨e1, e2⟩ := name_at hk a1 hi hnx
      have eb : bl s (i + t.name.size) = i + t.name.size := bl_end fun x => by omega
      have es : stands s (i + t.name.size) 40 = true := stands_true a3.1 q40
      have hne : ∀ k, k < t.args.length → ∀ i, AtB s i (shw l f (t.arg k)) → i < s.size ∧ isNm (byt s i) = true := fun k hk2 i hA => shw_first hn (hargs _ (arg_mem hk2)) hA
      have a5 : AtB s (i + t.name.size + 1) (shw l f (t.arg 0)) := by
        cases m with
        | zero => exact a4.left
        | succ m => exact a4.left
      obtain ⟨n1, n2⟩ := hne 0 (by omega) _ a5
      have eh : behind s (i + t.name.size) 40 = i + t.name.size + 1 := by
        rw [behind_true es]
        exact bl_end fun x => isNm_not n2 x.2
      have hlen : i + (t.name.data.toList ++ 40 :: rst (fun j => shw l f (t.arg j)) m 0).length = i + t.name.size + 1 + (rst (fun j => shw l f (t.arg j)) m 0).length := by
        rw [List.length_append, List.length_cons, hnl]
        omega
      rw [hlen] at hst ⊢
      have ar := back_args (l := l) (s := s) (above := above + 1) (fun j => shw l f (t.arg j)) t.args h4 (fun k hk2 i G hA hS hG hi => back hnd hg hn s f (t.arg k) (hargs _ (arg_mem hk2)) (above + 1) i G (by omega) hA hS hG hi) hne m 0 (i + t.name.size + 1) G (by omega) a4 (by omega) hst (by omega)
      rw [List.take_zero] at ar
      rw [pTerm, e2, e1, eb, es, eh]
      simp only [Bool.false_eq_true, if_false, show ¬ 12 < above from by omega, if_true, ar]
      rw [AtB.extract a1 hi]
      exact pEnd_has hnd hg ht _ _

end Go.Proofs.YtlehlgipbhfioaaGreat

namespace Go.Proofs.YtlehlgipbhfioaaGreat
open Go.RowKit

/-- Args come ahead. -/
def Ahd (l : List Tm) : Prop := ∀ (i : Nat) (t : Tm), l[i]? = some t → ∀ a ∈ t.args, a < i

structure Nq (l : List Tm) : Prop where
  nms : Nms l
  ahd : Ahd l

theorem Nq.add {l : List Tm} (h : Nq l) {t : Tm} (hn : NmOk t.name) (ha : ∀ a ∈ t.args, a < l.length) : Nq (addL l t) := by
  unfold addL
  cases hx : nix l t with
  | some i => exact h
  | none =>
    refine ⟨fun u hu => ?_, fun i u hi a hau => ?_⟩
    · simp only [List.mem_append, List.mem_singleton] at hu
      rcases hu with hu | rfl
      · exact h.nms u hu
      · exact hn
    · by_cases hl : i < l.length
      · rw [List.getElem?_append_left hl] at hi
        exact h.ahd i u hi a hau
      · have hlt := (List.getElem?_eq_some_iff.1 hi).1
        have e : i = l.length := by simp at hlt; omega
        subst e
        simp at hi
        subst hi
        exact ha a hau

theorem p_nq (s : ByteArray) : ∀ f : Nat,
    (∀ above i l n k l', i ≤ s.size → Nq l → pTerm s f above i l = .ok n k l' → Nq l') ∧
    (∀ above i l xs x k l', i ≤ s.size → xs.length ≤ 4 → (∀ a ∈ xs, a < l.length) → Nq l → pArgs s f above i l xs = .ok x k l' → Nq l')
  | 0 => ⟨fun _ _ _ _ _ _ _ _ e => (by rw [pTerm] at e; cases e), fun _ _ _ _ _ _ _ _ _ _ _ e => (by rw [pArgs] at e; cases e)⟩
  | f + 1 => by
    obtain ⟨IT, IA⟩ := p_nq s f
    obtain ⟨GT, GA⟩ := p_grows s f
    obtain ⟨CT, CA⟩ := p_count s f
    constructor
    · intro above i l n k l' hi hq e
      rw [pTerm] at e
      split at e
      · cases e
      · next hb =>
        have hb' : badNm s i = false := by simpa using hb
        have hnm := nm_ok hi hb'
        have h4 := bl_le (nmE_le hi)
        split at e
        · cases e
        · split at e
          · have h6 := behind_le (c := 40) h4
            split at e
            · cases e
            · next xs k2 l2 hx =>
              have A1 := IA _ _ _ _ _ _ _ h6 (by simp) (by simp) hq hx
              obtain ⟨_, _, A3⟩ := CA _ _ _ _ _ _ _ h6 (by simp) (by simp) hx
              unfold pEnd at e
              split at e
              · injection e with e1 e2 e3
                subst e3
                exact A1.add (t := ⟨s.extract i (nmE s i), xs⟩) hnm A3
              · cases e
          · unfold pEnd at e
            split at e
            · injection e with e1 e2 e3
              subst e3
              exact hq.add (t := ⟨s.extract i (nmE s i), []⟩) hnm (by simp)
            · cases e
    · intro above i l xs x k l' hi hx4 hxs hq e
      rw [pArgs] at e
      split at e
      · cases e
      · split at e
        · cases e
        · split at e
          · cases e
          · next n k2 l2 hx =>
            have A1 := IT _ _ _ _ _ _ hi hq hx
            obtain ⟨B0, B1⟩ := GT above i l hi
            obtain ⟨B2, B3⟩ := B1 n k2 l2 hx
            obtain ⟨_, C2⟩ := CT _ _ _ _ _ _ hi hx
            rw [hx] at B0
            have B4 : l.length ≤ l2.length := B0.length_le
            have hl4 : (xs ++ [n]).length ≤ 4 := by simp; omega
            have hxs2 : ∀ a ∈ xs ++ [n], a < l2.length := by
              intro a ha
              rcases List.mem_append.1 ha with ha | ha
              · exact Nat.lt_of_lt_of_le (hxs a ha) B4
              · rw [List.mem_singleton.1 ha]; exact C2
            split at e
            · injection e with e1 e2 e3
              subst e3
              exact A1
            · split at e
              · exact IA _ _ _ _ _ _ _ (behind_le B3) hl4 hxs2 A1 e
              · cases e

theorem Nq.nil : Nq [] := ⟨fun t h => by simp at h, fun i t h => by simp at h⟩
theorem Nq.read {l : List Tm} (h : Nq l) (s : ByteArray) : Nq (pRead s l).2.2.2 := by
  unfold pRead
  split
  · exact h
  · unfold pWhole
    have hb := bl_le (s := s) (i := 0) (by omega)
    split
    · exact h
    · next n k l' hx =>
      split
      · exact h
      · split
        · exact h
        · exact (p_nq s _).1 0 (bl s 0) l n k l' hb h hx

theorem AtB.whole (x : List UInt8) : AtB (bt x) 0 x := fun j u hj => by
  have hlt := (List.getElem?_eq_some_iff.1 hj).1
  rw [Nat.zero_add, bt_size, byt_bt, hj]
  exact ⟨hlt, rfl⟩

/-- Reading what is shown. -/
theorem read_back {l : List Tm} (hnd : l.Nodup) (hk : Kp l) (hq : Nq l) {n : Nat} (hn : n < l.length) (hs : (shw l 13 n).length ≤ 400) : pRead (bt (shw l 13 n)) l = (n, 0, 0, l) := by
  have hA := AtB.whole (shw l 13 n)
  have hH := hk.hs n hn
  have h1 := shw_first hq.nms hH hA
  have hb : bl (bt (shw l 13 n)) 0 = 0 := bl_end fun x => isNm_not h1.2 x.2
  have hz := bt_size (shw l 13 n)
  have tm := back hnd hk.good hq.nms (bt (shw l 13 n)) 13 n hH 0 0 (2 * (bt (shw l 13 n)).size + 1) (by omega) hA (Or.inl (by omega)) (by omega) (by omega)
  have hl := hk.len
  unfold pRead pWhole
  rw [if_neg (by omega), hb, tm]
  simp only [Nat.zero_add]
  rw [if_neg (by omega), if_neg (by omega)]
/-- No two show the same. -/
theorem shw_inj {l : List Tm} (hnd : l.Nodup) (hk : Kp l) (hq : Nq l) {n m : Nat} (hn : n < l.length) (hm : m < l.length) (hs : (shw l 13 n).length ≤ 400) (he : shw l 13 m = shw l 13 n) : m = n := by
  have h1 := read_back hnd hk hq hn hs
  have h2 := read_back hnd hk hq hm (by rw [he]; exact hs)
  rw [he, h1] at h2
  injection h2 with h3
  exact h3.symm

end Go.Proofs.YtlehlgipbhfioaaGreat

namespace Go.Proofs.YtlehlgipbhfioaaGreat
open Go.RowKit Go.Maps

/-- Blocks of other types are none of a bank's. -/
theorem Bk.apart {w : World} {base p : Nat} {ev : Value} {nb fb : Nat} {l : List Tm} (h : Bk w base p ev nb fb l) {k : Nat} {c : Array Value} {T : TypeId} {fz : Nat × Nat} (hk : w.heap[k]? = some (.cells c T fz)) (h1 : T ≠ 84) (h2 : T ≠ 152) : ¬ BFoot p ev nb fb k := by
  rintro (e | e | e | e)
  · subst e
    obtain ⟨c2, h3, _⟩ := h.bank
    rw [hk] at h3
    injection h3 with h3
    injection h3 with _ h4
    exact h1 h4
  · subst e
    obtain ⟨D, ⟨es, ck, n1, _⟩, _⟩ := h.nums
    rw [hk] at n1
    cases n1
  · subst e
    obtain ⟨D, ⟨es, ck, n1, _⟩, _⟩ := h.fsts
    rw [hk] at n1
    cases n1
  · rcases h.rows.2 with ⟨e2, _⟩ | ⟨b, cap, cur, e2, _, h3, _⟩
    · rw [e2] at e; simp [Value.ownBlock] at e
    · rw [e2] at e
      simp [Value.ownBlock] at e
      subst e
      rw [hk] at h3
      injection h3 with h3
      injection h3 with _ h4
      exact h2 h4

theorem RBk.kept {w w' : World} {base q : Nat} {av : Value} {l : List Tm} {vs : List Value} {S : Nat → Prop} (h : RBk w base q av l vs) (K : Kept S w w') (hS : ∀ k c T fz, w.heap[k]? = some (.cells c T fz) → T ≠ 84 → T ≠ 152 → ¬ S k) : RBk w' base q av l vs := by
  have rowk : ∀ {e : TypeId} {sz n : Nat} {v : Value} {xs : List Value}, e ≠ 84 → e ≠ 152 → w.ownsRow base e sz v n xs → ∀ b, v.ownBlock = some b → w'.heap[b]? = w.heap[b]? := by
    intro e sz n v xs h1 h2 hr b hb
    rcases hr.2 with ⟨e2, _⟩ | ⟨b', cap, cur, e2, _, h3, _⟩
    · rw [e2] at hb; simp [Value.ownBlock] at hb
    · rw [e2] at hb
      simp [Value.ownBlock] at hb
      subst hb
      exact K.block _ (right_lt h3) (hS _ _ _ _ h3 h1 h2)
  refine ⟨h.row.of_block ?_, h.ls.blocks (rowk (by decide) (by decide) h.ls.row) (fun u hu b hb => ?_), Nat.le_trans h.bs K.size⟩
  · obtain ⟨c, h1, _⟩ := h.row
    exact K.block q (right_lt h1) (hS _ _ _ _ h1 (by decide) (by decide))
  · obtain ⟨xs, hx⟩ := h.ls.mem hu
    exact rowk (by decide) (by decide) hx b hb

/-- Two banks and the document's. -/
structure TriR (w W : World) (p : Nat) (ev : Value) (nb fb : Nat) (l : List Tm) (p' : Nat) (ev' : Value) (nb' fb' : Nat) (lo : List Tm) (q : Nat) (av : Value) (vs : List Value) : Prop where
  b : Bk W w.heap.size p ev nb fb l
  o : Bk W w.heap.size p' ev' nb' fb' lo
  r : RBk W w.heap.size q av l vs
  dis : ∀ k, BFoot p ev nb fb k → ¬ BFoot p' ev' nb' fb' k
  kl : Kp l
  ko : Kp lo
  bel : Below w.heap.size w W
  rq : w.heap.size ≤ q

theorem Bk.foot_ge {w : World} {base p : Nat} {ev : Value} {nb fb : Nat} {l : List Tm} (h : Bk w base p ev nb fb l) {k : Nat} (hk : BFoot p ev nb fb k) : base ≤ k := by
  rcases hk with e | e | e | e
  · rw [e]; exact h.bp
  · rw [e]; exact h.bn
  · rw [e]; exact h.bf
  · exact (h.rows.lt k e).1
theorem Bk.foot_lt {w : World} {base p : Nat} {ev : Value} {nb fb : Nat} {l : List Tm} (h : Bk w base p ev nb fb l) {k : Nat} (hk : BFoot p ev nb fb k) : k < w.heap.size := by
  have L := h.low
  rcases hk with e | e | e | e
  · rw [e]; exact L.p
  · rw [e]; exact L.n
  · rw [e]; exact L.f
  · exact L.e k e
/-- A bank that another's change leaves alone. -/
theorem Bk.stays {w w' : World} {base p : Nat} {ev : Value} {nb fb : Nat} {l : List Tm} {S : Nat → Prop} (h : Bk w base p ev nb fb l) (K : Kept S w w') (hS : ∀ k, BFoot p ev nb fb k → ¬ S k) : Bk w' base p ev nb fb l :=
  h.blocks (K.block p h.low.p (hS p (Or.inl rfl))) (K.block nb h.low.n (hS nb (Or.inr (Or.inl rfl)))) (K.block fb h.low.f (hS fb (Or.inr (Or.inr (Or.inl rfl))))) (fun k e => K.block k (h.low.e k e) (hS k (Or.inr (Or.inr (Or.inr e)))))

theorem foot_new {p nb fb k : Nat} {ev ev2 : Value} {n : Nat} (h : BFoot p ev2 nb fb k) (hr : ev2.ownBlock = ev.ownBlock ∨ ∀ k, ev2.ownBlock = some k → n ≤ k) : BFoot p ev nb fb k ∨ n ≤ k := by
  rcases h with e | e | e | e
  · exact Or.inl (Or.inl e)
  · exact Or.inl (Or.inr (Or.inl e))
  · exact Or.inl (Or.inr (Or.inr (Or.inl e)))
  · rcases hr with e2 | e2
    · exact Or.inl (Or.inr (Or.inr (Or.inr (e2 ▸ e))))
    · exact Or.inr (e2 k e)

theorem TriR.readO {w W : World} {p : Nat} {ev : Value} {nb fb : Nat} {l : List Tm} {p' : Nat} {ev' : Value} {nb' fb' : Nat} {lo : List Tm} {q : Nat} {av : Value} {vs : List Value} (h : TriR w W p ev nb fb l p' ev' nb' fb' lo q av vs) (s : ByteArray) :
    Calls Tryz.prog 13 #[.pointer (some ⟨p', 0, none⟩), .string s] W fun e W' => e = .returned (.tuple #[.int .i64 ((pRead s lo).1 : Int), .int .i64 ((pRead s lo).2.1 : Int), .int .i64 ((pRead s lo).2.2.1 : Int)]) ∧ ∃ ev2, TriR w W' p ev nb fb l p' ev2 nb' fb' (pRead s lo).2.2.2 q av vs := by
  refine (tRead_in W w.heap.size p' ev' nb' fb' lo h.o h.ko.len h.bel.size s).mono ?_
  rintro e W' ⟨he, ev2, B2, K2, R2⟩
  refine ⟨he, ev2, h.b.stays K2 h.dis, B2, h.r.kept K2 (fun k c T fz hk h1 h2 => h.o.apart hk h1 h2), fun k hk hk2 => ?_, h.kl, h.ko.read s, h.bel.trans (Kept.below K2 h.bel.size (fun k e => h.o.foot_ge e)), h.rq⟩
  rcases foot_new hk2 R2 with e | e
  · exact h.dis k hk e
  · have := h.b.foot_lt hk; omega
theorem TriR.readB {w W : World} {p : Nat} {ev : Value} {nb fb : Nat} {l : List Tm} {p' : Nat} {ev' : Value} {nb' fb' : Nat} {lo : List Tm} {q : Nat} {av : Value} {vs : List Value} (h : TriR w W p ev nb fb l p' ev' nb' fb' lo q av vs) (s : ByteArray) :
    Calls Tryz.prog 13 #[.pointer (some ⟨p, 0, none⟩), .string s] W fun e W' => e = .returned (.tuple #[.int .i64 ((pRead s l).1 : Int), .int .i64 ((pRead s l).2.1 : Int), .int .i64 ((pRead s l).2.2.1 : Int)]) ∧ ∃ ev2, (Calls Tryz.prog 14 #[.pointer (some ⟨q, 0, none⟩), .string s] W' fun e W2 => e = .returned (.tuple #[.int .i64 ((pRead s l).1 : Int), .int .i64 ((pRead s l).2.1 : Int), .int .i64 ((pRead s l).2.2.1 : Int)]) ∧ ∃ av2 vs2, TriR w W2 p ev2 nb fb (pRead s l).2.2.2 p' ev' nb' fb' lo q av2 vs2) ∧ Below w.heap.size w W' := by
  refine (tRead_in W w.heap.size p ev nb fb l h.b h.kl.len h.bel.size s).mono ?_
  rintro e W' ⟨he, ev2, B2, K2, R2⟩
  have O2 := h.o.stays K2 (fun k hk e => h.dis k e hk)
  have RR := h.r.kept K2 (fun k c T fz hk h1 h2 => h.b.apart hk h1 h2)
  have bel2 := h.bel.trans (Kept.below K2 h.bel.size (fun k e => h.b.foot_ge e))
  have dis2 : ∀ k, BFoot p ev2 nb fb k → ¬ BFoot p' ev' nb' fb' k := fun k hk hk2 => by
    rcases foot_new hk R2 with e | e
    · exact h.dis k e hk2
    · have := h.o.foot_lt hk2; omega
  refine ⟨he, ev2, ?_, bel2⟩
  refine (rRead_in W' w.heap.size q av l vs RR h.kl.good h.kl.len s).mono ?_
  rintro e W2 ⟨he2, ⟨av2, vs2, R3⟩, K3⟩
  obtain ⟨cq, hq, _⟩ := RR.row
  have hqb := B2.apart hq (by decide) (by decide)
  have hqo := O2.apart hq (by decide) (by decide)
  have hql : w.heap.size ≤ q := h.rq
  exact ⟨he2, av2, vs2, ⟨B2.stays K3 (fun k hk e => hqb (e ▸ hk)), O2.stays K3 (fun k hk e => hqo (e ▸ hk)), R3, dis2, h.kl.read s, h.ko, bel2.trans (Kept.below K3 bel2.size (fun k e => e ▸ hql)), h.rq⟩⟩

theorem TriR.kept0 {w W W' : World} {p : Nat} {ev : Value} {nb fb : Nat} {l : List Tm} {p' : Nat} {ev' : Value} {nb' fb' : Nat} {lo : List Tm} {q : Nat} {av : Value} {vs : List Value} (h : TriR w W p ev nb fb l p' ev' nb' fb' lo q av vs) (K : Kept0 W W') : TriR w W' p ev nb fb l p' ev' nb' fb' lo q av vs :=
  ⟨h.b.kept0 K, h.o.kept0 K, h.r.kept K (fun _ _ _ _ _ _ _ e => e), h.dis, h.kl, h.ko, h.bel.trans (Kept.below K h.bel.size (fun _ e => e.elim)), h.rq⟩
theorem TriR.qcell {w W : World} {p : Nat} {ev : Value} {nb fb : Nat} {l : List Tm} {p' : Nat} {ev' : Value} {nb' fb' : Nat} {lo : List Tm} {q : Nat} {av : Value} {vs : List Value} (h : TriR w W p ev nb fb l p' ev' nb' fb' lo q av vs) : W.cell? ⟨q, 0, none⟩ = some av := h.r.row.cell (by omega)

/-- Texts in memory. -/
def Texts (w : World) (a : Option Addr) (ss : List ByteArray) : Prop := ss = [] ∨ ∃ b off, a = some ⟨b, off, none⟩ ∧ b < w.heap.size ∧ ∀ k s, ss[k]? = some s → w.cell? ⟨b, off + k, none⟩ = some (.string s)

/-- At the beginning. -/
theorem TriR.start (w w1 w2 : World) (p nb fb p' nb' fb' : Nat) (H1 : Bk w1 w.heap.size p (.slice none 0 0) nb fb []) (B1 : Below w.heap.size w w1) (H2 : Bk w2 w1.heap.size p' (.slice none 0 0) nb' fb' []) (B2 : Below w1.heap.size w1 w2) :
    TriR w (w2.alloc (.cells #[.slice none 0 0] 52)) p (.slice none 0 0) nb fb [] p' (.slice none 0 0) nb' fb' [] w2.heap.size (.slice none 0 0) [] := by
  have K : Kept0 w2 (w2.alloc (.cells #[.slice none 0 0] 52)) := Kept.alloc (Kept.refl _ w2) _
  have s1 := B1.size
  have s2 := B2.size
  have H2' : Bk w2 w.heap.size p' (.slice none 0 0) nb' fb' [] := ⟨H2.bank, row_base H2.rows s1, H2.nums, H2.fsts, H2.oks, H2.nodup, H2.pn, H2.pf, H2.nf, H2.ep, H2.en, H2.ef, Nat.le_trans s1 H2.bp, Nat.le_trans s1 H2.bn, Nat.le_trans s1 H2.bf, H2.small⟩
  have b12 : Below w.heap.size w w2 := B1.trans (B2.mono s1)
  refine ⟨(H1.below H1.low B2).kept0 K, H2'.kept0 K, ⟨?_, ⟨rfl, World.ownsRow_nil _ _ _ _, by simp⟩, by simp; omega⟩, fun k hk hk2 => ?_, Kp.nil, Kp.nil, b12.trans (Kept.below K b12.size (fun _ e => e.elim)), by omega⟩
  · refine World.rowIs.congr (made_row w2 #[.slice none 0 0] 52) (fun j hj => ?_)
    have : j = 0 := by simp at hj; omega
    subst this; rfl
  · have h1 := H1.foot_lt hk
    have h2 := H2.foot_ge hk2
    omega

end Go.Proofs.YtlehlgipbhfioaaGreat

namespace Go.Proofs.YtlehlgipbhfioaaGreat
open Go.RowKit Go.Maps

/-- A bank and the document's. -/
structure Duo (w W : World) (p : Nat) (ev : Value) (nb fb : Nat) (l : List Tm) (q : Nat) (av : Value) (vs : List Value) : Prop where
  b : Bk W w.heap.size p ev nb fb l
  r : RBk W w.heap.size q av l vs
  kl : Kp l
  nq : Nq l
  bel : Below w.heap.size w W
  rq : w.heap.size ≤ q

theorem Duo.read {w W : World} {p : Nat} {ev : Value} {nb fb : Nat} {l : List Tm} {q : Nat} {av : Value} {vs : List Value} (h : Duo w W p ev nb fb l q av vs) (s : ByteArray) :
    Calls Tryz.prog 13 #[.pointer (some ⟨p, 0, none⟩), .string s] W fun e W' => e = .returned (.tuple #[.int .i64 ((pRead s l).1 : Int), .int .i64 ((pRead s l).2.1 : Int), .int .i64 ((pRead s l).2.2.1 : Int)]) ∧ ∃ ev2, (Calls Tryz.prog 14 #[.pointer (some ⟨q, 0, none⟩), .string s] W' fun e W2 => e = .returned (.tuple #[.int .i64 ((pRead s l).1 : Int), .int .i64 ((pRead s l).2.1 : Int), .int .i64 ((pRead s l).2.2.1 : Int)]) ∧ ∃ av2 vs2, Duo w W2 p ev2 nb fb (pRead s l).2.2.2 q av2 vs2) ∧ Below w.heap.size w W' := by
  refine (tRead_in W w.heap.size p ev nb fb l h.b h.kl.len h.bel.size s).mono ?_
  rintro e W' ⟨he, ev2, B2, K2, R2⟩
  have RR := h.r.kept K2 (fun k c T fz hk h1 h2 => h.b.apart hk h1 h2)
  have bel2 := h.bel.trans (Kept.below K2 h.bel.size (fun k e => h.b.foot_ge e))
  refine ⟨he, ev2, ?_, bel2⟩
  refine (rRead_in W' w.heap.size q av l vs RR h.kl.good h.kl.len s).mono ?_
  rintro e W2 ⟨he2, ⟨av2, vs2, R3⟩, K3⟩
  obtain ⟨cq, hq, _⟩ := RR.row
  have hqb := B2.apart hq (by decide) (by decide)
  exact ⟨he2, av2, vs2, ⟨B2.stays K3 (fun k hk e => hqb (e ▸ hk)), R3, h.kl.read s, h.nq.read s, bel2.trans (Kept.below K3 bel2.size (fun k e => e ▸ h.rq)), h.rq⟩⟩

theorem Duo.start (w w1 : World) (p nb fb : Nat) (H1 : Bk w1 w.heap.size p (.slice none 0 0) nb fb []) (B1 : Below w.heap.size w w1) :
    Duo w (w1.alloc (.cells #[.slice none 0 0] 52)) p (.slice none 0 0) nb fb [] w1.heap.size (.slice none 0 0) [] := by
  have K : Kept0 w1 (w1.alloc (.cells #[.slice none 0 0] 52)) := Kept.alloc (Kept.refl _ w1) _
  have s1 := B1.size
  refine ⟨H1.kept0 K, ⟨?_, ⟨rfl, World.ownsRow_nil _ _ _ _, by simp⟩, by simp; omega⟩, Kp.nil, Nq.nil, B1.trans (Kept.below K B1.size (fun _ e => e.elim)), by omega⟩
  refine World.rowIs.congr (made_row w1 #[.slice none 0 0] 52) (fun j hj => ?_)
  have : j = 0 := by simp at hj; omega
  subst this; rfl

end Go.Proofs.YtlehlgipbhfioaaGreat

namespace Go.Proofs.YtlehlgipbhfioaaGreat
open Go.RowKit Go.Maps

theorem Duo.bd {w W : World} {p : Nat} {ev : Value} {nb fb : Nat} {l : List Tm} {q : Nat} {av : Value} {vs : List Value} (h : Duo w W p ev nb fb l q av vs) : Cc.Bd l :=
  ⟨fun n t ht a ha => by have h1 := h.nq.ahd n t ht a ha; have h2 := (List.getElem?_eq_some_iff.1 ht).1; omega, h.kl.good.four, h.kl.good.one, h.b.nodup⟩

theorem Duo.kept0 {w W W' : World} {p : Nat} {ev : Value} {nb fb : Nat} {l : List Tm} {q : Nat} {av : Value} {vs : List Value} (h : Duo w W p ev nb fb l q av vs) (K : Kept0 W W') : Duo w W' p ev nb fb l q av vs :=
  ⟨h.b.kept0 K, h.r.kept K (fun _ _ _ _ _ _ _ e => e), h.kl, h.nq, h.bel.trans (Kept.below K h.bel.size (fun _ e => e.elim)), h.rq⟩

set_option maxHeartbeats 2000000 in
set_option maxRecDepth 100000 in
theorem load_in (w : World) (a : Option Addr) (cp : Nat) (ss : List ByteArray) (hT : Texts w a ss) (hm : ss.length ≤ maxLen) :
    Calls Tryz.prog 4 #[.slice a ss.length cp] w fun e w' => ∃ p ev nb fb l q av vs, e = .returned (.tuple #[.pointer (some ⟨p, 0, none⟩), av]) ∧ Duo w w' p ev nb fb l q av vs := by
  unfold maxLen at hm
  have NEW1 := tNew_any w
  go_enter Tryz.func4, Tryz.ntmps4
  go_wp2_with (first | (go_at_call 12; refine NEW1.mono ?_; rintro e w1 ⟨p, nb, fb, rfl, H1, B1⟩; have T0 := Duo.start w w1 p nb fb H1 B1))
  clear NEW1 H1 B1
  generalize w1.alloc (.cells #[.slice none 0 0] 52) = w3 at T0 ⊢
  generalize w1.heap.size = q at T0 ⊢
  go_loopw [6] (fun t6 W => ∃ k : Nat, k ≤ ss.length ∧ t6 = .int .i64 (k : Int) ∧ ∃ ev l av vs, Duo w W p ev nb fb l q av vs) (fun t6 _ => ss.length - (intOf t6).toNat)
  case atStart => exact ⟨0, by omega, rfl, _, _, _, _, T0⟩
  case round =>
    clear T0
    obtain ⟨k, hk, rfl, ev, l, av, vs, T⟩ := hrel
    by_cases hk2 : k < ss.length
    · have dk : decide ((k : Int) < (ss.length : Int)) = true := decide_eq_true (by omega)
      rcases hT with e | ⟨b, off, rfl, hb, hc⟩
      · rw [e] at hk2; simp at hk2
      · have hs : ss[k]? = some ss[k] := List.getElem?_eq_getElem hk2
        have ck := hc k _ hs
        generalize ss[k] = s at ck hs
        have c1 := (T.bel.cell (p := ⟨b, off + k, none⟩) hb).trans ck
        have RB := T.read s
        go_wp2_with (first | (go_at_call 13; refine RB.mono ?_; rintro e w5 ⟨rfl, ev5, RR, bel5⟩; have c5 := (bel5.cell (p := ⟨b, off + k, none⟩) hb).trans ck) | (go_at_call 14; refine RR.mono ?_; rintro e w6 ⟨rfl, av6, vs6, T6⟩))
        exact ⟨⟨k + 1, by omega, by simp, _, _, _, _, T6⟩, by simp [intOf]; omega⟩
    · have dk : decide ((k : Int) < (ss.length : Int)) = false := decide_eq_false (by omega)
      have qc : wr.cell? ⟨q, 0, none⟩ = some av := T.r.row.cell (by omega)
      obtain ⟨aa, ac, hav⟩ := T.r.ls.form
      subst hav
      go_wp2_with fail
      go_quiet (fail)
      go_wp2_with fail
      go_ret2
      exact ⟨p, ev, nb, fb, l, q, _, vs, rfl, T.kept0 ((Kept.refl _ wr).drewN nq)⟩

/-- f(f(f(f(f(a))))) -/
def tx5 : ByteArray := ⟨#[102, 40, 102, 40, 102, 40, 102, 40, 102, 40, 97, 41, 41, 41, 41, 41]⟩
def tf (k : Nat) : Tm := ⟨⟨#[102]⟩, [k]⟩
theorem t5_n0 : nmE tx5 0 = 1 := by rw [nmE_at (by decide) (by decide), nmE_end (by decide)]
theorem t5_w0 : badNm tx5 0 = false := by simp only [badNm, t5_n0]; decide
theorem t5_n2 : nmE tx5 2 = 3 := by rw [nmE_at (by decide) (by decide), nmE_end (by decide)]
theorem t5_w2 : badNm tx5 2 = false := by simp only [badNm, t5_n2]; decide
theorem t5_n4 : nmE tx5 4 = 5 := by rw [nmE_at (by decide) (by decide), nmE_end (by decide)]
theorem t5_w4 : badNm tx5 4 = false := by simp only [badNm, t5_n4]; decide
theorem t5_n6 : nmE tx5 6 = 7 := by rw [nmE_at (by decide) (by decide), nmE_end (by decide)]
theorem t5_w6 : badNm tx5 6 = false := by simp only [badNm, t5_n6]; decide
theorem t5_n8 : nmE tx5 8 = 9 := by rw [nmE_at (by decide) (by decide), nmE_end (by decide)]
theorem t5_w8 : badNm tx5 8 = false := by simp only [badNm, t5_n8]; decide
theorem t5_n10 : nmE tx5 10 = 11 := by rw [nmE_at (by decide) (by decide), nmE_end (by decide)]
theorem t5_w10 : badNm tx5 10 = false := by simp only [badNm, t5_n10]; decide
theorem t5_b0 : bl tx5 0 = 0 := bl_end (by decide)
theorem t5_b1 : bl tx5 1 = 1 := bl_end (by decide)
theorem t5_b2 : bl tx5 2 = 2 := bl_end (by decide)
theorem t5_b3 : bl tx5 3 = 3 := bl_end (by decide)
theorem t5_b4 : bl tx5 4 = 4 := bl_end (by decide)
theorem t5_b5 : bl tx5 5 = 5 := bl_end (by decide)
theorem t5_b6 : bl tx5 6 = 6 := bl_end (by decide)
theorem t5_b7 : bl tx5 7 = 7 := bl_end (by decide)
theorem t5_b8 : bl tx5 8 = 8 := bl_end (by decide)
theorem t5_b9 : bl tx5 9 = 9 := bl_end (by decide)
theorem t5_b10 : bl tx5 10 = 10 := bl_end (by decide)
theorem t5_b11 : bl tx5 11 = 11 := bl_end (by decide)
theorem t5_b12 : bl tx5 12 = 12 := bl_end (by decide)
theorem t5_b13 : bl tx5 13 = 13 := bl_end (by decide)
theorem t5_b14 : bl tx5 14 = 14 := bl_end (by decide)
theorem t5_b15 : bl tx5 15 = 15 := bl_end (by decide)
theorem t5_b16 : bl tx5 16 = 16 := bl_end (by decide)
theorem t5_o1 : behind tx5 1 40 = 2 := by rw [behind_true (by decide)]; exact t5_b2
theorem t5_o3 : behind tx5 3 40 = 4 := by rw [behind_true (by decide)]; exact t5_b4
theorem t5_o5 : behind tx5 5 40 = 6 := by rw [behind_true (by decide)]; exact t5_b6
theorem t5_o7 : behind tx5 7 40 = 8 := by rw [behind_true (by decide)]; exact t5_b8
theorem t5_o9 : behind tx5 9 40 = 10 := by rw [behind_true (by decide)]; exact t5_b10
theorem t5_c11 : behind tx5 11 41 = 12 := by rw [behind_true (by decide)]; exact t5_b12
theorem t5_c12 : behind tx5 12 41 = 13 := by rw [behind_true (by decide)]; exact t5_b13
theorem t5_c13 : behind tx5 13 41 = 14 := by rw [behind_true (by decide)]; exact t5_b14
theorem t5_c14 : behind tx5 14 41 = 15 := by rw [behind_true (by decide)]; exact t5_b15
theorem t5_c15 : behind tx5 15 41 = 16 := by rw [behind_true (by decide)]; exact t5_b16
theorem t5_10 (f d : Nat) (hd : ¬ 12 < d) : pTerm tx5 (f + 1) d 10 [] = .ok 0 11 [tA] := by
  rw [pTerm, t5_w10, t5_n10, t5_b11]
  simp only [Bool.false_eq_true, if_false, hd, show stands tx5 11 40 = false from by decide]
  rfl
theorem t5_8 (f d : Nat) (hd : ¬ 11 < d) : pTerm tx5 (f + 3) d 8 [] = .ok 1 12 [tA, tf 0] := by
  rw [pTerm, t5_w8, t5_n8, t5_b9, t5_o9]
  simp only [Bool.false_eq_true, if_false, show ¬ 12 < d from by omega, show stands tx5 9 40 = true from by decide, if_true]
  rw [pArgs, if_neg (by decide), if_neg (by decide), t5_10 f (d + 1) (by omega)]
  simp only [show stands tx5 11 41 = true from by decide, if_true, t5_c11]
  rfl
theorem t5_6 (f d : Nat) (hd : ¬ 10 < d) : pTerm tx5 (f + 5) d 6 [] = .ok 2 13 [tA, tf 0, tf 1] := by
  rw [pTerm, t5_w6, t5_n6, t5_b7, t5_o7]
  simp only [Bool.false_eq_true, if_false, show ¬ 12 < d from by omega, show stands tx5 7 40 = true from by decide, if_true]
  rw [pArgs, if_neg (by decide), if_neg (by decide), t5_8 f (d + 1) (by omega)]
  simp only [show stands tx5 12 41 = true from by decide, if_true, t5_c12]
  rfl
theorem t5_4 (f d : Nat) (hd : ¬ 9 < d) : pTerm tx5 (f + 7) d 4 [] = .ok 3 14 [tA, tf 0, tf 1, tf 2] := by
  rw [pTerm, t5_w4, t5_n4, t5_b5, t5_o5]
  simp only [Bool.false_eq_true, if_false, show ¬ 12 < d from by omega, show stands tx5 5 40 = true from by decide, if_true]
  rw [pArgs, if_neg (by decide), if_neg (by decide), t5_6 f (d + 1) (by omega)]
  simp only [show stands tx5 13 41 = true from by decide, if_true, t5_c13]
  rfl
theorem t5_2 (f d : Nat) (hd : ¬ 8 < d) : pTerm tx5 (f + 9) d 2 [] = .ok 4 15 [tA, tf 0, tf 1, tf 2, tf 3] := by
  rw [pTerm, t5_w2, t5_n2, t5_b3, t5_o3]
  simp only [Bool.false_eq_true, if_false, show ¬ 12 < d from by omega, show stands tx5 3 40 = true from by decide, if_true]
  rw [pArgs, if_neg (by decide), if_neg (by decide), t5_4 f (d + 1) (by omega)]
  simp only [show stands tx5 14 41 = true from by decide, if_true, t5_c14]
  rfl
theorem t5_0 (f d : Nat) (hd : ¬ 7 < d) : pTerm tx5 (f + 11) d 0 [] = .ok 5 16 [tA, tf 0, tf 1, tf 2, tf 3, tf 4] := by
  rw [pTerm, t5_w0, t5_n0, t5_b1, t5_o1]
  simp only [Bool.false_eq_true, if_false, show ¬ 12 < d from by omega, show stands tx5 1 40 = true from by decide, if_true]
  rw [pArgs, if_neg (by decide), if_neg (by decide), t5_2 f (d + 1) (by omega)]
  simp only [show stands tx5 15 41 = true from by decide, if_true, t5_c15]
  rfl
def l6 : List Tm := [tA, tf 0, tf 1, tf 2, tf 3, tf 4]
theorem t5_read : pRead tx5 [] = (5, 0, 0, l6) := by
  rw [pRead, if_neg (by decide), pWhole, t5_b0, show 2 * tx5.size + 1 = 22 + 11 from rfl, t5_0 22 0 (by omega)]
  rfl

theorem l6_no : ∀ i j, Cc.Cg l6 [(3, 0)] i j → i % 3 = j % 3 := by
  intro i j h
  induction h with
  | told hm _ _ => simp at hm; omega
  | refl _ => rfl
  | symm _ ih => exact ih.symm
  | trans _ _ i1 i2 => exact i1.trans i2
  | @cong i j t u h1 h2 h3 h4 _ ih =>
    have hi : i < 6 := (List.getElem?_eq_some_iff.1 h1).1
    have hj : j < 6 := (List.getElem?_eq_some_iff.1 h2).1
    have key : ∀ n v, n < 6 → l6[n]? = some v → (n = 0 ∧ v = tA) ∨ ∃ k, n = k + 1 ∧ v = tf k := by
      intro n v hn hv
      rcases (by omega : n = 0 ∨ n = 1 ∨ n = 2 ∨ n = 3 ∨ n = 4 ∨ n = 5) with rfl | rfl | rfl | rfl | rfl | rfl <;> simp [l6] at hv <;> subst hv
      · exact .inl ⟨rfl, rfl⟩
      · exact .inr ⟨0, rfl, rfl⟩
      · exact .inr ⟨1, rfl, rfl⟩
      · exact .inr ⟨2, rfl, rfl⟩
      · exact .inr ⟨3, rfl, rfl⟩
      · exact .inr ⟨4, rfl, rfl⟩
    rcases key i t hi h1 with ⟨rfl, rfl⟩ | ⟨k, rfl, rfl⟩ <;> rcases key j u hj h2 with ⟨rfl, rfl⟩ | ⟨m, rfl, rfl⟩
    · rfl
    · exact absurd h3 (by simp [tA, tf])
    · exact absurd h3 (by simp [tA, tf])
    · have := ih 0 k m rfl rfl
      omega
theorem l6_yes : Cc.Cg l6 [(3, 0), (5, 0)] 1 0 := by
  have c : ∀ {x y : Nat}, x < 5 → y < 5 → Cc.Cg l6 [(3, 0), (5, 0)] x y → Cc.Cg l6 [(3, 0), (5, 0)] (x + 1) (y + 1) := by
    intro x y hx hy h
    have g : ∀ n, n < 5 → l6[n + 1]? = some (tf n) := fun n hn => by
      rcases (by omega : n = 0 ∨ n = 1 ∨ n = 2 ∨ n = 3 ∨ n = 4) with rfl | rfl | rfl | rfl | rfl <;> rfl
    refine .cong (g x hx) (g y hy) rfl rfl (fun k a b ha hb => ?_)
    cases k with
    | zero => simp [tf] at ha hb; subst ha hb; exact h
    | succ k => simp [tf] at ha
  have h30 : Cc.Cg l6 [(3, 0), (5, 0)] 3 0 := .told (by simp) (by decide) (by decide)
  have h50 : Cc.Cg l6 [(3, 0), (5, 0)] 5 0 := .told (by simp) (by decide) (by decide)
  have h41 := c (by omega) (by omega) h30
  have h52 := c (by omega) (by omega) h41
  have h20 := h52.symm.trans h50
  have h31 := c (by omega) (by omega) h20
  exact h31.symm.trans h30

end Go.Proofs.YtlehlgipbhfioaaGreat

namespace Go.Proofs.YtlehlgipbhfioaaGreat
open Go.RowKit Go.Maps

theorem row_baseK {w : World} {B B' : Nat} {e : TypeId} {k n : Nat} {v : Value} {xs : List Value} (h : w.ownsRow B e k v n xs) (hb : B' ≤ B) : w.ownsRow B' e k v n xs := by
  refine ⟨h.1, ?_⟩
  rcases h.2 with x | ⟨b, cap, cur, e1, e2, e3⟩
  · exact Or.inl x
  · exact Or.inr ⟨b, cap, cur, e1, Nat.le_trans hb e2, e3⟩

theorem Un.same {w : World} {base : Nat} {l : List Tm} {z : Zs} {P : List (Nat × Nat)} (h : Un w base l z P [] []) {i j : Nat} (hi : i < l.length) (hj : j < l.length) : (sameB l.length z.g (i : Int) (j : Int) = true) ↔ Cc.Cg l P i j := by
  rw [← h.inv.fin hi hj]
  simp only [sameB, inB_nat hi, inB_nat hj, Bool.true_and, Int.toNat_natCast, decide_eq_true_eq]
  exact ⟨lo_of_rt, rt_of_lo h.cz.ok hi hj⟩

theorem Un.base {w : World} {base base' : Nat} {l : List Tm} {z : Zs} {P todo : List (Nat × Nat)} {pend : List Nat} (h : Un w base l z P todo pend) (hb : base' ≤ base) : Un w base' l z P todo pend := by
  have C := h.cz
  have L := C.sets.lies
  exact ⟨⟨C.cls, ⟨⟨L.sets, L.nodes, row_baseK L.joins hb, L.ne, L.jp, L.jn, Nat.le_trans hb L.bp, Nat.le_trans hb L.bn, L.small⟩, C.sets.hist, Nat.le_trans hb C.sets.low⟩, C.terms, C.uses, C.known, row_baseK C.back hb, C.sat, fun x hx => ⟨Nat.le_trans hb (C.far x hx).1, (C.far x hx).2⟩, C.argsAt, C.usesAt, C.bd, C.oks, C.len, Nat.le_trans hb C.bp, Nat.le_trans hb C.bt, Nat.le_trans hb C.bu, Nat.le_trans hb C.bm⟩, h.inv, h.ms, h.bs, h.td, Nat.le_trans hb h.low⟩
theorem Cl.base {w : World} {base base' : Nat} {l : List Tm} {c : Ks} {P : List (Nat × Nat)} (h : Cl w base l c P) (hb : base' ≤ base) : Cl w base' l c P :=
  ⟨h.clo, row_baseK h.told hb, h.un.base hb, h.farP, h.farT, Nat.le_trans hb h.bp, h.num⟩

theorem Cl.foot_ge {w : World} {base : Nat} {l : List Tm} {c : Ks} {P : List (Nat × Nat)} (h : Cl w base l c P) {k : Nat} (hk : c.Foot k) : base ≤ k := h.all_ge hk.all

end Go.Proofs.YtlehlgipbhfioaaGreat

namespace Go.Proofs.YtlehlgipbhfioaaGreat
open Go.RowKit Go.Maps

theorem l6_bd : Cc.Bd l6 ∧ Kp l6 := by
  have hK : Kp l6 := by have := Kp.nil.read tx5; rw [t5_read] at this; exact this
  have hN : Nq l6 := by have := Nq.nil.read tx5; rw [t5_read] at this; exact this
  refine ⟨⟨fun n t ht a ha => ?_, hK.good.four, hK.good.one, by decide⟩, hK⟩
  have h1 := hN.ahd n t ht a ha
  have h2 := (List.getElem?_eq_some_iff.1 ht).1
  omega


/-- Two closures of one list. -/
structure Cd (w W : World) (l : List Tm) (c d : Ks) (P Q : List (Nat × Nat)) : Prop where
  cl : Cl W w.heap.size l c P
  dl : Cl W w.heap.size l d Q
  dis : ∀ k, c.All k → ¬ d.All k
  bel : Below w.heap.size w W

theorem Cd.swap {w W : World} {l : List Tm} {c d : Ks} {P Q : List (Nat × Nat)} (h : Cd w W l c d P Q) : Cd w W l d c Q P := ⟨h.dl, h.cl, fun k hk hk2 => h.dis k hk2 hk, h.bel⟩
theorem Cd.kept0 {w W W' : World} {l : List Tm} {c d : Ks} {P Q : List (Nat × Nat)} (h : Cd w W l c d P Q) (K : Kept0 W W') : Cd w W' l c d P Q := ⟨h.cl.kept0 K, h.dl.kept0 K, h.dis, h.bel.trans (Kept.below K h.bel.size (fun _ e => e.elim))⟩
theorem Cd.merge {w W : World} {l : List Tm} {c d : Ks} {P Q : List (Nat × Nat)} (h : Cd w W l c d P Q) (a b : Int) (hn : (P.length + 1) * 8 ≤ 140737488355328) :
    Calls Tryz.prog 7 #[.pointer (some ⟨c.pc, 0, none⟩), .int .i64 a, .int .i64 b] W fun e W' => e = .returned (.int .i64 (mergeE l a b)) ∧ ∃ c' : Ks, c'.pc = c.pc ∧ Cd w W' l c' d (mergeP l P a b) Q ∧ Kept (fun k => w.heap.size ≤ k ∧ ¬ d.All k) W W' := by
  refine (kMerge_in W w.heap.size l c P h.cl a b hn).mono ?_
  rintro e W' ⟨he, c', C', K, hp, hA⟩
  refine ⟨he, c', hp, ⟨C', h.dl.keep K (fun k hk hf => h.dis k hf.all hk), fun k hk hk2 => ?_, h.bel.trans (Kept.below K h.bel.size (fun k hk => h.cl.foot_ge hk))⟩, Kept.mono K (fun k _ hk => ⟨h.cl.foot_ge hk, h.dis k hk.all⟩)⟩
  rcases hA k hk with e | e
  · exact h.dis k e hk2
  · have := h.dl.all_lt hk2; omega

end Go.Proofs.YtlehlgipbhfioaaGreat

namespace Go.Proofs.YtlehlgipbhfioaaGreat
open Go.RowKit Go.Maps

/-- A script in memory: kind, a, b. -/
def Scr (w : World) (a : Option Addr) (ops : List (Int × Int × Int)) : Prop := ∀ (k : Nat) (x : Int × Int × Int), ops[k]? = some x → ∃ b off, a = some ⟨b, off, none⟩ ∧ b < w.heap.size ∧ w.cell? ⟨b, off + k * 3, none⟩ = some (.int .i64 x.1) ∧
  w.cell? ⟨b, off + k * 3 + 1, none⟩ = some (.int .i64 x.2.1) ∧ w.cell? ⟨b, off + k * 3 + 2, none⟩ = some (.int .i64 x.2.2)

/-- All pairs of a script are told. -/
def tellAll (l : List Tm) (P : List (Nat × Nat)) (xs : List (Int × Int)) : List (Nat × Nat) := xs.foldl (fun P x => mergeP l P x.1 x.2) P
theorem tellAll_snoc (l : List Tm) (P : List (Nat × Nat)) (xs : List (Int × Int)) (x : Int × Int) : tellAll l P (xs ++ [x]) = mergeP l (tellAll l P xs) x.1 x.2 := by simp [tellAll]
theorem mergeP_mem {l : List Tm} {P : List (Nat × Nat)} {a b : Int} {p : Nat × Nat} : p ∈ mergeP l P a b ↔ p ∈ P ∨ (inB l.length a = true ∧ inB l.length b = true ∧ p = (a.toNat, b.toNat)) := by
  unfold mergeP
  cases h : inB l.length a && inB l.length b
  · have : ¬ (inB l.length a = true ∧ inB l.length b = true) := by rw [← Bool.and_eq_true, h]; decide
    simp only [Bool.false_eq_true, if_false]
    constructor
    · exact .inl
    · rintro (x | ⟨x1, x2, _⟩)
      · exact x
      · exact absurd ⟨x1, x2⟩ this
  · rw [Bool.and_eq_true] at h
    simp [h.1, h.2]
theorem tellAll_mem {l : List Tm} {xs : List (Int × Int)} : ∀ {P : List (Nat × Nat)} {p : Nat × Nat}, p ∈ tellAll l P xs ↔ p ∈ P ∨ ∃ x ∈ xs, inB l.length x.1 = true ∧ inB l.length x.2 = true ∧ p = (x.1.toNat, x.2.toNat) := by
  induction xs with
  | nil => intro P p; simp [tellAll]
  | cons x xs ih =>
    intro P p
    have h1 : tellAll l P (x :: xs) = tellAll l (mergeP l P x.1 x.2) xs := rfl
    rw [h1, ih, mergeP_mem]
    constructor
    · rintro ((h | h) | ⟨y, hy, h⟩)
      · exact .inl h
      · exact .inr ⟨x, by simp, h⟩
      · exact .inr ⟨y, by simp [hy], h⟩
    · rintro (h | ⟨y, hy, h⟩)
      · exact .inl (.inl h)
      · rcases List.mem_cons.1 hy with rfl | hy
        · exact .inl (.inr h)
        · exact .inr ⟨y, hy, h⟩
theorem mergeP_len (l : List Tm) (P : List (Nat × Nat)) (a b : Int) : (mergeP l P a b).length ≤ P.length + 1 := by
  unfold mergeP
  split <;> simp
def prs (ops : List (Int × Int × Int)) : List (Int × Int) := ops.map fun x => (x.2.1, x.2.2)
/-- Both ways, from the last on. -/
def rvs (ops : List (Int × Int × Int)) : List (Int × Int) := ops.reverse.flatMap fun x => [(x.2.2, x.2.1), (x.2.1, x.2.2)]

theorem order_cg (l : List Tm) (ops : List (Int × Int × Int)) (i j : Nat) : Cc.Cg l (tellAll l [] (prs ops)) i j ↔ Cc.Cg l (tellAll l [] (rvs ops)) i j := by
  constructor
  · refine Cc.Cg.mono (fun a b hm ha hb => ?_)
    refine .told ?_ ha hb
    rw [tellAll_mem] at hm ⊢
    rcases hm with hm | ⟨x, hx, h1, h2, h3⟩
    · cases hm
    · obtain ⟨y, hy, rfl⟩ := List.mem_map.1 hx
      exact .inr ⟨_, List.mem_flatMap.2 ⟨y, by simpa using hy, by simp⟩, h1, h2, h3⟩
  · refine Cc.Cg.mono (fun a b hm ha hb => ?_)
    rw [tellAll_mem] at hm
    rcases hm with hm | ⟨x, hx, h1, h2, h3⟩
    · cases hm
    · obtain ⟨y, hy, hx⟩ := List.mem_flatMap.1 hx
      simp at hy hx
      obtain ⟨ea, eb⟩ := Prod.mk.inj h3
      rcases hx with rfl | rfl
      · refine .symm (.told ?_ hb ha)
        rw [tellAll_mem]
        exact .inr ⟨(y.2.1, y.2.2), List.mem_map.2 ⟨y, hy, rfl⟩, h2, h1, by rw [ea, eb]⟩
      · refine .told ?_ ha hb
        rw [tellAll_mem]
        exact .inr ⟨(y.2.1, y.2.2), List.mem_map.2 ⟨y, hy, rfl⟩, h1, h2, by rw [ea, eb]⟩

theorem rvs_step (ops : List (Int × Int × Int)) {k : Nat} {x : Int × Int × Int} (hx : ops[k]? = some x) : rvs (ops.drop k) = rvs (ops.drop (k + 1)) ++ [(x.2.2, x.2.1), (x.2.1, x.2.2)] := by
  have hk := (List.getElem?_eq_some_iff.1 hx)
  have : ops.drop k = x :: ops.drop (k + 1) := by rw [List.drop_eq_getElem_cons hk.1, hk.2]
  rw [this]
  simp [rvs]
theorem prs_step (ops : List (Int × Int × Int)) {k : Nat} {x : Int × Int × Int} (hx : ops[k]? = some x) : prs (ops.take (k + 1)) = prs (ops.take k) ++ [(x.2.1, x.2.2)] := by
  unfold prs
  rw [List.take_add_one, hx]
  simp

end Go.Proofs.YtlehlgipbhfioaaGreat

namespace Go.Proofs.YtlehlgipbhfioaaGreat
open Go.RowKit Go.Maps

set_option maxRecDepth 100000 in
set_option maxHeartbeats 1000000 in
theorem closed_in (w : World) (base p : Nat) (ev : Value) (nb fb : Nat) (l : List Tm) (h : Bk w base p ev nb fb l) (hb : Cc.Bd l) (hl : l.length ≤ 150) (pb : Nat) (c0 : w.cell? ⟨pb, 0, none⟩ = some (.pointer (some ⟨p, 0, none⟩))) (pa : Option Addr) (pc : Nat) (ps : List Pr) (hp : PsAt w (.slice pa ps.length pc) ps) (hin : ∀ q ∈ ps, q.1 < l.length ∧ q.2 < l.length) (hn : ps.length ≤ 1000000) :
    Calls Tryz.prog 47 #[.pointer (some ⟨pb, 0, none⟩), .slice pa ps.length pc] w fun e w' => ∃ (g : Nat → Nat) (b : Nat), e = .returned (.slice (some ⟨b, 0, none⟩) l.length l.length) ∧ w.heap.size ≤ b ∧ w'.rowIs b 3 l.length (fun i => .int .i64 (g i : Int)) ∧ (∀ i j, i < l.length → j < l.length → (g i = g j ↔ Cc.Cg l ps i j)) ∧ Below w.heap.size w w' := by
  have KN := kNew_in w base p ev nb fb l h hb hl
  have HP : Hid (∀ W : World, Below w.heap.size w W → ∀ (j : Nat) (p : Pr), ps[j]? = some p → ∃ b off, pa = some ⟨b, off, none⟩ ∧ W.cell? ⟨b, off + j * 2, none⟩ = some (.int .i64 (p.1 : Int)) ∧ W.cell? ⟨b, off + j * 2 + 1, none⟩ = some (.int .i64 (p.2 : Int))) := fun W K j p hj => by
    obtain ⟨a, c, e, h⟩ := hp.below K
    simp only [Value.slice.injEq, true_and] at e
    obtain ⟨rfl, rfl⟩ := e
    rcases h with e | ⟨b, off, rfl, h⟩
    · rw [e] at hj; simp at hj
    · exact ⟨b, off, rfl, h j p hj⟩
  have HIN : Hid _ := hin
  obtain ⟨n, hN⟩ : ∃ n, ps.length = n := ⟨_, rfl⟩
  rw [hN] at hn ⊢
  have HN : Hid _ := hN
  clear h hb hp hin hN
  go_enter Tryz.func47, Tryz.ntmps47
  go_wp2_with (first | (go_at_call 5; refine KN.mono ?_; rintro e w1 ⟨c, rfl, HC, K1⟩))
  have HI0 : Hid (∃ c' : Ks, c'.pc = c.pc ∧ Cl w1 w.heap.size l c' (ps.take 0) ∧ Below w.heap.size w w1) := ⟨c, rfl, by simpa using HC, Kept.below K1 (Nat.le_refl _) (fun _ e => e.elim)⟩
  clear KN HC K1 c0
  generalize c.pc = q at *
  go_loopw [15] (fun t15 W => ∃ i : Nat, i ≤ n ∧ t15 = .int .i64 (i : Int) ∧ Hid (∃ c' : Ks, c'.pc = q ∧ Cl W w.heap.size l c' (ps.take i) ∧ Below w.heap.size w W)) (fun t15 _ => n - (intOf t15).toNat)
  case atStart => exact ⟨0, Nat.zero_le _, rfl, HI0⟩
  case round =>
    obtain ⟨i, hi, rfl, HJ⟩ := hrel
    clear HI0
    by_cases hlt : i < n
    · have di : decide ((i : Int) < (n : Int)) = true := decide_eq_true (by omega)
      have hwi : IntKind.i64.wrap ((i : Int) + 1) = (i : Int) + 1 := wrap_nat1 (by omega)
      have hil : i < ps.length := by rw [HN.out]; exact hlt
      obtain ⟨c', hq, HC, HB⟩ := HJ.out
      obtain ⟨b, off, rfl, q1, q2⟩ := HP.out wr HB i _ (List.getElem?_eq_getElem hil)
      have hx := HIN.out _ (List.getElem_mem hil)
      have HS : Hid (ps.take (i + 1) = ps.take i ++ [ps[i]]) := by
        show _ = _
        rw [List.take_add_one, List.getElem?_eq_getElem hil, Option.toList_some]
      have hlen : (ps.take i).length = i := by simp; omega
      generalize ps[i] = x at *
      obtain ⟨x1, x2⟩ := x
      have HC2 := HC.kept0 (Kept.alloc (Kept.refl _ wr) (.cells #[.int .i64 (x1 : Int), .int .i64 (x2 : Int)] 34))
      have HB2 : Hid (Below w.heap.size w (wr.alloc (.cells #[.int .i64 (x1 : Int), .int .i64 (x2 : Int)] 34))) := HB.trans ((Below.refl _ _).alloc HB.size _)
      have KM := kMerge_yes _ w.heap.size l c' (ps.take i) HC2 x1 x2 hx.1 hx.2 (by rw [hlen]; omega)
      rw [hq, ← HS.out] at KM
      have HK : Hid (∀ k, c'.Foot k → w.heap.size ≤ k) := fun k hk => HC.foot_ge hk
      have HQ : Hid _ := hq
      clear HJ HC HC2 HB HS hlen hx hq HP HIN
      go_wp2_with (first | (go_at_call 7; refine KM.mono ?_; rintro e w3 ⟨rfl, c3, HC3, K3, hq3, -, -, -⟩))
      refine ⟨⟨i + 1, hlt, by simp, ⟨c3, hq3, HC3, HB2.out.trans (Kept.below K3 HB2.out.size (fun k hk => HK.out k hk))⟩⟩, by simp [intOf]; omega⟩
    · have di : decide ((i : Int) < (n : Int)) = false := decide_eq_false (by omega)
      obtain rfl : i = n := by omega
      obtain ⟨c', hq, HC, HB⟩ := HJ.out
      rw [List.take_of_length_le (by rw [HN.out]; exact Nat.le_refl _)] at HC
      have KC := kClasses_in wr w.heap.size l c' ps HC
      rw [hq] at KC
      have HX : Hid (_ ∧ _) := And.intro HC HB
      clear HJ HC HB HP HIN hq
      go_wp2_with (first | (go_at_call 90; refine KC.mono ?_; rintro e w3 ⟨rfl, R3, K3⟩))
      go_ret
      exact ⟨c'.z.g.lo, wr.heap.size, rfl, HX.out.2.size, R3, fun i j hi hj => HX.out.1.un.inv.fin hi hj, HX.out.2.trans (Kept.below K3 HX.out.2.size (fun _ e => e.elim))⟩
end Go.Proofs.YtlehlgipbhfioaaGreat

namespace Go.Proofs.YtlehlgipbhfioaaGreat
open Go.RowKit Go.Maps

/-- What check answers. -/
def chkE (a m : Bool) : Int := if a then (if m then 6 else 0) else 7

set_option maxRecDepth 100000 in
set_option maxHeartbeats 1000000 in
theorem check_by (w : World) (bv : Value) (pa : Option Addr) (n pc : Nat) (A M : Bool)
    (hA : Calls Tryz.prog 41 #[bv, .slice pa n pc] w fun e w' => e = .returned (.bool A) ∧ Below w.heap.size w w')
    (hM : ∀ W, Below w.heap.size w W → Calls Tryz.prog 42 #[.slice pa n pc] W fun e w' => e = .returned (.bool M) ∧ Below W.heap.size W w') :
    Calls Tryz.prog 20 #[bv, .slice pa n pc] w fun e w' => e = .returned (.int .i64 (chkE A M)) ∧ Below w.heap.size w w' := by
  cases A
  · go_enter Tryz.func20, Tryz.ntmps20
    go_wp2_with (first | (go_at_call 41; refine hA.mono ?_; rintro e w1 ⟨rfl, B1⟩))
    go_ret
    exact ⟨rfl, B1⟩
  · cases M
    all_goals
      go_enter Tryz.func20, Tryz.ntmps20
      go_wp2_with (first | (go_at_call 41; refine hA.mono ?_; rintro e w1 ⟨rfl, B1⟩; have M1 := hM w1 B1) | (go_at_call 42; refine M1.mono ?_; rintro e w2 ⟨rfl, B2⟩))
      go_ret
      exact ⟨rfl, B1.trans (B2.mono B1.size)⟩
end Go.Proofs.YtlehlgipbhfioaaGreat

namespace Go.Proofs.YtlehlgipbhfioaaGreat
open Go.RowKit Go.Maps

/-- An atom is told if its variable is true. -/
def tell1 (val : Nat → Bool) (vs : List (Pr × Nat)) (acc : List Pr) (a : Pr) : List Pr := if val ((numV vs a).getD 0 - 1) then addP acc [a] else acc
def tellL (val : Nat → Bool) (vs : List (Pr × Nat)) (acc : List Pr) (xs : List Pr) : List Pr := xs.foldl (tell1 val vs) acc
def toldN (val : Nat → Bool) (vs : List (Pr × Nat)) (am : Nat → List Pr) (acc : List Pr) (ns : List Nat) : List Pr := ns.foldl (fun acc n => tellL val vs acc (am n)) acc
theorem addP_one (acc : List Pr) (a : Pr) (q : Pr) : q ∈ addP acc [a] ↔ q ∈ acc ∨ q = a := by
  have := addP_snoc acc [] a
  rw [List.nil_append] at this
  rw [this]
  have h0 : addP acc [] = acc := by simp [addP]
  rw [h0]
  split
  · rename_i h
    constructor
    · exact .inl
    · rintro (h2 | rfl) <;> assumption
  · simp
theorem tellL_mem (val : Nat → Bool) (vs : List (Pr × Nat)) (q : Pr) : ∀ (xs acc : List Pr), q ∈ tellL val vs acc xs ↔ q ∈ acc ∨ (q ∈ xs ∧ val ((numV vs q).getD 0 - 1) = true)
  | [], acc => by simp [tellL]
  | a :: xs, acc => by
    have e : tellL val vs acc (a :: xs) = tellL val vs (tell1 val vs acc a) xs := rfl
    rw [e, tellL_mem val vs q xs, tell1]
    split
    · rename_i h
      rw [addP_one, List.mem_cons]
      constructor
      · rintro ((h1 | rfl) | ⟨h1, h2⟩)
        · exact .inl h1
        · exact .inr ⟨.inl rfl, h⟩
        · exact .inr ⟨.inr h1, h2⟩
      · rintro (h1 | ⟨rfl | h1, h2⟩)
        · exact .inl (.inl h1)
        · exact .inl (.inr rfl)
        · exact .inr ⟨h1, h2⟩
    · rename_i h
      rw [List.mem_cons]
      constructor
      · rintro (h1 | ⟨h1, h2⟩)
        · exact .inl h1
        · exact .inr ⟨.inr h1, h2⟩
      · rintro (h1 | ⟨rfl | h1, h2⟩)
        · exact .inl h1
        · exact absurd h2 h
        · exact .inr ⟨h1, h2⟩
theorem toldN_mem (val : Nat → Bool) (vs : List (Pr × Nat)) (am : Nat → List Pr) (q : Pr) : ∀ (ns : List Nat) (acc : List Pr), q ∈ toldN val vs am acc ns ↔ q ∈ acc ∨ ((∃ n ∈ ns, q ∈ am n) ∧ val ((numV vs q).getD 0 - 1) = true)
  | [], acc => by simp [toldN]
  | n :: ns, acc => by
    have e : toldN val vs am acc (n :: ns) = toldN val vs am (tellL val vs acc (am n)) ns := rfl
    rw [e, toldN_mem val vs am q ns, tellL_mem]
    constructor
    · rintro ((h1 | ⟨h1, h2⟩) | ⟨⟨m, h1, h3⟩, h2⟩)
      · exact .inl h1
      · exact .inr ⟨⟨n, by simp, h1⟩, h2⟩
      · exact .inr ⟨⟨m, by simp [h1], h3⟩, h2⟩
    · rintro (h1 | ⟨⟨m, h1, h3⟩, h2⟩)
      · exact .inl (.inl h1)
      · rcases List.mem_cons.1 h1 with rfl | h1
        · exact .inl (.inr ⟨h3, h2⟩)
        · exact .inr ⟨⟨m, h1, h3⟩, h2⟩
end Go.Proofs.YtlehlgipbhfioaaGreat
