/- The document's reader: Read. The document's reader within its parser (made of RefA and RefB). -/
import Derived.Test.YtinphcnknionmaaRefI
import Derived.Test.YtinphcnknionmaaP14
namespace Go.Proofs.Ytinphcnknionmaa
open Go.RowKit

theorem rterm_all (f : Nat) : RTermAt f := by
  induction f using Nat.strongRecOn with
  | ind f ih =>
    intro w base r av s i l vs deep h hGo hf hb hd
    obtain ⟨f, rfl⟩ : ∃ f', f = f' + 1 := ⟨f - 1, by omega⟩
    by_cases hE : badNm s (bl s i) = true ∨ 12 < deep
    · exact rterm_err f w base r av s i l vs deep h hd hE
    · have hbad : badNm s (bl s i) = false := by
        cases hx : badNm s (bl s i) with
        | false => rfl
        | true => exact absurd (Or.inl hx) hE
      have hab : ¬ 12 < deep := fun e => hE (Or.inr e)
      cases hst : stands s (bl s (nmE s (bl s i))) 40 with
      | false => exact rterm_plain f w base r av s i l vs deep h hGo hf hb hab hbad hst
      | true => exact rterm_paren f (fun g hg => ih g (by omega)) w base r av s i l vs deep h hGo hf hb hab hbad hst

/-- The document's bank at block q. -/
structure RBk (w : World) (base q : Nat) (av : Value) (l : List Tm) (vs : List Value) : Prop where
  row : w.rowIs q 28 1 (fun _ => av)
  ls : Ls w base av l vs
  bs : base ≤ w.heap.size

theorem lsC_len (l : List Tm) (vs : List Value) (h : vs.length = l.length) : (lsC l vs).length = l.length * 2 := by
  induction l generalizing vs with
  | nil => simp [lsC]
  | cons a l ih =>
    cases vs with
    | nil => simp at h
    | cons b vs =>
      have := ih vs (by simpa using h)
      unfold lsC at this ⊢
      simp at this ⊢
      omega
theorem lsC_one {w : World} {base : Nat} {av : Value} {l : List Tm} {vs : List Value} (h : Ls w base av l vs) : ∀ u ∈ lsC l vs, u.oneCell' = true := by
  intro u hu
  unfold lsC at hu
  rw [List.mem_flatMap] at hu
  obtain ⟨x, hx, hu⟩ := hu
  simp at hu
  rcases hu with rfl | rfl
  · rfl
  · obtain ⟨xs, hxs⟩ := h.mem (List.of_mem_zip hx).2
    obtain ⟨a, c, e⟩ := row_form hxs
    rw [e]
    rfl
theorem row_cells {w : World} {base : Nat} {e : TypeId} {k n : Nat} {v : Value} {xs : List Value} (h : w.ownsRow base e k v n xs) {g c m : Nat} (hv : v = .slice (some ⟨g, 0, none⟩) m c) : ∀ j u, xs[j]? = some u → w.cell? ((⟨g, 0, none⟩ : Addr).add j) = some u := fun j u hj => h.cells (g := g) (by rw [hv]; rfl) j u hj

theorem row_base {w : World} {B B' : Nat} {e : TypeId} {k n : Nat} {v : Value} {xs : List Value} (h : w.ownsRow B e k v n xs) (hb : B' ≤ B) : w.ownsRow B' e k v n xs := by
  refine ⟨h.1, ?_⟩
  rcases h.2 with x | ⟨b, cap, cur, e1, e2, e3⟩
  · exact Or.inl x
  · exact Or.inr ⟨b, cap, cur, e1, Nat.le_trans hb e2, e3⟩

set_option maxHeartbeats 1000000 in
theorem copied_in (w : World) (base : Nat) (av : Value) (l : List Tm) (vs : List Value) (h : Ls w base av l vs) (hl : l.length ≤ 1000) (hbase : base ≤ w.heap.size) :
    Calls Try.prog 67 #[av] w fun e w' => ∃ av', e = .returned av' ∧ Ls w' base av' l vs ∧ Kept0 w w' ∧ ∀ k, av'.ownBlock = some k → w.heap.size ≤ k := by
  obtain ⟨i0, hi0, hz0, hz1, hz2⟩ := info_parts infoRT
  rcases h.row.2 with ⟨rfl, h0⟩ | ⟨g, cap, cur, rfl, _⟩
  · go_enter Try.func67, Try.ntmps67
    go_wp2_with fail
    go_ret
    exact ⟨_, rfl, h, Kept.refl _ w, by simp [Value.ownBlock]⟩
  · have NEWS := row_cells h.row rfl
    go_enter Try.func67, Try.ntmps67
    go_wp2_with (at_builtin; refine wpList_append_here rfl _ _ 26 rfl w.heap.size 114 i0 _ 2 40 Try.underlying26 hi0 hz0 hz1 hz2 rfl (by decide) (.slice none 0 0) 0 [] rfl (World.ownsRow_nil _ _ _ _) ⟨g, 0, none⟩ l.length cap (lsC l vs) rfl (lsC_len l vs h.len) NEWS (lsC_one h) (by unfold maxLen; omega) (by omega) (Nat.le_refl _) ?_; intro v' w5 hown5 hgrow hloc)
    go_ret
    rw [Nat.zero_add, List.nil_append] at hown5
    have K : Kept0 w w5 := ⟨hgrow.os, hgrow.tape, hgrow.output, hgrow.size, fun k hk _ => hgrow.block k hk (by simp [Value.ownBlock])⟩
    refine ⟨v', rfl, ⟨h.len, row_base hown5 hbase, fun i t v h1 h2 => (h.args i t v h1 h2).kept K.grownBy (Decidable.em _)⟩, K, fun k hk => (hown5.lt k hk).1⟩

/-- The list of values behind the document's Read. -/
def RReadPost (w : World) (base q : Nat) (res : Nat × Nat × Nat × List Tm) (e : Ending) (w' : World) : Prop :=
  e = .returned (.tuple #[.int .i64 (res.1 : Int), .int .i64 (res.2.1 : Int), .int .i64 (res.2.2.1 : Int)]) ∧ (∃ av' vs', RBk w' base q av' res.2.2.2 vs') ∧ Kept1 q w w'

theorem made_rr (w : World) (base : Nat) (av : Value) (s : ByteArray) (l : List Tm) (vs : List Value) (L : Ls w base av l vs) (hs : s.size ≤ 400) (hb : base ≤ w.heap.size) (hl : l.length ≤ 1000) (h4 : ∀ u ∈ l, u.args.length ≤ 4) :
    S1 (w.alloc (.cells #[.string s, .int .i64 0, av, .int .i64 0, .int .i64 0] 112)) base w.heap.size av s 0 0 0 l vs := by
  have K : Kept0 w (w.alloc (.cells #[.string s, .int .i64 0, av, .int .i64 0, .int .i64 0] 112)) := Kept.alloc (Kept.refl _ w) _
  refine ⟨⟨World.rowIs.congr (made_row w #[.string s, .int .i64 0, av, .int .i64 0, .int .i64 0] 112) (fun j hj => ?_), by omega, hs⟩, L.kept0 K, Nat.le_trans hb K.size, hl, h4⟩
  have hj' : j < 5 := hj
  rcases (by omega : j = 0 ∨ j = 1 ∨ j = 2 ∨ j = 3 ∨ j = 4) with rfl | rfl | rfl | rfl | rfl <;> rfl

set_option maxHeartbeats 4000000 in
set_option maxRecDepth 100000 in
theorem rRead_in (w : World) (base q : Nat) (av : Value) (l : List Tm) (vs : List Value) (h : RBk w base q av l vs) (hG : Good l) (hl : l.length ≤ 150) (s : ByteArray) :
    Calls Try.prog 17 #[.pointer (some ⟨q, 0, none⟩), .string s] w (RReadPost w base q (pRead s l)) := by
  by_cases hs : 400 < s.size
  · have hp : pRead s l = (0, 1, 0, l) := by simp [pRead, hs]
    have d : (400 : Int) < (s.size : Int) := by omega
    go_enter Try.func17, Try.ntmps17
    go_wp2
    refine ⟨rfl, .tuple #[.int .i64 0, .int .i64 1, .int .i64 0], by simp [results, Try.results17], ?_⟩
    rw [hp]
    exact ⟨rfl, ⟨av, vs, h⟩, Kept.refl _ w⟩
  · have hp : pRead s l = pWhole s l := by simp [pRead, hs]
    rw [hp]
    have d : ¬ (400 : Int) < (s.size : Int) := by omega
    have c0 : w.cell? ⟨q, 0, none⟩ = some av := h.row.cell (by omega)
    have CO := copied_in w base av l vs h.ls (by omega) h.bs
    have hb0 := bl_le (s := s) (i := 0) (by omega)
    obtain ⟨aa, ac, rfl⟩ := h.ls.form
    go_enter Try.func17, Try.ntmps17
    go_wp2_with (first | (go_at_call 67; refine CO.mono ?_; rintro e w1 ⟨av1, rfl, L1, K1, F1⟩; obtain ⟨a1, k1, hav1⟩ := L1.form; subst hav1))
    have M := made_rr w1 base (.slice a1 l.length k1) s l vs L1 (by omega) (Nat.le_trans h.bs K1.size) (by omega) hG.four
    have KM : Kept0 w1 (w1.alloc (.cells #[.string s, .int .i64 0, .slice a1 l.length k1, .int .i64 0, .int .i64 0] 112)) := Kept.alloc (Kept.refl _ w1) _
    have hw1 := K1.size
    generalize w1.alloc (.cells #[.string s, .int .i64 0, .slice a1 l.length k1, .int .i64 0, .int .i64 0] 112) = w2 at *
    have TM := rterm_all (2 * s.size + 1) w2 base w1.heap.size _ s 0 l vs 0 M hG (by omega) (by omega) (by omega)
    generalize hrr : w1.heap.size = r at *
    have F1' : ∀ k, (Value.slice a1 l.length k1).ownBlock = some k → w.heap.size ≤ k := F1
    have keep : ∀ (WW : World), GR r w2 (.slice a1 l.length k1) WW (.slice a1 l.length k1) ∨ (∃ av3, GR r w2 (.slice a1 l.length k1) WW av3) → (∀ k, k < w.heap.size → WW.heap[k]? = w.heap[k]?) ∧ Kept0 w WW := by
      intro WW hGG
      have GG : Kept (fun k => k = r ∨ (Value.slice a1 l.length k1).ownBlock = some k ∨ w2.heap.size ≤ k) w2 WW := by
        rcases hGG with e | ⟨_, e⟩
        · exact e.kept
        · exact e.kept
      have hz : ∀ k, k < w.heap.size → WW.heap[k]? = w.heap[k]? := fun k hk => by
        have h2 := KM.size
        have h3 := K1.size
        refine (GG.block k (by omega) ?_).trans ((KM.block k (by omega) (fun e => e)).trans (K1.block k hk (fun e => e)))
        rintro (e | e | e)
        · omega
        · have := F1' k e; omega
        · omega
      exact ⟨hz, ⟨GG.os.trans (KM.os.trans K1.os), GG.tape.trans (KM.tape.trans K1.tape), GG.output.trans (KM.output.trans K1.output), Nat.le_trans K1.size (Nat.le_trans KM.size GG.size), fun k hk _ => hz k hk⟩⟩
    have back : ∀ (WW : World), (∃ av3, GR r w2 (.slice a1 l.length k1) WW av3) → RBk WW base q (.slice aa l.length ac) l vs ∧ Kept1 q w WW := by
      intro WW hGG
      obtain ⟨hz, K⟩ := keep WW (Or.inr hGG)
      exact ⟨⟨h.row.of_block (hz q h.row.lt), h.ls.kept0 K, Nat.le_trans h.bs K.size⟩, Kept.mono K (fun _ _ e => e.elim)⟩
    cases hx : pTerm s (2 * s.size + 1) 0 (bl s 0) l with
    | bad c qq l2 =>
      have hpw : pWhole s l = (0, c, qq, l) := by simp [pWhole, hx]
      rw [hx] at TM
      have hc1 := ((p_bad s (2 * s.size + 1)).1 0 (bl s 0) l c qq l2 hb0 (by omega) hx).1
      have dE : ((c : Int) == 0) = false := beq_eq_false_iff_ne.2 (by omega)
      have dN : ((c : Int) != 0) = true := by simp; omega
      go_wp2_with (first | (go_at_call 68; refine TM.mono ?_; rintro e w3 ⟨rfl, av3, i3, l3, vs3, S3, G3, N3⟩; have BLK := rblanks_in w3 r s _ av3 c qq S3.rd))
      by_cases hlt : bl s i3 < s.size
      · have dl : decide ((bl s i3 : Int) < (s.size : Int)) = true := decide_eq_true (by omega)
        go_wp2_with (first | (go_at_call 69; refine BLK.mono ?_; rintro e w4 ⟨rfl, R4, K4⟩; have t1 := R4.c1; have FE := fail_in w4 r s _ av3 c qq R4 2 (bl s i3); rw [failE_err hc1, failA_err hc1] at FE) | (go_at_call 70; refine FE.mono ?_; rintro e w5 ⟨rfl, R5, K5⟩; have t3 := R5.c3; have t4 := R5.c4))
        go_quiet (fail)
        go_wp2_with fail
        refine ⟨rfl, .tuple #[.int .i64 0, .int .i64 (c : Int), .int .i64 (qq : Int)], by simp [results, Try.results17], ?_⟩
        rw [hpw]
        obtain ⟨B9, K9⟩ := back _ ⟨av3, ((G3.kept1 K4).kept1 K5).step (Kept.drewN (Kept.refl (fun _ => False) w5) nq) (fun _ _ e => e.elim)⟩
        exact ⟨rfl, ⟨_, _, B9⟩, K9⟩
      · have dl : decide ((bl s i3 : Int) < (s.size : Int)) = false := decide_eq_false (by omega)
        go_wp2_with (first | (go_at_call 69; refine BLK.mono ?_; rintro e w4 ⟨rfl, R4, K4⟩; have t1 := R4.c1; have t3 := R4.c3; have t4 := R4.c4))
        go_quiet (fail)
        go_wp2_with fail
        refine ⟨rfl, .tuple #[.int .i64 0, .int .i64 (c : Int), .int .i64 (qq : Int)], by simp [results, Try.results17], ?_⟩
        rw [hpw]
        obtain ⟨B9, K9⟩ := back _ ⟨av3, (G3.kept1 K4).step (Kept.drewN (Kept.refl (fun _ => False) w4) nq) (fun _ _ e => e.elim)⟩
        exact ⟨rfl, ⟨_, _, B9⟩, K9⟩
    | ok n k l' =>
      rw [hx] at TM
      go_wp2_with (first | (go_at_call 68; refine TM.mono ?_; rintro e w3 ⟨rfl, av3, i3, vs3, S3, hi3, G3, N3⟩; have BLK := rblanks_in w3 r s _ av3 0 0 S3.rd; rw [hi3] at BLK))
      obtain ⟨aa3, ac3, hav3⟩ := S3.ls.form
      subst hav3
      have lo3 := S3.lo
      by_cases hlt : k < s.size
      · have hpw : pWhole s l = (0, 2, k, l) := by simp [pWhole, hx, hlt]
        have dl : decide ((k : Int) < (s.size : Int)) = true := decide_eq_true (by omega)
        go_wp2_with (first | (go_at_call 69; refine BLK.mono ?_; rintro e w4 ⟨rfl, R4, K4⟩; have t1 := R4.c1; have FE : Calls Try.prog 70 #[.pointer (some ⟨r, 0, none⟩), .int .i64 ((2 : Nat) : Int), .int .i64 (k : Int)] w4 fun x w' => x = .returned (.tuple #[]) ∧ Rr w' r s k _ 2 k ∧ Kept1 r w4 w' := fail_in w4 r s _ _ 0 0 R4 2 k) | (go_at_call 70; refine FE.mono ?_; rintro e w5 ⟨rfl, R5, K5⟩; have t3 := R5.c3; have t4 := R5.c4))
        go_quiet (fail)
        go_wp2_with fail
        refine ⟨rfl, .tuple #[.int .i64 0, .int .i64 2, .int .i64 (k : Int)], by simp [results, Try.results17], ?_⟩
        rw [hpw]
        obtain ⟨B9, K9⟩ := back _ ⟨_, ((G3.kept1 K4).kept1 K5).step (Kept.drewN (Kept.refl (fun _ => False) w5) nq) (fun _ _ e => e.elim)⟩
        exact ⟨rfl, ⟨_, _, B9⟩, K9⟩
      · have dl : decide ((k : Int) < (s.size : Int)) = false := decide_eq_false (by omega)
        by_cases hm : 150 < l'.length
        · have hpw : pWhole s l = (0, 6, 0, l) := by simp [pWhole, hx, hlt, hm]
          have dm : decide ((150 : Int) < (l'.length : Int)) = true := decide_eq_true (by omega)
          go_wp2_with (first | (go_at_call 69; refine BLK.mono ?_; rintro e w4 ⟨rfl, R4, K4⟩; have t1 := R4.c1; have t3 := R4.c3; have t2 := R4.c2; have FE : Calls Try.prog 70 #[.pointer (some ⟨r, 0, none⟩), .int .i64 ((6 : Nat) : Int), .int .i64 ((0 : Nat) : Int)] w4 fun x w' => x = .returned (.tuple #[]) ∧ Rr w' r s k _ 6 0 ∧ Kept1 r w4 w' := fail_in w4 r s _ _ 0 0 R4 6 0) | (go_at_call 70; refine FE.mono ?_; rintro e w5 ⟨rfl, R5, K5⟩; have t3 := R5.c3; have t4 := R5.c4))
          go_quiet (fail)
          go_wp2_with fail
          refine ⟨rfl, .tuple #[.int .i64 0, .int .i64 6, .int .i64 0], by simp [results, Try.results17], ?_⟩
          rw [hpw]
          obtain ⟨B9, K9⟩ := back _ ⟨_, ((G3.kept1 K4).kept1 K5).step (Kept.drewN (Kept.refl (fun _ => False) w5) nq) (fun _ _ e => e.elim)⟩
          exact ⟨rfl, ⟨_, _, B9⟩, K9⟩
        · have hpw : pWhole s l = (n, 0, 0, l') := by simp [pWhole, hx, hlt, hm]
          have dm : decide ((150 : Int) < (l'.length : Int)) = false := decide_eq_false (by omega)
          go_wp2_with (first | (go_at_call 69; refine BLK.mono ?_; rintro e w4 ⟨rfl, R4, K4⟩; have t1 := R4.c1; have t3 := R4.c3; have t2 := R4.c2; have B4 := (back w4 ⟨_, G3.kept1 K4⟩).1; have q0 := World.rowIs.cell B4.row (i := 0) (by omega); have q1 := World.rowIs.frozen B4.row 0))
          have SS := S3.read K4 R4
          obtain ⟨B9, K9⟩ := back w4 ⟨_, G3.kept1 K4⟩
          refine ⟨rfl, .tuple #[.int .i64 (n : Int), .int .i64 0, .int .i64 0], by simp [results, Try.results17], ?_⟩
          rw [hpw]
          have KQ : Kept1 q w4 (w4.setCell ⟨q, 0, none⟩ (.slice aa3 l'.length ac3)) := Kept1.set (Kept.refl _ w4) _ _
          refine ⟨rfl, ⟨.slice aa3 l'.length ac3, vs3, ⟨Box.set B9.row _, SS.ls.blocks (fun b hb => KQ.block b (row_lt SS.ls.row hb) (fun e => row_ne SS.ls.row B9.row (by decide) (e ▸ hb))) (fun u hu b hb => ?_), Nat.le_trans B9.bs KQ.size⟩⟩, Kept.trans K9 KQ⟩
          obtain ⟨ys, hy⟩ := SS.ls.mem hu
          exact KQ.block b (row_lt hy hb) (fun e => row_ne hy B9.row (by decide) (e ▸ hb))

end Go.Proofs.Ytinphcnknionmaa

namespace Go.Proofs.Ytinphcnknionmaa.Q5
open Go.RowKit
variable {dd : Int} {aw : Value} {lw : List Tm} {vw : List Value}

def rr6 (dd : Int) (s : ByteArray) (i : Nat) (av : Value) (e a : Nat) (j : Nat) : Value := if j = 5 then .int .i64 dd else rrC s i av e a j

/-- The document's reader at block r. -/
structure Rr (dd : Int) (w : World) (r : Nat) (s : ByteArray) (i : Nat) (av : Value) (e a : Nat) : Prop where
  row : w.rowIs r 165 6 (rr6 dd s i av e a)
  le : i ≤ s.size
  small : s.size ≤ 400

theorem Rr.c0 {w : World} {r : Nat} {s : ByteArray} {i : Nat} {av : Value} {e a : Nat} (h : Rr dd w r s i av e a) : w.cell? ⟨r, 0, none⟩ = some (.string s) := h.row.cell (by omega)

theorem Rr.c1 {w : World} {r : Nat} {s : ByteArray} {i : Nat} {av : Value} {e a : Nat} (h : Rr dd w r s i av e a) : w.cell? ⟨r, 1, none⟩ = some (.int .i64 (i : Int)) := h.row.cell (i := 1) (by omega)

theorem Rr.c2 {w : World} {r : Nat} {s : ByteArray} {i : Nat} {av : Value} {e a : Nat} (h : Rr dd w r s i av e a) : w.cell? ⟨r, 2, none⟩ = some av := h.row.cell (i := 2) (by omega)

theorem Rr.c3 {w : World} {r : Nat} {s : ByteArray} {i : Nat} {av : Value} {e a : Nat} (h : Rr dd w r s i av e a) : w.cell? ⟨r, 3, none⟩ = some (.int .i64 (e : Int)) := h.row.cell (i := 3) (by omega)

theorem Rr.c4 {w : World} {r : Nat} {s : ByteArray} {i : Nat} {av : Value} {e a : Nat} (h : Rr dd w r s i av e a) : w.cell? ⟨r, 4, none⟩ = some (.int .i64 (a : Int)) := h.row.cell (i := 4) (by omega)

theorem Rr.drewN {w : World} {r : Nat} {s : ByteArray} {i : Nat} {av : Value} {e a : Nat} (h : Rr dd w r s i av e a) (m : Nat) : Rr dd (w.drewN m) r s i av e a := ⟨h.row, h.le, h.small⟩

theorem Rr.of_block {w w' : World} {r : Nat} {s : ByteArray} {i : Nat} {av : Value} {e a : Nat} (h : Rr dd w r s i av e a) (hb : w'.heap[r]? = w.heap[r]?) : Rr dd w' r s i av e a := ⟨h.row.of_block hb, h.le, h.small⟩

theorem Rr.step {w : World} {r : Nat} {s : ByteArray} {i : Nat} {av : Value} {e a : Nat} (h : Rr dd w r s i av e a) {k : Nat} (hk : k ≤ s.size) : Rr dd (w.setCell ⟨r, 1, none⟩ (.int .i64 (k : Int))) r s k av e a :=
  ⟨(h.row.set 1 _).congr (fun j hj => by
    rcases (by omega : j = 0 ∨ j = 1 ∨ j = 2 ∨ j = 3 ∨ j = 4 ∨ j = 5) with rfl | rfl | rfl | rfl | rfl | rfl <;> simp [rr6, rrC]), hk, h.small⟩

theorem Rr.err {w : World} {r : Nat} {s : ByteArray} {i : Nat} {av : Value} {e a : Nat} (h : Rr dd w r s i av e a) (c q : Nat) : Rr dd ((w.setCell ⟨r, 3, none⟩ (.int .i64 (c : Int))).setCell ⟨r, 4, none⟩ (.int .i64 (q : Int))) r s i av c q :=
  ⟨((h.row.set 3 _).set 4 _).congr (fun j hj => by
    rcases (by omega : j = 0 ∨ j = 1 ∨ j = 2 ∨ j = 3 ∨ j = 4 ∨ j = 5) with rfl | rfl | rfl | rfl | rfl | rfl <;> simp [rr6, rrC]), h.le, h.small⟩

theorem Rr.list {w : World} {r : Nat} {s : ByteArray} {i : Nat} {av : Value} {e a : Nat} (h : Rr dd w r s i av e a) (v : Value) : Rr dd (w.setCell ⟨r, 2, none⟩ v) r s i v e a :=
  ⟨(h.row.set 2 _).congr (fun j hj => by
    rcases (by omega : j = 0 ∨ j = 1 ∨ j = 2 ∨ j = 3 ∨ j = 4 ∨ j = 5) with rfl | rfl | rfl | rfl | rfl | rfl <;> simp [rr6, rrC]), h.le, h.small⟩

set_option maxHeartbeats 400000 in
theorem fail_in (w : World) (r : Nat) (s : ByteArray) (i : Nat) (av : Value) (e a : Nat) (h : Rr dd w r s i av e a) (c q : Nat) :
    Calls Try.prog 70 #[.pointer (some ⟨r, 0, none⟩), .int .i64 (c : Int), .int .i64 (q : Int)] w fun x w' => x = .returned (.tuple #[]) ∧ Rr dd w' r s i av (failE e c) (failA e a q) ∧ Kept1 r w w' := by
  have c3 := h.c3
  have c4 := h.c4
  have f3 := h.row.frozen 3
  have f4 := h.row.frozen 4
  by_cases he : e = 0
  · subst he
    have e1 : failE 0 c = c := rfl
    have e2 : failA 0 a q = q := rfl
    go_enter Try.func70, Try.ntmps70
    go_wp2
    go_end0
    exact ⟨rfl, by rw [e1, e2]; exact h.err c q, Kept1.set (Kept1.set (Kept.refl _ w) _ _) _ _⟩
  · have d : ((e : Int) == 0) = false := beq_eq_false_iff_ne.2 (by omega)
    have e1 : failE e c = e := if_neg he
    have e2 : failA e a q = a := if_neg he
    go_enter Try.func70, Try.ntmps70
    go_wp2
    go_end0
    exact ⟨rfl, by rw [e1, e2]; exact h, Kept.refl _ w⟩

set_option maxHeartbeats 400000 in
theorem rblanks_in (w : World) (r : Nat) (s : ByteArray) (i : Nat) (av : Value) (e a : Nat) (h : Rr dd w r s i av e a) :
    Calls Try.prog 69 #[.pointer (some ⟨r, 0, none⟩)] w fun x w' => x = .returned (.tuple #[]) ∧ Rr dd w' r s (bl s i) av e a ∧ Kept1 r w w' := by
  have hs := h.small
  go_enter Try.func69, Try.ntmps69
  go_wp2
  go_loopw [] (fun W => ∃ k : Nat, Rr dd W r s k av e a ∧ Hid (bl s k = bl s i) ∧ Hid (Kept1 r w W)) (fun W => s.size - (match W.cell? ⟨r, 1, none⟩ with | some v => (intOf v).toNat | none => 0))
  case atStart => exact ⟨i, h, rfl, Kept.refl _ w⟩
  case round =>
    obtain ⟨k, hR, hb, hK⟩ := hrel
    have c1 := hR.c0
    have c2 := hR.c1
    have f2 := hR.row.frozen 1
    have hle := hR.le
    by_cases h1 : k < s.size
    · by_cases h2 : byt s k = 32
      · have d1 : decide ((k : Int) < s.size) = true := decide_eq_true (by omega)
        have e2 : (s[k]).toNat = 32 := (byt_lt h1).trans h2
        go_wp2_with fail
        go_quiet (fail)
        go_wp2_with fail
        refine ⟨⟨k + 1, ?_, (bl_at h1 h2).symm.trans hb, Kept1.set (hK.drewN _) _ _⟩, ?_⟩
        · have := (hR.drewN nq).step (k := k + 1) (by omega)
          simpa using this
        · have hn := ((hR.drewN nq).step (k := k + 1) (by omega)).c1
          have hn' : ((wr.drewN nq).setCell ⟨r, 1, none⟩ (.int .i64 ((k : Int) + 1))).cell? ⟨r, 1, none⟩ = some (.int .i64 ((k : Int) + 1)) := by simpa using hn
          rw [c2, hn']
          simp only [intOf]
          omega
      · have d1 : decide ((k : Int) < s.size) = true := decide_eq_true (by omega)
        have e2 : ¬ (s[k]).toNat = 32 := fun e => h2 ((byt_lt h1).symm.trans e)
        go_wp2_with fail
        go_quiet (fail)
        go_wp2_with fail
        go_end0
        have e : bl s i = k := hb.symm.trans (bl_end (fun x => h2 x.2))
        exact ⟨rfl, e ▸ hR.drewN nq, Kept.drewN hK nq⟩
    · have d1 : decide ((k : Int) < s.size) = false := decide_eq_false (by omega)
      go_wp2_with fail
      go_quiet (fail)
      go_wp2_with fail
      go_end0
      have e : bl s i = k := hb.symm.trans (bl_end (fun x => h1 x.1))
      exact ⟨rfl, e ▸ hR.drewN nq, Kept.drewN hK nq⟩

set_option maxHeartbeats 800000 in
theorem is_in (w : World) (r : Nat) (s : ByteArray) (i : Nat) (av : Value) (e a : Nat) (h : Rr dd w r s i av e a) (c : Nat) :
    Calls Try.prog 147 #[.pointer (some ⟨r, 0, none⟩), .int .u8 (c : Int)] w fun x w' => x = .returned (.bool (isB s i e c)) ∧ Rr dd w' r s (bl s i) av e a ∧ Kept1 r w w' := by
  have hs := h.small
  have hle := bl_le h.le
  have BL := rblanks_in w r s i av e a h
  by_cases he : e = 0
  · subst he
    by_cases h1 : bl s i < s.size
    · have d1 : decide ((bl s i : Int) < s.size) = true := decide_eq_true (by omega)
      by_cases h2 : byt s (bl s i) = c
      · have e2 : (s[bl s i]).toNat = c := (byt_lt h1).trans h2
        have hB : isB s i 0 c = true := by simp [isB, stands_true h1 h2]
        go_enter Try.func147, Try.ntmps147
        go_wp2_with (go_at_call 69; refine BL.mono ?_; rintro e w2 ⟨rfl, R2, K2⟩; have c0 := R2.c0; have c1 := R2.c1; have c3 := R2.c3)
        go_quiet (fail)
        go_wp2_with fail
        go_ret
        exact ⟨ret_bool hB.symm, R2.drewN nq, Kept.drewN K2 nq⟩
      · have e2 : ¬ (s[bl s i]).toNat = c := fun e => h2 ((byt_lt h1).symm.trans e)
        have e3 : (((s[bl s i]).toNat : Int) == (c : Int)) = false := beq_eq_false_iff_ne.2 (by omega)
        have hB : isB s i 0 c = false := by simp [isB, stands_ne h2]
        go_enter Try.func147, Try.ntmps147
        go_wp2_with (go_at_call 69; refine BL.mono ?_; rintro e w2 ⟨rfl, R2, K2⟩; have c0 := R2.c0; have c1 := R2.c1; have c3 := R2.c3)
        go_quiet (fail)
        go_wp2_with fail
        go_ret
        exact ⟨ret_bool hB.symm, R2.drewN nq, Kept.drewN K2 nq⟩
    · have d1 : decide ((bl s i : Int) < s.size) = false := decide_eq_false (by omega)
      have hB : isB s i 0 c = false := by simp [isB, stands_end h1]
      go_enter Try.func147, Try.ntmps147
      go_wp2_with (go_at_call 69; refine BL.mono ?_; rintro e w2 ⟨rfl, R2, K2⟩; have c0 := R2.c0; have c1 := R2.c1; have c3 := R2.c3)
      go_quiet (fail)
      go_wp2_with fail
      go_ret
      exact ⟨ret_bool hB.symm, R2.drewN nq, Kept.drewN K2 nq⟩
  · have d : ((e : Int) == 0) = false := beq_eq_false_iff_ne.2 (by omega)
    have hB : isB s i e c = false := by simp [isB, he]
    go_enter Try.func147, Try.ntmps147
    go_wp2_with (go_at_call 69; refine BL.mono ?_; rintro e w2 ⟨rfl, R2, K2⟩; have c0 := R2.c0; have c1 := R2.c1; have c3 := R2.c3)
    go_quiet (fail)
    go_wp2_with fail
    go_ret
    exact ⟨ret_bool hB.symm, R2.drewN nq, Kept.drewN K2 nq⟩

set_option maxHeartbeats 400000 in
theorem rhas1_in (w : World) (r : Nat) (s : ByteArray) (i : Nat) (av : Value) (e a : Nat) (h : Rr dd w r s i av e a) (c : Nat) :
    Calls Try.prog 114 #[.pointer (some ⟨r, 0, none⟩), .int .u8 (c : Int)] w fun x w' => x = .returned (.bool (isB s i e c)) ∧ Rr dd w' r s (hasI s i e c) av e a ∧ Kept1 r w w' := by
  have hs := h.small
  have IS := is_in w r s i av e a h c
  cases hB : isB s i e c with
  | true =>
    rw [hB] at IS
    have hlt := isB_lt hB
    have hI : hasI s i e c = bl s i + 1 := by simp [hasI, hB]
    go_enter Try.func114, Try.ntmps114
    go_wp2_with (go_at_call 147; refine IS.mono ?_; rintro e w2 ⟨rfl, R2, K2⟩; have c1 := R2.c1; have f1 := R2.row.frozen 1)
    go_ret
    have := R2.step (k := bl s i + 1) (by omega)
    refine ⟨rfl, by rw [hI]; simpa using this, Kept1.set K2 _ _⟩
  | false =>
    rw [hB] at IS
    have hI : hasI s i e c = bl s i := by simp [hasI, hB]
    go_enter Try.func114, Try.ntmps114
    go_wp2_with (go_at_call 147; refine IS.mono ?_; rintro e w2 ⟨rfl, R2, K2⟩)
    go_ret
    exact ⟨rfl, by rw [hI]; exact R2, K2⟩

def NmPost (dd : Int) (w : World) (r : Nat) (av : Value) (s : ByteArray) (i e a : Nat) (x : Ending) (w' : World) : Prop :=
  x = .returned (.tuple #[.string (s.extract (bl s i) (nmE s (bl s i))), .int .i64 (bl s i : Int)]) ∧ Kept1 r w w' ∧
    (if badNm s (bl s i) = true then Rr dd w' r s (nmE s (bl s i)) av (failE e 2) (failA e a (bl s i)) else Rr dd w' r s (nmE s (bl s i)) av e a)

set_option maxHeartbeats 4000000 in
theorem rname_in (w : World) (r : Nat) (s : ByteArray) (i : Nat) (av : Value) (e a : Nat) (h : Rr dd w r s i av e a) :
    Calls Try.prog 113 #[.pointer (some ⟨r, 0, none⟩)] w (NmPost dd w r av s i e a) := by
  have hs := h.small
  have BL := rblanks_in w r s i av e a h
  have hple := bl_le h.le
  unfold NmPost
  generalize hpp : bl s i = p at *
  go_enter Try.func113, Try.ntmps113
  go_wp2_with (go_at_call 69; refine BL.mono ?_; rintro e w2 ⟨rfl, R2, K2⟩; have c1 := R2.c1)
  go_loopw [] (fun W => ∃ k : Nat, Rr dd W r s k av e a ∧ Hid (nmE s k = nmE s p) ∧ Hid (Kept1 r w W)) (fun W => s.size - (match W.cell? ⟨r, 1, none⟩ with | some v => (intOf v).toNat | none => 0))
  case atStart => exact ⟨p, R2, rfl, K2⟩
  case round =>
    obtain ⟨k, hR, hb, hK⟩ := hrel
    clear c1 R2 K2 BL
    have c0 := hR.c0
    have c1 := hR.c1
    have f1 := hR.row.frozen 1
    have hle := hR.le
    by_cases h1 : k < s.size
    · have d1 : decide ((k : Int) < s.size) = true := decide_eq_true (by omega)
      have LET : ∀ m, Calls Try.prog 145 #[.int .u8 ((s[k]).toNat : Nat)] (wr.drewN m) fun e w' => e = .returned (.bool (isLet (byt s k))) ∧ w' = wr.drewN m := fun m => (rletter_any _ _).mono fun _ _ x => ⟨by rw [x.1, byt_lt h1], x.2.symm⟩
      have DIG : ∀ m, Calls Try.prog 146 #[.int .u8 ((s[k]).toNat : Nat)] (wr.drewN m) fun e w' => e = .returned (.bool (isDig (byt s k))) ∧ w' = wr.drewN m := fun m => (rdigit_any _ _).mono fun _ _ x => ⟨by rw [x.1, byt_lt h1], x.2.symm⟩
      cases hl : isLet (byt s k) with
      | true =>
        rw [hl] at LET
        have hn : isNm (byt s k) = true := by simp [isNm, hl]
        go_wp2_with fail
        go_quiet ((go_at_call 145; exact Calls.quiet_of_same (LET _)))
        go_wp2_with fail
        refine ⟨⟨k + 1, ?_, (nmE_at h1 hn).symm.trans hb, Kept1.set (hK.drewN _) _ _⟩, ?_⟩
        · have := (hR.drewN nq).step (k := k + 1) (by omega)
          simpa using this
        · have hn := ((hR.drewN nq).step (k := k + 1) (by omega)).c1
          have hn' : ((wr.drewN nq).setCell ⟨r, 1, none⟩ (.int .i64 ((k : Int) + 1))).cell? ⟨r, 1, none⟩ = some (.int .i64 ((k : Int) + 1)) := by simpa using hn
          rw [c1, hn']
          simp only [intOf]
          omega
      | false =>
        rw [hl] at LET
        cases hd : isDig (byt s k) with
        | true =>
          rw [hd] at DIG
          have hn : isNm (byt s k) = true := by simp [isNm, hd]
          go_wp2_with fail
          go_quiet ((first | (go_at_call 145; exact Calls.quiet_of_same (LET _)) | (go_at_call 146; exact Calls.quiet_of_same (DIG _))))
          go_wp2_with fail
          refine ⟨⟨k + 1, ?_, (nmE_at h1 hn).symm.trans hb, Kept1.set (hK.drewN _) _ _⟩, ?_⟩
          · have := (hR.drewN nq).step (k := k + 1) (by omega)
            simpa using this
          · have hn := ((hR.drewN nq).step (k := k + 1) (by omega)).c1
            have hn' : ((wr.drewN nq).setCell ⟨r, 1, none⟩ (.int .i64 ((k : Int) + 1))).cell? ⟨r, 1, none⟩ = some (.int .i64 ((k : Int) + 1)) := by simpa using hn
            rw [c1, hn']
            simp only [intOf]
            omega
        | false =>
          rw [hd] at DIG
          have hn : isNm (byt s k) = false := by simp [isNm, hl, hd]
          go_wp2_with fail
          go_quiet ((first | (go_at_call 145; exact Calls.quiet_of_same (LET _)) | (go_at_call 146; exact Calls.quiet_of_same (DIG _))))
          have hE : nmE s p = k := hb.symm.trans (nmE_end (fun x => by have := x.2; rw [hn] at this; cases this))
          have hpk : p ≤ k := hE ▸ nmE_ge s p
          have FAIL := fun m => fail_in (wr.drewN m) r s k av e a (hR.drewN m) 2 p
          have hKn : ∀ m, Kept1 r w (wr.drewN m) := fun m => Kept.drewN hK m
          have hRn := hR.drewN
          clear hb hK
          by_cases hA : p = k
          · have hbad : badNm s p = true := by rw [badNm, hE]; simp [hA]
            subst hA
            go_wp2_with (go_at_call 70; refine (FAIL _).mono ?_; rintro e w3 ⟨rfl, R3, K3⟩; have c03 := R3.c0; have c13 := R3.c1)
            go_quiet (fail)
            go_wp2_with fail
            go_ret2
            try rw [hE]
            exact ⟨rfl, Kept.drewN (Kept.trans (hKn _) K3) _, by first | exact R3.drewN _ | (rw [if_pos hbad]; exact R3.drewN _)⟩
          · have dA : ((k : Int) == (p : Int)) = false := beq_eq_false_iff_ne.2 (by omega)
            have hps : p < s.size := by omega
            have DIG2 : ∀ m, Calls Try.prog 146 #[.int .u8 ((s[p]).toNat : Nat)] (wr.drewN m) fun e w' => e = .returned (.bool (isDig (byt s p))) ∧ w' = wr.drewN m := fun m => (rdigit_any _ _).mono fun _ _ x => ⟨by rw [x.1, byt_lt hps], x.2.symm⟩
            cases hD : isDig (byt s p) with
            | true =>
              rw [hD] at DIG2
              have hbad : badNm s p = true := by simp [badNm, hD]
              go_wp2_with (first | (go_at_call 146; refine (DIG2 _).mono ?_; rintro e w2 ⟨rfl, rfl⟩) | (go_at_call 70; refine (FAIL _).mono ?_; rintro e w3 ⟨rfl, R3, K3⟩; have c03 := R3.c0; have c13 := R3.c1))
              go_quiet (fail)
              go_wp2_with fail
              go_ret2
              try rw [hE]
              exact ⟨rfl, Kept.drewN (Kept.trans (hKn _) K3) _, by first | exact R3.drewN _ | (rw [if_pos hbad]; exact R3.drewN _)⟩
            | false =>
              rw [hD] at DIG2
              by_cases hC : 6 < k - p
              · have dC : decide ((6 : Int) < (k : Int) - (p : Int)) = true := decide_eq_true (by omega)
                have hbad : badNm s p = true := by rw [badNm, hE]; simp [hC]
                go_wp2_with (first | (go_at_call 146; refine (DIG2 _).mono ?_; rintro e w2 ⟨rfl, rfl⟩) | (go_at_call 70; refine (FAIL _).mono ?_; rintro e w3 ⟨rfl, R3, K3⟩; have c03 := R3.c0; have c13 := R3.c1))
                go_quiet (fail)
                go_wp2_with fail
                go_ret2
                try rw [hE]
                exact ⟨rfl, Kept.drewN (Kept.trans (hKn _) K3) _, by first | exact R3.drewN _ | (rw [if_pos hbad]; exact R3.drewN _)⟩
              · have dC : decide ((6 : Int) < (k : Int) - (p : Int)) = false := decide_eq_false (by omega)
                have hbad : ¬ badNm s p = true := by rw [badNm, hE]; simp [hD]; omega
                go_wp2_with (first | (go_at_call 146; refine (DIG2 _).mono ?_; rintro e w2 ⟨rfl, rfl⟩))
                go_quiet (fail)
                go_wp2_with fail
                go_ret2
                try rw [hE]
                exact ⟨rfl, hKn _, by first | exact hRn _ | (rw [if_neg hbad]; exact hRn _)⟩
    · have d1 : decide ((k : Int) < s.size) = false := decide_eq_false (by omega)
      go_wp2_with fail
      go_quiet (fail)
      have hE : nmE s p = k := hb.symm.trans (nmE_end (fun x => h1 x.1))
      have hpk : p ≤ k := hE ▸ nmE_ge s p
      have FAIL := fun m => fail_in (wr.drewN m) r s k av e a (hR.drewN m) 2 p
      have hKn : ∀ m, Kept1 r w (wr.drewN m) := fun m => Kept.drewN hK m
      have hRn := hR.drewN
      clear hb hK
      by_cases hA : p = k
      · have hbad : badNm s p = true := by rw [badNm, hE]; simp [hA]
        subst hA
        go_wp2_with (go_at_call 70; refine (FAIL _).mono ?_; rintro e w3 ⟨rfl, R3, K3⟩; have c03 := R3.c0; have c13 := R3.c1)
        go_quiet (fail)
        go_wp2_with fail
        go_ret2
        try rw [hE]
        exact ⟨rfl, Kept.drewN (Kept.trans (hKn _) K3) _, by first | exact R3.drewN _ | (rw [if_pos hbad]; exact R3.drewN _)⟩
      · have dA : ((k : Int) == (p : Int)) = false := beq_eq_false_iff_ne.2 (by omega)
        have hps : p < s.size := by omega
        have DIG2 : ∀ m, Calls Try.prog 146 #[.int .u8 ((s[p]).toNat : Nat)] (wr.drewN m) fun e w' => e = .returned (.bool (isDig (byt s p))) ∧ w' = wr.drewN m := fun m => (rdigit_any _ _).mono fun _ _ x => ⟨by rw [x.1, byt_lt hps], x.2.symm⟩
        cases hD : isDig (byt s p) with
        | true =>
          rw [hD] at DIG2
          have hbad : badNm s p = true := by simp [badNm, hD]
          go_wp2_with (first | (go_at_call 146; refine (DIG2 _).mono ?_; rintro e w2 ⟨rfl, rfl⟩) | (go_at_call 70; refine (FAIL _).mono ?_; rintro e w3 ⟨rfl, R3, K3⟩; have c03 := R3.c0; have c13 := R3.c1))
          go_quiet (fail)
          go_wp2_with fail
          go_ret2
          try rw [hE]
          exact ⟨rfl, Kept.drewN (Kept.trans (hKn _) K3) _, by first | exact R3.drewN _ | (rw [if_pos hbad]; exact R3.drewN _)⟩
        | false =>
          rw [hD] at DIG2
          by_cases hC : 6 < k - p
          · have dC : decide ((6 : Int) < (k : Int) - (p : Int)) = true := decide_eq_true (by omega)
            have hbad : badNm s p = true := by rw [badNm, hE]; simp [hC]
            go_wp2_with (first | (go_at_call 146; refine (DIG2 _).mono ?_; rintro e w2 ⟨rfl, rfl⟩) | (go_at_call 70; refine (FAIL _).mono ?_; rintro e w3 ⟨rfl, R3, K3⟩; have c03 := R3.c0; have c13 := R3.c1))
            go_quiet (fail)
            go_wp2_with fail
            go_ret2
            try rw [hE]
            exact ⟨rfl, Kept.drewN (Kept.trans (hKn _) K3) _, by first | exact R3.drewN _ | (rw [if_pos hbad]; exact R3.drewN _)⟩
          · have dC : decide ((6 : Int) < (k : Int) - (p : Int)) = false := decide_eq_false (by omega)
            have hbad : ¬ badNm s p = true := by rw [badNm, hE]; simp [hD]; omega
            go_wp2_with (first | (go_at_call 146; refine (DIG2 _).mono ?_; rintro e w2 ⟨rfl, rfl⟩))
            go_quiet (fail)
            go_wp2_with fail
            go_ret2
            try rw [hE]
            exact ⟨rfl, hKn _, by first | exact hRn _ | (rw [if_neg hbad]; exact hRn _)⟩

end Go.Proofs.Ytinphcnknionmaa.Q5
