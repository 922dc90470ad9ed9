/- The document's reader: Read. The document's Show. -/
import Derived.Test.YtinphcnknionmaaSRefI
namespace Go.Proofs.Ytinphcnknionmaa
open Go.RowKit

theorem rterm_all (f : Nat) : RTermAt f := by
  induction f using Nat.strongRecOn with
  | ind f ih =>
    intro w base r av s i l vs deep h hGo hf hb hd
    obtain ⟨f, rfl⟩ : ∃ f', f = f' + 1 := ⟨f - 1, by omega⟩
    by_cases hE : badNm s (bl s i) = true ∨ 12 < deep
    · exact rterm_err f w base r av s i l vs deep h hd hE
    · have hbad : badNm s (bl s i) = false := by
        cases hx : badNm s (bl s i) with
        | false => rfl
        | true => exact absurd (Or.inl hx) hE
      have hab : ¬ 12 < deep := fun e => hE (Or.inr e)
      cases hst : stands s (bl s (nmE s (bl s i))) 40 with
      | false => exact rterm_plain f w base r av s i l vs deep h hGo hf hb hab hbad hst
      | true => exact rterm_paren f (fun g hg => ih g (by omega)) w base r av s i l vs deep h hGo hf hb hab hbad hst

/-- The document's bank at block q. -/
structure RBk (w : World) (base q : Nat) (av : Value) (l : List Tm) (vs : List Value) : Prop where
  row : w.rowIs q 28 1 (fun _ => av)
  ls : Ls w base av l vs
  bs : base ≤ w.heap.size

theorem lsC_len (l : List Tm) (vs : List Value) (h : vs.length = l.length) : (lsC l vs).length = l.length * 2 := by
  induction l generalizing vs with
  | nil => simp [lsC]
  | cons a l ih =>
    cases vs with
    | nil => simp at h
    | cons b vs =>
      have := ih vs (by simpa using h)
      unfold lsC at this ⊢
      simp at this ⊢
      omega
theorem lsC_one {w : World} {base : Nat} {av : Value} {l : List Tm} {vs : List Value} (h : Ls w base av l vs) : ∀ u ∈ lsC l vs, u.oneCell' = true := by
  intro u hu
  unfold lsC at hu
  rw [List.mem_flatMap] at hu
  obtain ⟨x, hx, hu⟩ := hu
  simp at hu
  rcases hu with rfl | rfl
  · rfl
  · obtain ⟨xs, hxs⟩ := h.mem (List.of_mem_zip hx).2
    obtain ⟨a, c, e⟩ := row_form hxs
    rw [e]
    rfl
theorem row_cells {w : World} {base : Nat} {e : TypeId} {k n : Nat} {v : Value} {xs : List Value} (h : w.ownsRow base e k v n xs) {g c m : Nat} (hv : v = .slice (some ⟨g, 0, none⟩) m c) : ∀ j u, xs[j]? = some u → w.cell? ((⟨g, 0, none⟩ : Addr).add j) = some u := fun j u hj => h.cells (g := g) (by rw [hv]; rfl) j u hj

theorem row_base {w : World} {B B' : Nat} {e : TypeId} {k n : Nat} {v : Value} {xs : List Value} (h : w.ownsRow B e k v n xs) (hb : B' ≤ B) : w.ownsRow B' e k v n xs := by
  refine ⟨h.1, ?_⟩
  rcases h.2 with x | ⟨b, cap, cur, e1, e2, e3⟩
  · exact Or.inl x
  · exact Or.inr ⟨b, cap, cur, e1, Nat.le_trans hb e2, e3⟩

set_option maxHeartbeats 1000000 in
theorem copied_in (w : World) (base : Nat) (av : Value) (l : List Tm) (vs : List Value) (h : Ls w base av l vs) (hl : l.length ≤ 1000) (hbase : base ≤ w.heap.size) :
    Calls Try.prog 67 #[av] w fun e w' => ∃ av', e = .returned av' ∧ Ls w' base av' l vs ∧ Kept0 w w' ∧ ∀ k, av'.ownBlock = some k → w.heap.size ≤ k := by
  obtain ⟨i0, hi0, hz0, hz1, hz2⟩ := info_parts infoRT
  rcases h.row.2 with ⟨rfl, h0⟩ | ⟨g, cap, cur, rfl, _⟩
  · go_enter Try.func67, Try.ntmps67
    go_wp2_with fail
    go_ret
    exact ⟨_, rfl, h, Kept.refl _ w, by simp [Value.ownBlock]⟩
  · have NEWS := row_cells h.row rfl
    go_enter Try.func67, Try.ntmps67
    go_wp2_with (at_builtin; refine wpList_append_here rfl _ _ 26 rfl w.heap.size 114 i0 _ 2 40 Try.underlying26 hi0 hz0 hz1 hz2 rfl (by decide) (.slice none 0 0) 0 [] rfl (World.ownsRow_nil _ _ _ _) ⟨g, 0, none⟩ l.length cap (lsC l vs) rfl (lsC_len l vs h.len) NEWS (lsC_one h) (by unfold maxLen; omega) (by omega) (Nat.le_refl _) ?_; intro v' w5 hown5 hgrow hloc)
    go_ret
    rw [Nat.zero_add, List.nil_append] at hown5
    have K : Kept0 w w5 := ⟨hgrow.os, hgrow.tape, hgrow.output, hgrow.size, fun k hk _ => hgrow.block k hk (by simp [Value.ownBlock])⟩
    refine ⟨v', rfl, ⟨h.len, row_base hown5 hbase, fun i t v h1 h2 => (h.args i t v h1 h2).kept K.grownBy (Decidable.em _)⟩, K, fun k hk => (hown5.lt k hk).1⟩

/-- The list of values behind the document's Read. -/
def RReadPost (w : World) (base q : Nat) (res : Nat × Nat × Nat × List Tm) (e : Ending) (w' : World) : Prop :=
  e = .returned (.tuple #[.int .i64 (res.1 : Int), .int .i64 (res.2.1 : Int), .int .i64 (res.2.2.1 : Int)]) ∧ (∃ av' vs', RBk w' base q av' res.2.2.2 vs') ∧ Kept1 q w w'

theorem made_rr (w : World) (base : Nat) (av : Value) (s : ByteArray) (l : List Tm) (vs : List Value) (L : Ls w base av l vs) (hs : s.size ≤ 400) (hb : base ≤ w.heap.size) (hl : l.length ≤ 1000) (h4 : ∀ u ∈ l, u.args.length ≤ 4) :
    S1 (w.alloc (.cells #[.string s, .int .i64 0, av, .int .i64 0, .int .i64 0] 112)) base w.heap.size av s 0 0 0 l vs := by
  have K : Kept0 w (w.alloc (.cells #[.string s, .int .i64 0, av, .int .i64 0, .int .i64 0] 112)) := Kept.alloc (Kept.refl _ w) _
  refine ⟨⟨World.rowIs.congr (made_row w #[.string s, .int .i64 0, av, .int .i64 0, .int .i64 0] 112) (fun j hj => ?_), by omega, hs⟩, L.kept0 K, Nat.le_trans hb K.size, hl, h4⟩
  have hj' : j < 5 := hj
  rcases (by omega : j = 0 ∨ j = 1 ∨ j = 2 ∨ j = 3 ∨ j = 4) with rfl | rfl | rfl | rfl | rfl <;> rfl

set_option maxHeartbeats 4000000 in
set_option maxRecDepth 100000 in
theorem rRead_in (w : World) (base q : Nat) (av : Value) (l : List Tm) (vs : List Value) (h : RBk w base q av l vs) (hG : Good l) (hl : l.length ≤ 150) (s : ByteArray) :
    Calls Try.prog 17 #[.pointer (some ⟨q, 0, none⟩), .string s] w (RReadPost w base q (pRead s l)) := by
  by_cases hs : 400 < s.size
  · have hp : pRead s l = (0, 1, 0, l) := by simp [pRead, hs]
    have d : (400 : Int) < (s.size : Int) := by omega
    go_enter Try.func17, Try.ntmps17
    go_wp2
    refine ⟨rfl, .tuple #[.int .i64 0, .int .i64 1, .int .i64 0], by simp [results, Try.results17], ?_⟩
    rw [hp]
    exact ⟨rfl, ⟨av, vs, h⟩, Kept.refl _ w⟩
  · have hp : pRead s l = pWhole s l := by simp [pRead, hs]
    rw [hp]
    have d : ¬ (400 : Int) < (s.size : Int) := by omega
    have c0 : w.cell? ⟨q, 0, none⟩ = some av := h.row.cell (by omega)
    have CO := copied_in w base av l vs h.ls (by omega) h.bs
    have hb0 := bl_le (s := s) (i := 0) (by omega)
    obtain ⟨aa, ac, rfl⟩ := h.ls.form
    go_enter Try.func17, Try.ntmps17
    go_wp2_with (first | (go_at_call 67; refine CO.mono ?_; rintro e w1 ⟨av1, rfl, L1, K1, F1⟩; obtain ⟨a1, k1, hav1⟩ := L1.form; subst hav1))
    have M := made_rr w1 base (.slice a1 l.length k1) s l vs L1 (by omega) (Nat.le_trans h.bs K1.size) (by omega) hG.four
    have KM : Kept0 w1 (w1.alloc (.cells #[.string s, .int .i64 0, .slice a1 l.length k1, .int .i64 0, .int .i64 0] 112)) := Kept.alloc (Kept.refl _ w1) _
    have hw1 := K1.size
    generalize w1.alloc (.cells #[.string s, .int .i64 0, .slice a1 l.length k1, .int .i64 0, .int .i64 0] 112) = w2 at *
    have TM := rterm_all (2 * s.size + 1) w2 base w1.heap.size _ s 0 l vs 0 M hG (by omega) (by omega) (by omega)
    generalize hrr : w1.heap.size = r at *
    have F1' : ∀ k, (Value.slice a1 l.length k1).ownBlock = some k → w.heap.size ≤ k := F1
    have keep : ∀ (WW : World), GR r w2 (.slice a1 l.length k1) WW (.slice a1 l.length k1) ∨ (∃ av3, GR r w2 (.slice a1 l.length k1) WW av3) → (∀ k, k < w.heap.size → WW.heap[k]? = w.heap[k]?) ∧ Kept0 w WW := by
      intro WW hGG
      have GG : Kept (fun k => k = r ∨ (Value.slice a1 l.length k1).ownBlock = some k ∨ w2.heap.size ≤ k) w2 WW := by
        rcases hGG with e | ⟨_, e⟩
        · exact e.kept
        · exact e.kept
      have hz : ∀ k, k < w.heap.size → WW.heap[k]? = w.heap[k]? := fun k hk => by
        have h2 := KM.size
        have h3 := K1.size
        refine (GG.block k (by omega) ?_).trans ((KM.block k (by omega) (fun e => e)).trans (K1.block k hk (fun e => e)))
        rintro (e | e | e)
        · omega
        · have := F1' k e; omega
        · omega
      exact ⟨hz, ⟨GG.os.trans (KM.os.trans K1.os), GG.tape.trans (KM.tape.trans K1.tape), GG.output.trans (KM.output.trans K1.output), Nat.le_trans K1.size (Nat.le_trans KM.size GG.size), fun k hk _ => hz k hk⟩⟩
    have back : ∀ (WW : World), (∃ av3, GR r w2 (.slice a1 l.length k1) WW av3) → RBk WW base q (.slice aa l.length ac) l vs ∧ Kept1 q w WW := by
      intro WW hGG
      obtain ⟨hz, K⟩ := keep WW (Or.inr hGG)
      exact ⟨⟨h.row.of_block (hz q h.row.lt), h.ls.kept0 K, Nat.le_trans h.bs K.size⟩, Kept.mono K (fun _ _ e => e.elim)⟩
    cases hx : pTerm s (2 * s.size + 1) 0 (bl s 0) l with
    | bad c qq l2 =>
      have hpw : pWhole s l = (0, c, qq, l) := by simp [pWhole, hx]
      rw [hx] at TM
      have hc1 := ((p_bad s (2 * s.size + 1)).1 0 (bl s 0) l c qq l2 hb0 (by omega) hx).1
      have dE : ((c : Int) == 0) = false := beq_eq_false_iff_ne.2 (by omega)
      have dN : ((c : Int) != 0) = true := by simp; omega
      go_wp2_with (first | (go_at_call 68; refine TM.mono ?_; rintro e w3 ⟨rfl, av3, i3, l3, vs3, S3, G3, N3⟩; have BLK := rblanks_in w3 r s _ av3 c qq S3.rd))
      by_cases hlt : bl s i3 < s.size
      · have dl : decide ((bl s i3 : Int) < (s.size : Int)) = true := decide_eq_true (by omega)
        go_wp2_with (first | (go_at_call 69; refine BLK.mono ?_; rintro e w4 ⟨rfl, R4, K4⟩; have t1 := R4.c1; have FE := fail_in w4 r s _ av3 c qq R4 2 (bl s i3); rw [failE_err hc1, failA_err hc1] at FE) | (go_at_call 70; refine FE.mono ?_; rintro e w5 ⟨rfl, R5, K5⟩; have t3 := R5.c3; have t4 := R5.c4))
        go_quiet (fail)
        go_wp2_with fail
        refine ⟨rfl, .tuple #[.int .i64 0, .int .i64 (c : Int), .int .i64 (qq : Int)], by simp [results, Try.results17], ?_⟩
        rw [hpw]
        obtain ⟨B9, K9⟩ := back _ ⟨av3, ((G3.kept1 K4).kept1 K5).step (Kept.drewN (Kept.refl (fun _ => False) w5) nq) (fun _ _ e => e.elim)⟩
        exact ⟨rfl, ⟨_, _, B9⟩, K9⟩
      · have dl : decide ((bl s i3 : Int) < (s.size : Int)) = false := decide_eq_false (by omega)
        go_wp2_with (first | (go_at_call 69; refine BLK.mono ?_; rintro e w4 ⟨rfl, R4, K4⟩; have t1 := R4.c1; have t3 := R4.c3; have t4 := R4.c4))
        go_quiet (fail)
        go_wp2_with fail
        refine ⟨rfl, .tuple #[.int .i64 0, .int .i64 (c : Int), .int .i64 (qq : Int)], by simp [results, Try.results17], ?_⟩
        rw [hpw]
        obtain ⟨B9, K9⟩ := back _ ⟨av3, (G3.kept1 K4).step (Kept.drewN (Kept.refl (fun _ => False) w4) nq) (fun _ _ e => e.elim)⟩
        exact ⟨rfl, ⟨_, _, B9⟩, K9⟩
    | ok n k l' =>
      rw [hx] at TM
      go_wp2_with (first | (go_at_call 68; refine TM.mono ?_; rintro e w3 ⟨rfl, av3, i3, vs3, S3, hi3, G3, N3⟩; have BLK := rblanks_in w3 r s _ av3 0 0 S3.rd; rw [hi3] at BLK))
      obtain ⟨aa3, ac3, hav3⟩ := S3.ls.form
      subst hav3
      have lo3 := S3.lo
      by_cases hlt : k < s.size
      · have hpw : pWhole s l = (0, 2, k, l) := by simp [pWhole, hx, hlt]
        have dl : decide ((k : Int) < (s.size : Int)) = true := decide_eq_true (by omega)
        go_wp2_with (first | (go_at_call 69; refine BLK.mono ?_; rintro e w4 ⟨rfl, R4, K4⟩; have t1 := R4.c1; have FE : Calls Try.prog 70 #[.pointer (some ⟨r, 0, none⟩), .int .i64 ((2 : Nat) : Int), .int .i64 (k : Int)] w4 fun x w' => x = .returned (.tuple #[]) ∧ Rr w' r s k _ 2 k ∧ Kept1 r w4 w' := fail_in w4 r s _ _ 0 0 R4 2 k) | (go_at_call 70; refine FE.mono ?_; rintro e w5 ⟨rfl, R5, K5⟩; have t3 := R5.c3; have t4 := R5.c4))
        go_quiet (fail)
        go_wp2_with fail
        refine ⟨rfl, .tuple #[.int .i64 0, .int .i64 2, .int .i64 (k : Int)], by simp [results, Try.results17], ?_⟩
        rw [hpw]
        obtain ⟨B9, K9⟩ := back _ ⟨_, ((G3.kept1 K4).kept1 K5).step (Kept.drewN (Kept.refl (fun _ => False) w5) nq) (fun _ _ e => e.elim)⟩
        exact ⟨rfl, ⟨_, _, B9⟩, K9⟩
      · have dl : decide ((k : Int) < (s.size : Int)) = false := decide_eq_false (by omega)
        by_cases hm : 150 < l'.length
        · have hpw : pWhole s l = (0, 6, 0, l) := by simp [pWhole, hx, hlt, hm]
          have dm : decide ((150 : Int) < (l'.length : Int)) = true := decide_eq_true (by omega)
          go_wp2_with (first | (go_at_call 69; refine BLK.mono ?_; rintro e w4 ⟨rfl, R4, K4⟩; have t1 := R4.c1; have t3 := R4.c3; have t2 := R4.c2; have FE : Calls Try.prog 70 #[.pointer (some ⟨r, 0, none⟩), .int .i64 ((6 : Nat) : Int), .int .i64 ((0 : Nat) : Int)] w4 fun x w' => x = .returned (.tuple #[]) ∧ Rr w' r s k _ 6 0 ∧ Kept1 r w4 w' := fail_in w4 r s _ _ 0 0 R4 6 0) | (go_at_call 70; refine FE.mono ?_; rintro e w5 ⟨rfl, R5, K5⟩; have t3 := R5.c3; have t4 := R5.c4))
          go_quiet (fail)
          go_wp2_with fail
          refine ⟨rfl, .tuple #[.int .i64 0, .int .i64 6, .int .i64 0], by simp [results, Try.results17], ?_⟩
          rw [hpw]
          obtain ⟨B9, K9⟩ := back _ ⟨_, ((G3.kept1 K4).kept1 K5).step (Kept.drewN (Kept.refl (fun _ => False) w5) nq) (fun _ _ e => e.elim)⟩
          exact ⟨rfl, ⟨_, _, B9⟩, K9⟩
        · have hpw : pWhole s l = (n, 0, 0, l') := by simp [pWhole, hx, hlt, hm]
          have dm : decide ((150 : Int) < (l'.length : Int)) = false := decide_eq_false (by omega)
          go_wp2_with (first | (go_at_call 69; refine BLK.mono ?_; rintro e w4 ⟨rfl, R4, K4⟩; have t1 := R4.c1; have t3 := R4.c3; have t2 := R4.c2; have B4 := (back w4 ⟨_, G3.kept1 K4⟩).1; have q0 := World.rowIs.cell B4.row (i := 0) (by omega); have q1 := World.rowIs.frozen B4.row 0))
          have SS := S3.read K4 R4
          obtain ⟨B9, K9⟩ := back w4 ⟨_, G3.kept1 K4⟩
          refine ⟨rfl, .tuple #[.int .i64 (n : Int), .int .i64 0, .int .i64 0], by simp [results, Try.results17], ?_⟩
          rw [hpw]
          have KQ : Kept1 q w4 (w4.setCell ⟨q, 0, none⟩ (.slice aa3 l'.length ac3)) := Kept1.set (Kept.refl _ w4) _ _
          refine ⟨rfl, ⟨.slice aa3 l'.length ac3, vs3, ⟨Box.set B9.row _, SS.ls.blocks (fun b hb => KQ.block b (row_lt SS.ls.row hb) (fun e => row_ne SS.ls.row B9.row (by decide) (e ▸ hb))) (fun u hu b hb => ?_), Nat.le_trans B9.bs KQ.size⟩⟩, Kept.trans K9 KQ⟩
          obtain ⟨ys, hy⟩ := SS.ls.mem hu
          exact KQ.block b (row_lt hy hb) (fun e => row_ne hy B9.row (by decide) (e ▸ hb))

end Go.Proofs.Ytinphcnknionmaa

namespace Go.Proofs.Ytinphcnknionmaa
open Go.RowKit

/-- Bytes as a text. -/
def bt (l : List UInt8) : ByteArray := ⟨l.toArray⟩
theorem bt_size (l : List UInt8) : (bt l).size = l.length := by simp [bt, ByteArray.size]
theorem bt_app (a b : List UInt8) : bt a ++ bt b = bt (a ++ b) := by
  apply ByteArray.ext
  simp [bt]
theorem bt_name (n : ByteArray) : bt n.data.toList = n := by cases n; simp [bt]

def RShowAt (f : Nat) : Prop := ∀ (w : World) (base : Nat) (av : Value) (l : List Tm) (vs : List Value) (n : Nat), Ls w base av l vs → Hgt l f n → (∀ t ∈ l, t.ok) → l.length ≤ 1000 → f ≤ 13 →
  Calls Try.prog 71 #[av, .int .i64 (n : Int)] w fun e w' => e = .returned (.string (bt (shw l f n))) ∧ Kept0 w w'

set_option maxHeartbeats 4000000 in
set_option maxRecDepth 100000 in
theorem rshow_step (f : Nat) (IH : RShowAt f) : RShowAt (f + 1) := by
  intro w base av l vs n h hg hoks hl hf13
  obtain ⟨t, ht, hargs⟩ := hg
  have hnl : n < l.length := (List.getElem?_eq_some_iff.1 ht).1
  have hok := hoks t (List.mem_of_getElem? ht)
  have hshw : shw l (f + 1) n = t.name.data.toList ++ (if t.args.length = 0 then [] else 40 :: (joinTo (fun j => shw l f (t.arg j)) t.args.length ++ [41])) := by rw [shw, ht]
  obtain ⟨g, cap, v, rfl, _, g0, g1, hv⟩ := h.at ht
  obtain ⟨va, vc, rfl⟩ := row_form hv
  have K1 : Kept0 w (w.alloc (.cells #[.string t.name, .slice va t.args.length vc] 114)) := Kept.alloc (Kept.refl _ w) _
  have R1 := made_row w #[.string t.name, .slice va t.args.length vc] 114
  have hnm := hok.name
  have ha4 := hok.args
  generalize hw1 : w.alloc (.cells #[.string t.name, .slice va t.args.length vc] 114) = w1 at *
  have y0 : w1.cell? ⟨w.heap.size, 0, none⟩ = some (.string t.name) := World.rowIs.cell R1 (i := 0) (by simp)
  have y1 : w1.cell? ⟨w.heap.size, 1, none⟩ = some (.slice va t.args.length vc) := World.rowIs.cell R1 (i := 1) (by simp)
  have dlo : decide ((n : Int) < 0) = false := decide_eq_false (by omega)
  have dhi : decide (l.length ≤ n) = false := decide_eq_false (by omega)
  have dhi' : decide ((l.length : Int) ≤ (n : Int)) = false := decide_eq_false (by omega)
  by_cases hz : t.args.length = 0
  · have d0 : ((t.args.length : Int) == 0) = true := beq_iff_eq.2 (by omega)
    rw [if_pos hz, List.append_nil] at hshw
    clear hz
    go_enter Try.func71, Try.ntmps71
    go_wp2_with fail
    go_ret
    exact ⟨by rw [hshw, bt_name]; rfl, K1⟩
  · have d0 : ((t.args.length : Int) == 0) = false := beq_eq_false_iff_ne.2 (by omega)
    rw [if_neg hz] at hshw
    have hs1 : ¬ (9223372036854775807 < t.name.size + (ByteArray.mk #[40]).size) := by have : (ByteArray.mk #[40]).size = 1 := rfl; omega
    have e1 : t.name ++ ByteArray.mk #[40] = bt (t.name.data.toList ++ 40 :: joinTo (fun j => shw l f (t.arg j)) 0) := by
      rw [show ByteArray.mk #[40] = bt [40] from rfl, ← bt_name t.name, bt_app, bt_name]
      rfl
    go_enter Try.func71, Try.ntmps71
    go_wp2_with fail
    clear hw1 hs1 e1 g0 g1
    generalize w.heap.size = x at R1 y0 y1 ⊢
    have hM : 12 * 5 ^ f ≤ 2929687500 := by
      have : 5 ^ f ≤ 5 ^ 12 := Nat.pow_le_pow_right (by omega) (by omega)
      have e : (5 : Nat) ^ 12 = 244140625 := rfl
      omega
    have hJ : ∀ k, k ≤ 4 → (joinTo (fun j => shw l f (t.arg j)) k).length ≤ 12000000000 := fun k hk => by
      have h1 := joinTo_len (f := fun j => shw l f (t.arg j)) (M := 12 * 5 ^ f) (k := k) (fun j _ => shw_len hoks f (t.arg j))
      have h2 : k * (12 * 5 ^ f + 1) ≤ 4 * (12 * 5 ^ f + 1) := Nat.mul_le_mul_right _ hk
      omega
    have hnl6 : t.name.data.toList.length ≤ 6 := by simpa using hnm
    have HM : Hid (12 * 5 ^ f ≤ 2929687500) := hM
    have HJ : Hid (∀ k, k ≤ 4 → (joinTo (fun j => shw l f (t.arg j)) k).length ≤ 12000000000) := hJ
    clear hM hJ
    go_loopw [6, 7] (fun t6 t7 W => ∃ k : Nat, k ≤ t.args.length ∧ t7 = .int .i64 (k : Int) ∧ t6 = .string (bt (t.name.data.toList ++ 40 :: joinTo (fun j => shw l f (t.arg j)) k)) ∧ Hid (Kept0 w1 W)) (fun _ t7 _ => t.args.length - (intOf t7).toNat)
    case atStart => exact ⟨0, by omega, rfl, rfl, Kept.refl _ w1⟩
    case round =>
      obtain ⟨k, hk, rfl, rfl, KK⟩ := hrel
      clear y0 y1
      have RW := World.rowIs.of_block R1 (KK.out.block x (World.rowIs.lt R1) (fun e => e))
      have y1 : wr.cell? ⟨x, 1, none⟩ = some (.slice va t.args.length vc) := World.rowIs.cell RW (i := 1) (by simp)
      have KA : Kept0 w wr := Kept.trans K1 KK.out
      have LW := h.kept0 KA
      have hX : Hid ((t.name.data.toList ++ 40 :: joinTo (fun j => shw l f (t.arg j)) k).length ≤ 12000000007) := by
        show _ ≤ _
        have := HJ.out k (by omega)
        simp only [List.length_append, List.length_cons]
        omega
      by_cases hk2 : k < t.args.length
      · have dk : decide ((k : Int) < (t.args.length : Int)) = true := decide_eq_true (by omega)
        obtain ⟨g', cap', hg1, hg2⟩ := arg_cell (LW.args n t _ ht ‹vs[n]? = some _›) hk2
        injection hg1 with e1 _ e3
        subst e1 e3
        have harg : t.arg k = t.args[k] := by
          unfold Tm.arg
          rw [List.getD_eq_getElem?_getD, List.getElem?_eq_getElem hk2]
          rfl
        rw [← harg] at hg2
        have hH := hargs _ (arg_mem hk2)
        have SH := fun (W : World) (L : Ls W base (.slice (some ⟨g, 0, none⟩) l.length cap) l vs) => IH W base _ l vs (t.arg k) L hH hoks hl (by omega)
        have hSl : Hid ((shw l f (t.arg k)).length ≤ 2929687500) := Nat.le_trans (shw_len hoks f (t.arg k)) HM.out
        have hnext : t.name.data.toList ++ 40 :: joinTo (fun j => shw l f (t.arg j)) (k + 1) = (t.name.data.toList ++ 40 :: joinTo (fun j => shw l f (t.arg j)) k) ++ ((if k = 0 then [] else [44]) ++ shw l f (t.arg k)) := by rw [joinTo]; simp
        generalize t.name.data.toList ++ 40 :: joinTo (fun j => shw l f (t.arg j)) k = X at *
        generalize hY : t.name.data.toList ++ 40 :: joinTo (fun j => shw l f (t.arg j)) (k + 1) = Y at *
        generalize hZ : shw l f (t.arg k) = Z at *
        have SHW := SH wr LW
        clear SH
        have HY : Hid (t.name.data.toList ++ 40 :: joinTo (fun j => shw l f (t.arg j)) (k + 1) = Y) := hY
        clear hY hZ hH hargs hshw harg
        by_cases h0 : k = 0
        · subst h0
          have e9 : bt X ++ bt Z = bt Y := by rw [bt_app, hnext]; simp
          have s9 : ¬ (9223372036854775807 < (bt X).size + (bt Z).size) := by rw [bt_size, bt_size]; have := hX.out; have := hSl.out; omega
          clear hnext
          go_wp2_with (first | (go_at_call 71; refine SHW.mono ?_; rintro e w4 ⟨rfl, K4⟩))
          go_roundw
          case rel => exact ⟨1, by omega, by simp, by rw [HY.out], Kept.trans KK.out K4⟩
          case measure => simp [intOf]; omega
        · have dz : decide ((0 : Int) < (k : Int)) = true := decide_eq_true (by omega)
          have e8 : bt X ++ ByteArray.mk #[44] = bt (X ++ [44]) := bt_app X [44]
          have s8 : ¬ (9223372036854775807 < (bt X).size + 1) := by rw [bt_size]; have := hX.out; omega
          have e9 : bt (X ++ [44]) ++ bt Z = bt Y := by rw [bt_app, hnext]; simp [h0]
          have s9 : ¬ (9223372036854775807 < (bt (X ++ [44])).size + (bt Z).size) := by rw [bt_size, bt_size, List.length_append]; have := hX.out; have := hSl.out; simp; omega
          clear hnext
          go_wp2_with (first | (go_at_call 71; refine SHW.mono ?_; rintro e w4 ⟨rfl, K4⟩))
          go_roundw
          case rel => exact ⟨k + 1, by omega, by go_num, by rw [HY.out], Kept.trans KK.out K4⟩
          case measure => simp [intOf]; omega
      · have dk : decide ((k : Int) < (t.args.length : Int)) = false := decide_eq_false (by omega)
        have hke : k = t.args.length := by omega
        have e9 : bt (t.name.data.toList ++ 40 :: joinTo (fun j => shw l f (t.arg j)) k) ++ ByteArray.mk #[41] = bt (shw l (f + 1) n) := by
          rw [hshw, show ByteArray.mk #[41] = bt [41] from rfl, bt_app, hke]
          simp
        have s9 : ¬ (9223372036854775807 < (bt (t.name.data.toList ++ 40 :: joinTo (fun j => shw l f (t.arg j)) k)).size + 1) := by rw [bt_size]; have := hX.out; omega
        clear hke hshw
        go_wp2_with fail
        go_ret
        exact ⟨rfl, KA⟩

theorem rshow_all : ∀ f, RShowAt f
  | 0 => fun _ _ _ _ _ _ _ hg => hg.elim
  | f + 1 => rshow_step f (rshow_all f)

end Go.Proofs.Ytinphcnknionmaa
