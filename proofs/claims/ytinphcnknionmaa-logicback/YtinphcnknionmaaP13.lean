/- The document's reader: Read. The document's Show. law01.Same. What the constant text says, plainly. law01.alive; what reading keeps. -/
import Derived.Test.YtinphcnknionmaaRefI
import Derived.Deep.RegionHeld3
namespace Go.Proofs.Ytinphcnknionmaa
open Go.RowKit

theorem rterm_all (f : Nat) : RTermAt f := by
  induction f using Nat.strongRecOn with
  | ind f ih =>
    intro w base r av s i l vs deep h hGo hf hb hd
    obtain ⟨f, rfl⟩ : ∃ f', f = f' + 1 := ⟨f - 1, by omega⟩
    by_cases hE : badNm s (bl s i) = true ∨ 12 < deep
    · exact rterm_err f w base r av s i l vs deep h hd hE
    · have hbad : badNm s (bl s i) = false := by
        cases hx : badNm s (bl s i) with
        | false => rfl
        | true => exact absurd (Or.inl hx) hE
      have hab : ¬ 12 < deep := fun e => hE (Or.inr e)
      cases hst : stands s (bl s (nmE s (bl s i))) 40 with
      | false => exact rterm_plain f w base r av s i l vs deep h hGo hf hb hab hbad hst
      | true => exact rterm_paren f (fun g hg => ih g (by omega)) w base r av s i l vs deep h hGo hf hb hab hbad hst

/-- The document's bank at block q. -/
structure RBk (w : World) (base q : Nat) (av : Value) (l : List Tm) (vs : List Value) : Prop where
  row : w.rowIs q 28 1 (fun _ => av)
  ls : Ls w base av l vs
  bs : base ≤ w.heap.size

theorem lsC_len (l : List Tm) (vs : List Value) (h : vs.length = l.length) : (lsC l vs).length = l.length * 2 := by
  induction l generalizing vs with
  | nil => simp [lsC]
  | cons a l ih =>
    cases vs with
    | nil => simp at h
    | cons b vs =>
      have := ih vs (by simpa using h)
      unfold lsC at this ⊢
      simp at this ⊢
      omega
theorem lsC_one {w : World} {base : Nat} {av : Value} {l : List Tm} {vs : List Value} (h : Ls w base av l vs) : ∀ u ∈ lsC l vs, u.oneCell' = true := by
  intro u hu
  unfold lsC at hu
  rw [List.mem_flatMap] at hu
  obtain ⟨x, hx, hu⟩ := hu
  simp at hu
  rcases hu with rfl | rfl
  · rfl
  · obtain ⟨xs, hxs⟩ := h.mem (List.of_mem_zip hx).2
    obtain ⟨a, c, e⟩ := row_form hxs
    rw [e]
    rfl
theorem row_cells {w : World} {base : Nat} {e : TypeId} {k n : Nat} {v : Value} {xs : List Value} (h : w.ownsRow base e k v n xs) {g c m : Nat} (hv : v = .slice (some ⟨g, 0, none⟩) m c) : ∀ j u, xs[j]? = some u → w.cell? ((⟨g, 0, none⟩ : Addr).add j) = some u := fun j u hj => h.cells (g := g) (by rw [hv]; rfl) j u hj

theorem row_base {w : World} {B B' : Nat} {e : TypeId} {k n : Nat} {v : Value} {xs : List Value} (h : w.ownsRow B e k v n xs) (hb : B' ≤ B) : w.ownsRow B' e k v n xs := by
  refine ⟨h.1, ?_⟩
  rcases h.2 with x | ⟨b, cap, cur, e1, e2, e3⟩
  · exact Or.inl x
  · exact Or.inr ⟨b, cap, cur, e1, Nat.le_trans hb e2, e3⟩

set_option maxHeartbeats 1000000 in
theorem copied_in (w : World) (base : Nat) (av : Value) (l : List Tm) (vs : List Value) (h : Ls w base av l vs) (hl : l.length ≤ 1000) (hbase : base ≤ w.heap.size) :
    Calls Try.prog 67 #[av] w fun e w' => ∃ av', e = .returned av' ∧ Ls w' base av' l vs ∧ Kept0 w w' ∧ ∀ k, av'.ownBlock = some k → w.heap.size ≤ k := by
  obtain ⟨i0, hi0, hz0, hz1, hz2⟩ := info_parts infoRT
  rcases h.row.2 with ⟨rfl, h0⟩ | ⟨g, cap, cur, rfl, _⟩
  · go_enter Try.func67, Try.ntmps67
    go_wp2_with fail
    go_ret
    exact ⟨_, rfl, h, Kept.refl _ w, by simp [Value.ownBlock]⟩
  · have NEWS := row_cells h.row rfl
    go_enter Try.func67, Try.ntmps67
    go_wp2_with (at_builtin; refine wpList_append_here rfl _ _ 26 rfl w.heap.size 114 i0 _ 2 40 Try.underlying26 hi0 hz0 hz1 hz2 rfl (by decide) (.slice none 0 0) 0 [] rfl (World.ownsRow_nil _ _ _ _) ⟨g, 0, none⟩ l.length cap (lsC l vs) rfl (lsC_len l vs h.len) NEWS (lsC_one h) (by unfold maxLen; omega) (by omega) (Nat.le_refl _) ?_; intro v' w5 hown5 hgrow hloc)
    go_ret
    rw [Nat.zero_add, List.nil_append] at hown5
    have K : Kept0 w w5 := ⟨hgrow.os, hgrow.tape, hgrow.output, hgrow.size, fun k hk _ => hgrow.block k hk (by simp [Value.ownBlock])⟩
    refine ⟨v', rfl, ⟨h.len, row_base hown5 hbase, fun i t v h1 h2 => (h.args i t v h1 h2).kept K.grownBy (Decidable.em _)⟩, K, fun k hk => (hown5.lt k hk).1⟩

/-- The list of values behind the document's Read. -/
def RReadPost (w : World) (base q : Nat) (res : Nat × Nat × Nat × List Tm) (e : Ending) (w' : World) : Prop :=
  e = .returned (.tuple #[.int .i64 (res.1 : Int), .int .i64 (res.2.1 : Int), .int .i64 (res.2.2.1 : Int)]) ∧ (∃ av' vs', RBk w' base q av' res.2.2.2 vs') ∧ Kept1 q w w'

theorem made_rr (w : World) (base : Nat) (av : Value) (s : ByteArray) (l : List Tm) (vs : List Value) (L : Ls w base av l vs) (hs : s.size ≤ 400) (hb : base ≤ w.heap.size) (hl : l.length ≤ 1000) (h4 : ∀ u ∈ l, u.args.length ≤ 4) :
    S1 (w.alloc (.cells #[.string s, .int .i64 0, av, .int .i64 0, .int .i64 0] 112)) base w.heap.size av s 0 0 0 l vs := by
  have K : Kept0 w (w.alloc (.cells #[.string s, .int .i64 0, av, .int .i64 0, .int .i64 0] 112)) := Kept.alloc (Kept.refl _ w) _
  refine ⟨⟨World.rowIs.congr (made_row w #[.string s, .int .i64 0, av, .int .i64 0, .int .i64 0] 112) (fun j hj => ?_), by omega, hs⟩, L.kept0 K, Nat.le_trans hb K.size, hl, h4⟩
  have hj' : j < 5 := hj
  rcases (by omega : j = 0 ∨ j = 1 ∨ j = 2 ∨ j = 3 ∨ j = 4) with rfl | rfl | rfl | rfl | rfl <;> rfl

set_option maxHeartbeats 4000000 in
set_option maxRecDepth 100000 in
theorem rRead_in (w : World) (base q : Nat) (av : Value) (l : List Tm) (vs : List Value) (h : RBk w base q av l vs) (hG : Good l) (hl : l.length ≤ 150) (s : ByteArray) :
    Calls Try.prog 17 #[.pointer (some ⟨q, 0, none⟩), .string s] w (RReadPost w base q (pRead s l)) := by
  by_cases hs : 400 < s.size
  · have hp : pRead s l = (0, 1, 0, l) := by simp [pRead, hs]
    have d : (400 : Int) < (s.size : Int) := by omega
    go_enter Try.func17, Try.ntmps17
    go_wp2
    refine ⟨rfl, .tuple #[.int .i64 0, .int .i64 1, .int .i64 0], by simp [results, Try.results17], ?_⟩
    rw [hp]
    exact ⟨rfl, ⟨av, vs, h⟩, Kept.refl _ w⟩
  · have hp : pRead s l = pWhole s l := by simp [pRead, hs]
    rw [hp]
    have d : ¬ (400 : Int) < (s.size : Int) := by omega
    have c0 : w.cell? ⟨q, 0, none⟩ = some av := h.row.cell (by omega)
    have CO := copied_in w base av l vs h.ls (by omega) h.bs
    have hb0 := bl_le (s := s) (i := 0) (by omega)
    obtain ⟨aa, ac, rfl⟩ := h.ls.form
    go_enter Try.func17, Try.ntmps17
    go_wp2_with (first | (go_at_call 67; refine CO.mono ?_; rintro e w1 ⟨av1, rfl, L1, K1, F1⟩; obtain ⟨a1, k1, hav1⟩ := L1.form; subst hav1))
    have M := made_rr w1 base (.slice a1 l.length k1) s l vs L1 (by omega) (Nat.le_trans h.bs K1.size) (by omega) hG.four
    have KM : Kept0 w1 (w1.alloc (.cells #[.string s, .int .i64 0, .slice a1 l.length k1, .int .i64 0, .int .i64 0] 112)) := Kept.alloc (Kept.refl _ w1) _
    have hw1 := K1.size
    generalize w1.alloc (.cells #[.string s, .int .i64 0, .slice a1 l.length k1, .int .i64 0, .int .i64 0] 112) = w2 at *
    have TM := rterm_all (2 * s.size + 1) w2 base w1.heap.size _ s 0 l vs 0 M hG (by omega) (by omega) (by omega)
    generalize hrr : w1.heap.size = r at *
    have F1' : ∀ k, (Value.slice a1 l.length k1).ownBlock = some k → w.heap.size ≤ k := F1
    have keep : ∀ (WW : World), GR r w2 (.slice a1 l.length k1) WW (.slice a1 l.length k1) ∨ (∃ av3, GR r w2 (.slice a1 l.length k1) WW av3) → (∀ k, k < w.heap.size → WW.heap[k]? = w.heap[k]?) ∧ Kept0 w WW := by
      intro WW hGG
      have GG : Kept (fun k => k = r ∨ (Value.slice a1 l.length k1).ownBlock = some k ∨ w2.heap.size ≤ k) w2 WW := by
        rcases hGG with e | ⟨_, e⟩
        · exact e.kept
        · exact e.kept
      have hz : ∀ k, k < w.heap.size → WW.heap[k]? = w.heap[k]? := fun k hk => by
        have h2 := KM.size
        have h3 := K1.size
        refine (GG.block k (by omega) ?_).trans ((KM.block k (by omega) (fun e => e)).trans (K1.block k hk (fun e => e)))
        rintro (e | e | e)
        · omega
        · have := F1' k e; omega
        · omega
      exact ⟨hz, ⟨GG.os.trans (KM.os.trans K1.os), GG.tape.trans (KM.tape.trans K1.tape), GG.output.trans (KM.output.trans K1.output), Nat.le_trans K1.size (Nat.le_trans KM.size GG.size), fun k hk _ => hz k hk⟩⟩
    have back : ∀ (WW : World), (∃ av3, GR r w2 (.slice a1 l.length k1) WW av3) → RBk WW base q (.slice aa l.length ac) l vs ∧ Kept1 q w WW := by
      intro WW hGG
      obtain ⟨hz, K⟩ := keep WW (Or.inr hGG)
      exact ⟨⟨h.row.of_block (hz q h.row.lt), h.ls.kept0 K, Nat.le_trans h.bs K.size⟩, Kept.mono K (fun _ _ e => e.elim)⟩
    cases hx : pTerm s (2 * s.size + 1) 0 (bl s 0) l with
    | bad c qq l2 =>
      have hpw : pWhole s l = (0, c, qq, l) := by simp [pWhole, hx]
      rw [hx] at TM
      have hc1 := ((p_bad s (2 * s.size + 1)).1 0 (bl s 0) l c qq l2 hb0 (by omega) hx).1
      have dE : ((c : Int) == 0) = false := beq_eq_false_iff_ne.2 (by omega)
      have dN : ((c : Int) != 0) = true := by simp; omega
      go_wp2_with (first | (go_at_call 68; refine TM.mono ?_; rintro e w3 ⟨rfl, av3, i3, l3, vs3, S3, G3, N3⟩; have BLK := rblanks_in w3 r s _ av3 c qq S3.rd))
      by_cases hlt : bl s i3 < s.size
      · have dl : decide ((bl s i3 : Int) < (s.size : Int)) = true := decide_eq_true (by omega)
        go_wp2_with (first | (go_at_call 69; refine BLK.mono ?_; rintro e w4 ⟨rfl, R4, K4⟩; have t1 := R4.c1; have FE := fail_in w4 r s _ av3 c qq R4 2 (bl s i3); rw [failE_err hc1, failA_err hc1] at FE) | (go_at_call 70; refine FE.mono ?_; rintro e w5 ⟨rfl, R5, K5⟩; have t3 := R5.c3; have t4 := R5.c4))
        go_quiet (fail)
        go_wp2_with fail
        refine ⟨rfl, .tuple #[.int .i64 0, .int .i64 (c : Int), .int .i64 (qq : Int)], by simp [results, Try.results17], ?_⟩
        rw [hpw]
        obtain ⟨B9, K9⟩ := back _ ⟨av3, ((G3.kept1 K4).kept1 K5).step (Kept.drewN (Kept.refl (fun _ => False) w5) nq) (fun _ _ e => e.elim)⟩
        exact ⟨rfl, ⟨_, _, B9⟩, K9⟩
      · have dl : decide ((bl s i3 : Int) < (s.size : Int)) = false := decide_eq_false (by omega)
        go_wp2_with (first | (go_at_call 69; refine BLK.mono ?_; rintro e w4 ⟨rfl, R4, K4⟩; have t1 := R4.c1; have t3 := R4.c3; have t4 := R4.c4))
        go_quiet (fail)
        go_wp2_with fail
        refine ⟨rfl, .tuple #[.int .i64 0, .int .i64 (c : Int), .int .i64 (qq : Int)], by simp [results, Try.results17], ?_⟩
        rw [hpw]
        obtain ⟨B9, K9⟩ := back _ ⟨av3, (G3.kept1 K4).step (Kept.drewN (Kept.refl (fun _ => False) w4) nq) (fun _ _ e => e.elim)⟩
        exact ⟨rfl, ⟨_, _, B9⟩, K9⟩
    | ok n k l' =>
      rw [hx] at TM
      go_wp2_with (first | (go_at_call 68; refine TM.mono ?_; rintro e w3 ⟨rfl, av3, i3, vs3, S3, hi3, G3, N3⟩; have BLK := rblanks_in w3 r s _ av3 0 0 S3.rd; rw [hi3] at BLK))
      obtain ⟨aa3, ac3, hav3⟩ := S3.ls.form
      subst hav3
      have lo3 := S3.lo
      by_cases hlt : k < s.size
      · have hpw : pWhole s l = (0, 2, k, l) := by simp [pWhole, hx, hlt]
        have dl : decide ((k : Int) < (s.size : Int)) = true := decide_eq_true (by omega)
        go_wp2_with (first | (go_at_call 69; refine BLK.mono ?_; rintro e w4 ⟨rfl, R4, K4⟩; have t1 := R4.c1; have FE : Calls Try.prog 70 #[.pointer (some ⟨r, 0, none⟩), .int .i64 ((2 : Nat) : Int), .int .i64 (k : Int)] w4 fun x w' => x = .returned (.tuple #[]) ∧ Rr w' r s k _ 2 k ∧ Kept1 r w4 w' := fail_in w4 r s _ _ 0 0 R4 2 k) | (go_at_call 70; refine FE.mono ?_; rintro e w5 ⟨rfl, R5, K5⟩; have t3 := R5.c3; have t4 := R5.c4))
        go_quiet (fail)
        go_wp2_with fail
        refine ⟨rfl, .tuple #[.int .i64 0, .int .i64 2, .int .i64 (k : Int)], by simp [results, Try.results17], ?_⟩
        rw [hpw]
        obtain ⟨B9, K9⟩ := back _ ⟨_, ((G3.kept1 K4).kept1 K5).step (Kept.drewN (Kept.refl (fun _ => False) w5) nq) (fun _ _ e => e.elim)⟩
        exact ⟨rfl, ⟨_, _, B9⟩, K9⟩
      · have dl : decide ((k : Int) < (s.size : Int)) = false := decide_eq_false (by omega)
        by_cases hm : 150 < l'.length
        · have hpw : pWhole s l = (0, 6, 0, l) := by simp [pWhole, hx, hlt, hm]
          have dm : decide ((150 : Int) < (l'.length : Int)) = true := decide_eq_true (by omega)
          go_wp2_with (first | (go_at_call 69; refine BLK.mono ?_; rintro e w4 ⟨rfl, R4, K4⟩; have t1 := R4.c1; have t3 := R4.c3; have t2 := R4.c2; have FE : Calls Try.prog 70 #[.pointer (some ⟨r, 0, none⟩), .int .i64 ((6 : Nat) : Int), .int .i64 ((0 : Nat) : Int)] w4 fun x w' => x = .returned (.tuple #[]) ∧ Rr w' r s k _ 6 0 ∧ Kept1 r w4 w' := fail_in w4 r s _ _ 0 0 R4 6 0) | (go_at_call 70; refine FE.mono ?_; rintro e w5 ⟨rfl, R5, K5⟩; have t3 := R5.c3; have t4 := R5.c4))
          go_quiet (fail)
          go_wp2_with fail
          refine ⟨rfl, .tuple #[.int .i64 0, .int .i64 6, .int .i64 0], by simp [results, Try.results17], ?_⟩
          rw [hpw]
          obtain ⟨B9, K9⟩ := back _ ⟨_, ((G3.kept1 K4).kept1 K5).step (Kept.drewN (Kept.refl (fun _ => False) w5) nq) (fun _ _ e => e.elim)⟩
          exact ⟨rfl, ⟨_, _, B9⟩, K9⟩
        · have hpw : pWhole s l = (n, 0, 0, l') := by simp [pWhole, hx, hlt, hm]
          have dm : decide ((150 : Int) < (l'.length : Int)) = false := decide_eq_false (by omega)
          go_wp2_with (first | (go_at_call 69; refine BLK.mono ?_; rintro e w4 ⟨rfl, R4, K4⟩; have t1 := R4.c1; have t3 := R4.c3; have t2 := R4.c2; have B4 := (back w4 ⟨_, G3.kept1 K4⟩).1; have q0 := World.rowIs.cell B4.row (i := 0) (by omega); have q1 := World.rowIs.frozen B4.row 0))
          have SS := S3.read K4 R4
          obtain ⟨B9, K9⟩ := back w4 ⟨_, G3.kept1 K4⟩
          refine ⟨rfl, .tuple #[.int .i64 (n : Int), .int .i64 0, .int .i64 0], by simp [results, Try.results17], ?_⟩
          rw [hpw]
          have KQ : Kept1 q w4 (w4.setCell ⟨q, 0, none⟩ (.slice aa3 l'.length ac3)) := Kept1.set (Kept.refl _ w4) _ _
          refine ⟨rfl, ⟨.slice aa3 l'.length ac3, vs3, ⟨Box.set B9.row _, SS.ls.blocks (fun b hb => KQ.block b (row_lt SS.ls.row hb) (fun e => row_ne SS.ls.row B9.row (by decide) (e ▸ hb))) (fun u hu b hb => ?_), Nat.le_trans B9.bs KQ.size⟩⟩, Kept.trans K9 KQ⟩
          obtain ⟨ys, hy⟩ := SS.ls.mem hu
          exact KQ.block b (row_lt hy hb) (fun e => row_ne hy B9.row (by decide) (e ▸ hb))

end Go.Proofs.Ytinphcnknionmaa

namespace Go.Proofs.Ytinphcnknionmaa
open Go.RowKit

/-- Bytes as a text. -/
def bt (l : List UInt8) : ByteArray := ⟨l.toArray⟩
theorem bt_size (l : List UInt8) : (bt l).size = l.length := by simp [bt, ByteArray.size]
theorem bt_app (a b : List UInt8) : bt a ++ bt b = bt (a ++ b) := by
  apply ByteArray.ext
  simp [bt]
theorem bt_name (n : ByteArray) : bt n.data.toList = n := by cases n; simp [bt]

def RShowAt (f : Nat) : Prop := ∀ (w : World) (base : Nat) (av : Value) (l : List Tm) (vs : List Value) (n : Nat), Ls w base av l vs → Hgt l f n → (∀ t ∈ l, t.ok) → l.length ≤ 1000 → f ≤ 13 →
  Calls Try.prog 71 #[av, .int .i64 (n : Int)] w fun e w' => e = .returned (.string (bt (shw l f n))) ∧ Kept0 w w'

set_option maxHeartbeats 4000000 in
set_option maxRecDepth 100000 in
theorem rshow_step (f : Nat) (IH : RShowAt f) : RShowAt (f + 1) := by
  intro w base av l vs n h hg hoks hl hf13
  obtain ⟨t, ht, hargs⟩ := hg
  have hnl : n < l.length := (List.getElem?_eq_some_iff.1 ht).1
  have hok := hoks t (List.mem_of_getElem? ht)
  have hshw : shw l (f + 1) n = t.name.data.toList ++ (if t.args.length = 0 then [] else 40 :: (joinTo (fun j => shw l f (t.arg j)) t.args.length ++ [41])) := by rw [shw, ht]
  obtain ⟨g, cap, v, rfl, _, g0, g1, hv⟩ := h.at ht
  obtain ⟨va, vc, rfl⟩ := row_form hv
  have K1 : Kept0 w (w.alloc (.cells #[.string t.name, .slice va t.args.length vc] 114)) := Kept.alloc (Kept.refl _ w) _
  have R1 := made_row w #[.string t.name, .slice va t.args.length vc] 114
  have hnm := hok.name
  have ha4 := hok.args
  generalize hw1 : w.alloc (.cells #[.string t.name, .slice va t.args.length vc] 114) = w1 at *
  have y0 : w1.cell? ⟨w.heap.size, 0, none⟩ = some (.string t.name) := World.rowIs.cell R1 (i := 0) (by simp)
  have y1 : w1.cell? ⟨w.heap.size, 1, none⟩ = some (.slice va t.args.length vc) := World.rowIs.cell R1 (i := 1) (by simp)
  have dlo : decide ((n : Int) < 0) = false := decide_eq_false (by omega)
  have dhi : decide (l.length ≤ n) = false := decide_eq_false (by omega)
  have dhi' : decide ((l.length : Int) ≤ (n : Int)) = false := decide_eq_false (by omega)
  by_cases hz : t.args.length = 0
  · have d0 : ((t.args.length : Int) == 0) = true := beq_iff_eq.2 (by omega)
    rw [if_pos hz, List.append_nil] at hshw
    clear hz
    go_enter Try.func71, Try.ntmps71
    go_wp2_with fail
    go_ret
    exact ⟨by rw [hshw, bt_name]; rfl, K1⟩
  · have d0 : ((t.args.length : Int) == 0) = false := beq_eq_false_iff_ne.2 (by omega)
    rw [if_neg hz] at hshw
    have hs1 : ¬ (9223372036854775807 < t.name.size + (ByteArray.mk #[40]).size) := by have : (ByteArray.mk #[40]).size = 1 := rfl; omega
    have e1 : t.name ++ ByteArray.mk #[40] = bt (t.name.data.toList ++ 40 :: joinTo (fun j => shw l f (t.arg j)) 0) := by
      rw [show ByteArray.mk #[40] = bt [40] from rfl, ← bt_name t.name, bt_app, bt_name]
      rfl
    go_enter Try.func71, Try.ntmps71
    go_wp2_with fail
    clear hw1 hs1 e1 g0 g1
    generalize w.heap.size = x at R1 y0 y1 ⊢
    have hM : 12 * 5 ^ f ≤ 2929687500 := by
      have : 5 ^ f ≤ 5 ^ 12 := Nat.pow_le_pow_right (by omega) (by omega)
      have e : (5 : Nat) ^ 12 = 244140625 := rfl
      omega
    have hJ : ∀ k, k ≤ 4 → (joinTo (fun j => shw l f (t.arg j)) k).length ≤ 12000000000 := fun k hk => by
      have h1 := joinTo_len (f := fun j => shw l f (t.arg j)) (M := 12 * 5 ^ f) (k := k) (fun j _ => shw_len hoks f (t.arg j))
      have h2 : k * (12 * 5 ^ f + 1) ≤ 4 * (12 * 5 ^ f + 1) := Nat.mul_le_mul_right _ hk
      omega
    have hnl6 : t.name.data.toList.length ≤ 6 := by simpa using hnm
    have HM : Hid (12 * 5 ^ f ≤ 2929687500) := hM
    have HJ : Hid (∀ k, k ≤ 4 → (joinTo (fun j => shw l f (t.arg j)) k).length ≤ 12000000000) := hJ
    clear hM hJ
    go_loopw [6, 7] (fun t6 t7 W => ∃ k : Nat, k ≤ t.args.length ∧ t7 = .int .i64 (k : Int) ∧ t6 = .string (bt (t.name.data.toList ++ 40 :: joinTo (fun j => shw l f (t.arg j)) k)) ∧ Hid (Kept0 w1 W)) (fun _ t7 _ => t.args.length - (intOf t7).toNat)
    case atStart => exact ⟨0, by omega, rfl, rfl, Kept.refl _ w1⟩
    case round =>
      obtain ⟨k, hk, rfl, rfl, KK⟩ := hrel
      clear y0 y1
      have RW := World.rowIs.of_block R1 (KK.out.block x (World.rowIs.lt R1) (fun e => e))
      have y1 : wr.cell? ⟨x, 1, none⟩ = some (.slice va t.args.length vc) := World.rowIs.cell RW (i := 1) (by simp)
      have KA : Kept0 w wr := Kept.trans K1 KK.out
      have LW := h.kept0 KA
      have hX : Hid ((t.name.data.toList ++ 40 :: joinTo (fun j => shw l f (t.arg j)) k).length ≤ 12000000007) := by
        show _ ≤ _
        have := HJ.out k (by omega)
        simp only [List.length_append, List.length_cons]
        omega
      by_cases hk2 : k < t.args.length
      · have dk : decide ((k : Int) < (t.args.length : Int)) = true := decide_eq_true (by omega)
        obtain ⟨g', cap', hg1, hg2⟩ := arg_cell (LW.args n t _ ht ‹vs[n]? = some _›) hk2
        injection hg1 with e1 _ e3
        subst e1 e3
        have harg : t.arg k = t.args[k] := by
          unfold Tm.arg
          rw [List.getD_eq_getElem?_getD, List.getElem?_eq_getElem hk2]
          rfl
        rw [← harg] at hg2
        have hH := hargs _ (arg_mem hk2)
        have SH := fun (W : World) (L : Ls W base (.slice (some ⟨g, 0, none⟩) l.length cap) l vs) => IH W base _ l vs (t.arg k) L hH hoks hl (by omega)
        have hSl : Hid ((shw l f (t.arg k)).length ≤ 2929687500) := Nat.le_trans (shw_len hoks f (t.arg k)) HM.out
        have hnext : t.name.data.toList ++ 40 :: joinTo (fun j => shw l f (t.arg j)) (k + 1) = (t.name.data.toList ++ 40 :: joinTo (fun j => shw l f (t.arg j)) k) ++ ((if k = 0 then [] else [44]) ++ shw l f (t.arg k)) := by rw [joinTo]; simp
        generalize t.name.data.toList ++ 40 :: joinTo (fun j => shw l f (t.arg j)) k = X at *
        generalize hY : t.name.data.toList ++ 40 :: joinTo (fun j => shw l f (t.arg j)) (k + 1) = Y at *
        generalize hZ : shw l f (t.arg k) = Z at *
        have SHW := SH wr LW
        clear SH
        have HY : Hid (t.name.data.toList ++ 40 :: joinTo (fun j => shw l f (t.arg j)) (k + 1) = Y) := hY
        clear hY hZ hH hargs hshw harg
        by_cases h0 : k = 0
        · subst h0
          have e9 : bt X ++ bt Z = bt Y := by rw [bt_app, hnext]; simp
          have s9 : ¬ (9223372036854775807 < (bt X).size + (bt Z).size) := by rw [bt_size, bt_size]; have := hX.out; have := hSl.out; omega
          clear hnext
          go_wp2_with (first | (go_at_call 71; refine SHW.mono ?_; rintro e w4 ⟨rfl, K4⟩))
          go_roundw
          case rel => exact ⟨1, by omega, by simp, by rw [HY.out], Kept.trans KK.out K4⟩
          case measure => simp [intOf]; omega
        · have dz : decide ((0 : Int) < (k : Int)) = true := decide_eq_true (by omega)
          have e8 : bt X ++ ByteArray.mk #[44] = bt (X ++ [44]) := bt_app X [44]
          have s8 : ¬ (9223372036854775807 < (bt X).size + 1) := by rw [bt_size]; have := hX.out; omega
          have e9 : bt (X ++ [44]) ++ bt Z = bt Y := by rw [bt_app, hnext]; simp [h0]
          have s9 : ¬ (9223372036854775807 < (bt (X ++ [44])).size + (bt Z).size) := by rw [bt_size, bt_size, List.length_append]; have := hX.out; have := hSl.out; simp; omega
          clear hnext
          go_wp2_with (first | (go_at_call 71; refine SHW.mono ?_; rintro e w4 ⟨rfl, K4⟩))
          go_roundw
          case rel => exact ⟨k + 1, by omega, by go_num, by rw [HY.out], Kept.trans KK.out K4⟩
          case measure => simp [intOf]; omega
      · have dk : decide ((k : Int) < (t.args.length : Int)) = false := decide_eq_false (by omega)
        have hke : k = t.args.length := by omega
        have e9 : bt (t.name.data.toList ++ 40 :: joinTo (fun j => shw l f (t.arg j)) k) ++ ByteArray.mk #[41] = bt (shw l (f + 1) n) := by
          rw [hshw, show ByteArray.mk #[41] = bt [41] from rfl, bt_app, hke]
          simp
        have s9 : ¬ (9223372036854775807 < (bt (t.name.data.toList ++ 40 :: joinTo (fun j => shw l f (t.arg j)) k)).size + 1) := by rw [bt_size]; have := hX.out; omega
        clear hke hshw
        go_wp2_with fail
        go_ret
        exact ⟨rfl, KA⟩

theorem rshow_all : ∀ f, RShowAt f
  | 0 => fun _ _ _ _ _ _ _ hg => hg.elim
  | f + 1 => rshow_step f (rshow_all f)

end Go.Proofs.Ytinphcnknionmaa

namespace Go.Proofs.Ytinphcnknionmaa
open Go.RowKit

theorem shwB_out {l : List Tm} {n : Int} (h : inB l.length n = false) : shwB l n = ⟨#[]⟩ := by simp [shwB, h]
theorem shwB_in {l : List Tm} {n : Nat} (h : n < l.length) : shwB l (n : Int) = bt (shw l 13 n) := by simp [shwB, inB_nat h, bt]

/-- An answer's box: name and args. -/
theorem ans_box (w : World) (a b : Value) : (w.alloc (.cells #[a, b] 42)).cell? ⟨w.heap.size, 0, none⟩ = some a ∧ (w.alloc (.cells #[a, b] 42)).cell? ⟨w.heap.size, 1, none⟩ = some b :=
  ⟨World.rowIs.cell (made_row w #[a, b] 42) (i := 0) (by simp), World.rowIs.cell (made_row w #[a, b] 42) (i := 1) (by simp)⟩

theorem ans_cells {w6 : World} {B x : Nat} {va : Option Addr} {vc : Nat} {xs : List Nat} {m : Nat} {F : Nat → Value} (O : w6.ownsRow B 3 1 (.slice va xs.length vc) xs.length (argC xs)) (R : w6.rowIs x 42 m F) {i : Nat} (hi : i < xs.length) :
    ∃ gv, va = some ⟨gv, 0, none⟩ ∧ B ≤ gv ∧ gv ≠ x ∧ w6.cell? ⟨gv, i, none⟩ = some (.int .i64 (xs[i]?.getD 0 : Int)) ∧ w6.frozen? ⟨gv, i, none⟩ = false := by
  obtain ⟨gv, cap, hg, hc⟩ := arg_cell (w := w6) (base := B) (xs := xs) O hi
  injection hg with e1 _ e3
  refine ⟨gv, e1, ?_, ?_, ?_, ?_⟩
  · exact (O.lt gv (by rw [e1]; rfl)).1
  · have := row_ne O R (by decide)
    rw [e1] at this
    simpa [Value.ownBlock] using this
  · rw [hc, List.getElem?_eq_getElem hi]; rfl
  · rcases O.2 with ⟨hz, _⟩ | ⟨b, cap', cur, hb, _, hh, _⟩
    · rw [e1] at hz; cases hz
    · rw [e1] at hb
      injection hb with hb1
      injection hb1 with hb2
      injection hb2 with hb3
      subst hb3
      exact Lib.frozen_of_heap hh i

set_option maxHeartbeats 4000000 in
set_option maxRecDepth 100000 in
theorem same_law (w : World) (base p : Nat) (ev : Value) (nb fb : Nat) (l : List Tm) (h : Bk w base p ev nb fb l) (hs : Hs l) (base' : Nat) (av : Value) (vs : List Value) (L : Ls w base' av l vs) :
    Calls Try.prog 19 #[.pointer (some ⟨p, 0, none⟩), av] w fun e w' => e = .returned (.bool true) ∧ Kept0 w w' := by
  have SZ := size_in w base p ev nb fb l h
  have hsm := h.small
  have hoks := h.oks
  obtain ⟨aa, ac, rfl⟩ := L.form
  go_enter Try.func19, Try.ntmps19
  go_wp2_with (first | (go_at_call 21; refine SZ.mono ?_; rintro e w2 ⟨rfl, rfl⟩))
  go_loopw [5] (fun t5 W => ∃ k : Nat, k ≤ l.length + 2 ∧ t5 = .int .i64 ((k : Int) - 1) ∧ Hid (Kept0 w W)) (fun t5 _ => (l.length + 1 - (intOf t5)).toNat)
  case atStart => exact ⟨0, by omega, rfl, Kept.refl _ w⟩
  case round =>
    obtain ⟨k, hk, rfl, KK⟩ := hrel
    have HW := h.kept0 KK.out
    have LW := L.kept0 KK.out
    by_cases hin : 1 ≤ k ∧ k ≤ l.length
    · obtain ⟨n, rfl⟩ : ∃ n, k = n + 1 := ⟨k - 1, by omega⟩
      have hn : n < l.length := by omega
      have ht : l[n]? = some l[n] := List.getElem?_eq_getElem hn
      generalize l[n] = t at ht
      rw [show (((n + 1 : Nat) : Int) - 1) = (n : Int) from by omega]
      have dE : decide ((n : Int) ≤ (l.length : Int)) = true := decide_eq_true (by omega)
      have dL : decide ((n : Int) < 0) = false := decide_eq_false (by omega)
      have dQ : ((n : Int) == (l.length : Int)) = false := beq_eq_false_iff_ne.2 (by omega)
      have TS := term_some wr base p ev nb fb l HW n t ht
      have hok := hoks t (List.mem_of_getElem? ht)
      have ha4 := hok.args
      clear hin
      go_wp2_with (first | (go_at_call 23; refine TS.mono ?_; rintro e w4 ⟨v, rfl, O4, B4⟩; obtain ⟨va, vc, hvv⟩ := row_form O4; subst hvv))
      have K4 : Kept0 wr w4 := Below.kept0 B4
      have K5 : Kept0 w4 (w4.alloc (.cells #[.string t.name, .slice va t.args.length vc] 42)) := Kept.alloc (Kept.refl _ w4) _
      have R5 := made_row w4 #[.string t.name, .slice va t.args.length vc] 42
      generalize w4.alloc (.cells #[.string t.name, .slice va t.args.length vc] 42) = w5 at *
      have K15 : Kept0 wr w5 := Kept.trans K4 K5
      have O5 := O4.kept K5.grownBy (Decidable.em _)
      have H5 := HW.kept0 K15
      have L5 := LW.kept0 K15
      have hxw : wr.heap.size ≤ w4.heap.size := K4.size
      generalize w4.heap.size = x at *
      obtain ⟨g, cap, v', hg, hvn, g0, g1, hv'⟩ := L5.at ht
      injection hg with eg1 _ eg3
      subst eg1 eg3
      obtain ⟨ua, uc, rfl⟩ := row_form hv'
      have x0 : w5.cell? ⟨x, 0, none⟩ = some (.string t.name) := World.rowIs.cell R5 (i := 0) (by simp)
      have x1 : w5.cell? ⟨x, 1, none⟩ = some (.slice va t.args.length vc) := World.rowIs.cell R5 (i := 1) (by simp)
      have SHOW : ∀ W, Kept0 w5 W → Calls Try.prog 22 #[.pointer (some ⟨p, 0, none⟩), .int .i64 (n : Int)] W fun e w' => e = .returned (.string (bt (shw l 13 n))) ∧ Kept0 W w' := fun W K => (show_in W base p ev nb fb l (H5.kept0 K) hs (n : Int)).mono fun e w' hP => ⟨by rw [hP.1, shwB_in hn], Below.kept0 hP.2⟩
      have RSHOW : ∀ W, Kept0 w5 W → Calls Try.prog 71 #[.slice (some ⟨g, 0, none⟩) l.length ac, .int .i64 (n : Int)] W fun e w' => e = .returned (.string (bt (shw l 13 n))) ∧ Kept0 W w' := fun W K => rshow_all 13 W base' _ l vs n (L5.kept0 K) (hs n hn) hoks hsm (Nat.le_refl _)
      have KD : ∀ m, Kept0 w5 (w5.drewN m) := fun m => Kept.drewN (Kept.refl _ w5) m
      generalize bt (shw l 13 n) = Z at SHOW RSHOW
      have stay : ∀ W, Kept0 w5 W → (W.cell? ⟨x, 0, none⟩ = some (.string t.name) ∧ W.cell? ⟨x, 1, none⟩ = some (.slice va t.args.length vc) ∧ W.cell? ⟨g, n * 2, none⟩ = some (.string t.name) ∧ W.cell? ⟨g, n * 2 + 1, none⟩ = some (.slice ua t.args.length uc)) := fun W K => by
        have hc : ∀ {b o : Nat} {u : Value}, w5.cell? ⟨b, o, none⟩ = some u → W.cell? ⟨b, o, none⟩ = some u := fun {b o u} hu => (World.cell?_of_block (K.block b (World.block_lt_of_cell? w5 _ hu) (fun e => e)) ).trans hu
        exact ⟨hc x0, hc x1, hc g0, hc g1⟩
      clear x0 x1 g0 g1
      go_region_held3 (fun W => W.cell? ⟨x, 0, none⟩ = some (.string t.name) ∧ W.cell? ⟨x, 1, none⟩ = some (.slice va t.args.length vc) ∧ W.cell? ⟨g, n * 2, none⟩ = some (.string t.name) ∧ W.cell? ⟨g, n * 2 + 1, none⟩ = some (.slice ua t.args.length uc)) (exact stay _ (by first | assumption | exact KD 1)) (first | (go_at_call 22; refine (SHOW _ (by first | assumption | exact KD 1)).mono ?_; rintro e w6 ⟨rfl, K6⟩; have KS : Kept0 w5 w6 := Kept.trans (by first | assumption | exact KD 1) K6) | (go_at_call 71; refine (RSHOW _ (by first | assumption | exact KD 1)).mono ?_; rintro e w6 ⟨rfl, K6⟩; have KS : Kept0 w5 w6 := Kept.trans (by first | assumption | exact KD 1) K6))
      all_goals
        have O6 : w6.ownsRow wr.heap.size 3 1 (.slice va t.args.length vc) t.args.length (argC t.args) := O5.kept KS.grownBy (Decidable.em _)
        have R6 := World.rowIs.of_block R5 (KS.block x (World.rowIs.lt R5) (fun e => e))
        have K6w : Hid (Kept0 wr w6) := Kept.trans K15 KS
        have cells6 : ∀ i, i < t.args.length → ∃ gv, va = some ⟨gv, 0, none⟩ ∧ wr.heap.size ≤ gv ∧ gv ≠ x ∧ w6.cell? ⟨gv, i, none⟩ = some (.int .i64 (t.args[i]?.getD 0 : Int)) ∧ w6.frozen? ⟨gv, i, none⟩ = false := fun i hi => ans_cells O6 R6 hi
        have A6 : ∀ i, i < t.args.length → w6.cell? ⟨x, 1, none⟩ = some (.slice va t.args.length vc) := fun _ _ => World.rowIs.cell R6 (i := 1) (by simp)
        have x1 : w6.cell? ⟨x, 1, none⟩ = some (.slice va t.args.length vc) := World.rowIs.cell R6 (i := 1) (by simp)
        clear SHOW RSHOW stay KD O5 O6 R5 R6 K4 B4 K5 O4 TS
        go_wp2_with fail
        go_loopw [8] (fun t8 W => ∃ j : Nat, j ≤ t.args.length ∧ t8 = .int .i64 (j : Int) ∧ Hid (Kept0 wr W) ∧ W.cell? ⟨x, 1, none⟩ = some (.slice va t.args.length vc) ∧ Hid (∀ i, j ≤ i → i < t.args.length → ∃ gv, va = some ⟨gv, 0, none⟩ ∧ wr.heap.size ≤ gv ∧ gv ≠ x ∧ W.cell? ⟨gv, i, none⟩ = some (.int .i64 (t.args[i]?.getD 0 : Int)) ∧ W.frozen? ⟨gv, i, none⟩ = false)) (fun t8 _ => t.args.length - (intOf t8).toNat)
        case atStart => exact ⟨0, by omega, rfl, K6w, x1, fun i _ hi => cells6 i hi⟩
        case round =>
          obtain ⟨j, hj, rfl, KJ, xj, CJ⟩ := hrel
          clear x1 A6 cells6 K6w
          have LJ := LW.kept0 KJ.out
          obtain ⟨gl, capl, vl, hgl, _, gl0, gl1, hvl⟩ := LJ.at ht
          injection hgl with q1 _ q3
          injection q1 with q2
          injection q2 with q4
          subst q4 q3
          obtain ⟨la, lc, rfl⟩ := row_form hvl
          by_cases hj2 : j < t.args.length
          · have dj : decide ((j : Int) < (t.args.length : Int)) = true := decide_eq_true (by omega)
            obtain ⟨gv, hva, hgw, hgx, cj, fj⟩ := CJ.out j (Nat.le_refl _) hj2
            subst hva
            obtain ⟨ga, gc, hga, cl⟩ := arg_cell hvl hj2
            injection hga with r1 _ r3
            subst r1 r3
            have hgj : t.args[j]?.getD 0 = t.args[j] := by rw [List.getElem?_eq_getElem hj2]; rfl
            rw [hgj] at cj
            have dne : ((t.args[j] : Int) != (t.args[j] : Int)) = false := by simp
            go_wp2_with fail
            go_quiet (fail)
            go_wp2_with fail
            go_roundw
            case rel =>
              refine ⟨j + 1, by omega, by go_num, ?_, ?_, fun i hi1 hi2 => ?_⟩
              · exact Kept.mono (Kept.setCell (S := fun k => _ ≤ k) (p := ⟨gv, j, none⟩) (Kept.drewN (Kept.mono KJ.out (fun _ _ e => e.elim)) nq) hgw _) (fun k hk e => by omega)
              · exact (World.cell?_setCell_other _ _ _ _ (fun e => hgx (by injection e))).trans xj
              · obtain ⟨gv2, hva2, w2, w3, w4, w5⟩ := CJ.out i (by omega) hi2
                injection hva2 with z1
                injection z1 with z2
                subst z2
                exact ⟨gv, rfl, w2, w3, (World.cell?_setCell_other _ _ _ _ (fun e => by injection e with _ e2; omega)).trans w4, by simpa using w5⟩
            case measure => simp [intOf]; omega
          · have dj : decide ((j : Int) < (t.args.length : Int)) = false := decide_eq_false (by omega)
            go_wp2_with fail
            refine ⟨⟨n + 2, by omega, by rw [show (((n + 2 : Nat) : Int) - 1) = (n : Int) + 1 from by omega], Kept.trans KK.out KJ.out⟩, ?_⟩
            simp [intOf]
            omega
    · by_cases hend : k = l.length + 2
      · have dE : decide ((k : Int) - 1 ≤ (l.length : Int)) = false := decide_eq_false (by omega)
        clear hend
        go_wp2_with fail
        go_ret
        exact ⟨rfl, KK.out⟩
      · have dE : decide ((k : Int) - 1 ≤ (l.length : Int)) = true := decide_eq_true (by omega)
        have hi : inB l.length ((k : Int) - 1) = false := decide_eq_false (by omega)
        have TO := term_out wr base p ev nb fb l HW ((k : Int) - 1) hi
        by_cases h0 : k = 0
        · subst h0
          go_wp2_with (first | (go_at_call 23; refine TO.mono ?_; rintro e w4 ⟨rfl, B4⟩; have H4 := HW.below HW.low B4; have y4 := ans_box w4 (.string ⟨#[]⟩) (.slice none 0 0); have y0 := y4.1; have y1 := y4.2; have K5 : Kept0 w4 (w4.alloc (.cells #[.string ⟨#[]⟩, .slice none 0 0] 42)) := Kept.alloc (Kept.refl _ w4) _; have SH := show_in _ base p ev nb fb l (H4.kept0 K5) hs (((0 : Nat) : Int) - 1); rw [shwB_out hi] at SH) | (go_at_call 22; refine SH.mono ?_; rintro e w6 ⟨rfl, B6⟩))
          exact ⟨⟨1, by omega, by simp, Kept.trans KK.out (Kept.trans (Kept.trans (Below.kept0 B4) K5) (Below.kept0 B6))⟩, by simp [intOf]; omega⟩
        · have dL : decide ((k : Int) - 1 < 0) = false := decide_eq_false (by omega)
          have dQ : ((k : Int) - 1 == (l.length : Int)) = true := beq_iff_eq.2 (by omega)
          have hkk : Hid (k = l.length + 1) := by show _ = _; omega
          clear h0 hend hin
          go_wp2_with (first | (go_at_call 23; refine TO.mono ?_; rintro e w4 ⟨rfl, B4⟩; have H4 := HW.below HW.low B4; have y4 := ans_box w4 (.string ⟨#[]⟩) (.slice none 0 0); have y0 := y4.1; have y1 := y4.2; have K5 : Kept0 w4 (w4.alloc (.cells #[.string ⟨#[]⟩, .slice none 0 0] 42)) := Kept.alloc (Kept.refl _ w4) _; have SH := show_in _ base p ev nb fb l (H4.kept0 K5) hs ((k : Int) - 1); rw [shwB_out hi] at SH) | (go_at_call 22; refine SH.mono ?_; rintro e w6 ⟨rfl, B6⟩))
          have := hkk.out
          refine ⟨⟨k + 1, by omega, by simp, Kept.trans KK.out (Kept.trans (Kept.trans (Below.kept0 B4) K5) (Below.kept0 B6))⟩, ?_⟩
          simp [intOf]
          omega

end Go.Proofs.Ytinphcnknionmaa

namespace Go.Proofs.Ytinphcnknionmaa
open Go.RowKit

/-- f(a, g(a)) -/
def txt : ByteArray := ⟨#[102, 40, 97, 44, 32, 103, 40, 97, 41, 41]⟩
def tA : Tm := ⟨⟨#[97]⟩, []⟩
def tG : Tm := ⟨⟨#[103]⟩, [0]⟩
def tF : Tm := ⟨⟨#[102]⟩, [0, 1]⟩

theorem tx_size : txt.size = 10 := rfl
theorem tx_n0 : nmE txt 0 = 1 := by rw [nmE_at (by decide) (by decide), nmE_end (by decide)]
theorem tx_n2 : nmE txt 2 = 3 := by rw [nmE_at (by decide) (by decide), nmE_end (by decide)]
theorem tx_n5 : nmE txt 5 = 6 := by rw [nmE_at (by decide) (by decide), nmE_end (by decide)]
theorem tx_n7 : nmE txt 7 = 8 := by rw [nmE_at (by decide) (by decide), nmE_end (by decide)]
theorem tx_b0 : bl txt 0 = 0 := bl_end (by decide)
theorem tx_b1 : bl txt 1 = 1 := bl_end (by decide)
theorem tx_b2 : bl txt 2 = 2 := bl_end (by decide)
theorem tx_b3 : bl txt 3 = 3 := bl_end (by decide)
theorem tx_b4 : bl txt 4 = 5 := by rw [bl_at (by decide) (by decide), bl_end (by decide)]
theorem tx_b6 : bl txt 6 = 6 := bl_end (by decide)
theorem tx_b7 : bl txt 7 = 7 := bl_end (by decide)
theorem tx_b8 : bl txt 8 = 8 := bl_end (by decide)
theorem tx_b9 : bl txt 9 = 9 := bl_end (by decide)
theorem tx_b10 : bl txt 10 = 10 := bl_end (by decide)
theorem tx_w0 : badNm txt 0 = false := by simp only [badNm, tx_n0]; decide
theorem tx_w2 : badNm txt 2 = false := by simp only [badNm, tx_n2]; decide
theorem tx_w5 : badNm txt 5 = false := by simp only [badNm, tx_n5]; decide
theorem tx_w7 : badNm txt 7 = false := by simp only [badNm, tx_n7]; decide
theorem tx_h1 : behind txt 1 40 = 2 := by rw [behind_true (by decide)]; exact tx_b2
theorem tx_h6 : behind txt 6 40 = 7 := by rw [behind_true (by decide)]; exact tx_b7
theorem tx_h3 : behind txt 3 44 = 5 := by rw [behind_true (by decide)]; exact tx_b4
theorem tx_h8 : behind txt 8 41 = 9 := by rw [behind_true (by decide)]; exact tx_b9
theorem tx_h9 : behind txt 9 41 = 10 := by rw [behind_true (by decide)]; exact tx_b10

theorem tx_a2 (f d : Nat) (hd : ¬ 12 < d) : pTerm txt (f + 1) d 2 [] = .ok 0 3 [tA] := by
  rw [pTerm, tx_w2, tx_n2, tx_b3]
  simp only [Bool.false_eq_true, if_false, hd, show stands txt 3 40 = false from by decide]
  rfl
theorem tx_a7 (f d : Nat) (hd : ¬ 12 < d) : pTerm txt (f + 1) d 7 [tA] = .ok 0 8 [tA] := by
  rw [pTerm, tx_w7, tx_n7, tx_b8]
  simp only [Bool.false_eq_true, if_false, hd, show stands txt 8 40 = false from by decide]
  rfl
theorem tx_g (f d : Nat) (hd : ¬ 11 < d) : pTerm txt (f + 3) d 5 [tA] = .ok 1 9 [tA, tG] := by
  rw [pTerm, tx_w5, tx_n5, tx_b6, tx_h6]
  simp only [Bool.false_eq_true, if_false, show ¬ 12 < d from by omega, show stands txt 6 40 = true from by decide, if_true]
  rw [pArgs, if_neg (by decide), if_neg (by decide), tx_a7 f (d + 1) (by omega)]
  simp only [show stands txt 8 41 = true from by decide, if_true, tx_h8]
  rfl
theorem tx_f (f : Nat) : pTerm txt (f + 6) 0 0 [] = .ok 2 10 [tA, tG, tF] := by
  rw [pTerm, tx_w0, tx_n0, tx_b1, tx_h1]
  simp only [Bool.false_eq_true, if_false, show ¬ 12 < 0 from by omega, show stands txt 1 40 = true from by decide, if_true]
  rw [pArgs, if_neg (by decide), if_neg (by decide), tx_a2 (f + 3) (0 + 1) (by omega)]
  simp only [show stands txt 3 41 = false from by decide, Bool.false_eq_true, if_false, show stands txt 3 44 = true from by decide, if_true, tx_h3]
  rw [pArgs, if_neg (by decide), if_neg (by decide), tx_g f (0 + 1) (by omega)]
  simp only [show stands txt 9 41 = true from by decide, if_true, tx_h9]
  rfl
theorem tx_read : pRead txt [] = (2, 0, 0, [tA, tG, tF]) := by
  rw [pRead, if_neg (by decide), pWhole, tx_b0, show 2 * txt.size + 1 = 15 + 6 from rfl, tx_f 15]
  rfl
theorem tx_shw : shw [tA, tG, tF] 13 2 = [102, 40, 97, 44, 103, 40, 97, 41, 41] := by rfl
theorem Hs_nil : Hs [] := fun n hn => absurd hn (by simp)
theorem Good_nil : Good [] := ⟨by simp, by simp⟩

end Go.Proofs.Ytinphcnknionmaa

namespace Go.Proofs.Ytinphcnknionmaa
open Go.RowKit

/-- What a bank keeps to. -/
structure Kp (l : List Tm) : Prop where
  hs : Hs l
  good : Good l
  len : l.length ≤ 150

theorem Kp.nil : Kp [] := ⟨Hs_nil, Good_nil, by simp⟩
theorem Kp.read {l : List Tm} (h : Kp l) (s : ByteArray) : Kp (pRead s l).2.2.2 := by
  unfold pRead
  split
  · exact h
  · unfold pWhole
    have hb := bl_le (s := s) (i := 0) (by omega)
    split
    · exact h
    · next n k l' hx =>
      split
      · exact h
      · split
        · exact h
        · exact ⟨((p_hs s _).1 0 (bl s 0) l n k l' hb h.hs hx).1, (p_good s _).1 0 (bl s 0) l n k l' hb h.good hx, by show l'.length ≤ 150; omega⟩

set_option maxHeartbeats 400000 in
theorem num1_any (w : World) (a : Int) : Calls Try.prog 18 #[.int .i64 a] w fun e w' => e = .returned (.int .i64 a) ∧ w = w' := by
  go_enter Try.func18, Try.ntmps18
  go_wp2
  go_ret
  exact ⟨rfl, rfl⟩

set_option maxHeartbeats 2000000 in
set_option maxRecDepth 100000 in
theorem alive1_any (w : World) : Calls Try.prog 20 #[] w fun e w' => e = .returned (.bool true) ∧ Below w.heap.size w w' := by
  have NEW := tNew_any w
  have hKt : Kp [tA, tG, tF] := by have := Kp.nil.read txt; rw [tx_read] at this; exact this
  have TSX : ∀ (w2 : World) (p : Nat) (ev2 : Value) (nb fb : Nat), Bk w2 w.heap.size p ev2 nb fb [tA, tG, tF] → Calls Try.prog 23 #[.pointer (some ⟨p, 0, none⟩), .int .i64 2] w2 fun e w3 => ∃ g vc, e = .returned (.tuple #[.agg #[.string ⟨#[102]⟩, .slice (some ⟨g, 0, none⟩) 2 vc], .bool true]) ∧ w3.cell? ⟨g, 1, none⟩ = some (.int .i64 1) ∧ Below w2.heap.size w2 w3 := by
    intro w2 p ev2 nb fb H2
    refine (term_some w2 w.heap.size p ev2 nb fb _ H2 2 tF rfl).mono ?_
    rintro e w3 ⟨v, he, O3, B3⟩
    obtain ⟨g, cap, hv, hc⟩ := arg_cell (xs := tF.args) O3 (j := 1) (by decide)
    exact ⟨g, cap, by rw [he, hv]; rfl, hc, B3⟩
  have hsh : shwB [tA, tG, tF] 2 = ⟨#[102, 40, 97, 44, 103, 40, 97, 41, 41]⟩ := by
    have := shwB_in (l := [tA, tG, tF]) (n := 2) (by decide)
    rw [tx_shw] at this
    exact this
  go_enter Try.func20, Try.ntmps20
  go_wp2_with (first | (go_at_call 15; refine NEW.mono ?_; rintro e w1 ⟨p, nb, fb, rfl, H1, B1⟩; have RD := tRead_in w1 w.heap.size p _ nb fb [] H1 (by simp) B1.size txt; rw [tx_read] at RD; unfold txt at RD) | (go_at_call 16; refine RD.mono ?_; rintro e w2 ⟨rfl, ev2, H2, K2, _⟩; have TS := TSX w2 p ev2 nb fb H2) | (go_at_call 23; refine TS.mono ?_; rintro e w3 ⟨g, vc, rfl, c3, B3⟩; have H3 := H2.below H2.low B3; have y4 := ans_box w3 (.string ⟨#[102]⟩) (.slice (some ⟨g, 0, none⟩) 2 vc); have K4 : Kept0 w3 (w3.alloc (.cells #[.string ⟨#[102]⟩, .slice (some ⟨g, 0, none⟩) 2 vc] 42)) := Kept.alloc (Kept.refl _ w3) _; have SZ := size_in _ w.heap.size p ev2 nb fb _ (H3.kept0 K4); have SH := show_in _ w.heap.size p ev2 nb fb _ (H3.kept0 K4) hKt.hs 2; rw [hsh] at SH; have c4 := (World.cell?_of_block (K4.block g (World.block_lt_of_cell? w3 _ c3) (fun e => e))).trans c3) | (go_at_call 18; refine (num1_any _ _).mono ?_; rintro e w9 ⟨rfl, rfl⟩) | (go_at_call 21; refine SZ.mono ?_; rintro e w9 ⟨rfl, rfl⟩) | (go_at_call 22; refine SH.mono ?_; rintro e w5 ⟨rfl, B5⟩; have d0 := (B5.cell (World.block_lt_of_cell? _ _ y4.1)).trans y4.1; have d1 := (B5.cell (World.block_lt_of_cell? _ _ y4.2)).trans y4.2; have d2 := (B5.cell (World.block_lt_of_cell? _ _ c4)).trans c4))
  go_ret
  have b2 : Below w.heap.size w1 w2 := Kept.below K2 B1.size (fun k e => by
    rcases e with e | e | e | e
    · rw [e]; exact H1.bp
    · rw [e]; exact H1.bn
    · rw [e]; exact H1.bf
    · simp [Value.ownBlock] at e)
  have s1 := B1.size
  have s2 := b2.size
  have s3 := B3.size
  have s4 := K4.size
  exact ⟨rfl, (((B1.trans b2).trans (B3.mono (by omega))).trans (Kept.below K4 (by omega) (fun _ e => e.elim))).trans (B5.mono (by omega))⟩

end Go.Proofs.Ytinphcnknionmaa
