/- law07: DecideEqualities, its loop. -/
import Derived.Test.YtlehlgipbhfioaaGreatP51
import Derived.Test.YtlehlgipbhfioaaGreatDfJ
import Derived.Test.YtlehlgipbhfioaaGreatP22
import Derived.Test.YtlehlgipbhfioaaGreatP24
namespace Go.Proofs.YtlehlgipbhfioaaGreat
open Go.RowKit Go.Maps

theorem kept0_of {w w' : World} (h : Below w.heap.size w w') : Kept0 w w' := ⟨h.os, h.tape, h.output, h.size, fun k hk _ => h.block k hk⟩
def eLf (q : Pr) : Lf := qLf (q.1 : Int) (q.2 : Int)
/-- The loop's state: a closure that was told qs, a row of Forms of rq. -/
structure EqS (w W : World) (l : List Tm) (c : Ks) (v : Value) (rq qs : List Pr) : Prop where
  bel : Below w.heap.size w W
  cl : Cl W w.heap.size l c qs
  row : W.ownsRow w.heap.size 36 4 v rq.length ((rq.map eLf).flatMap formC)
  sep : ∀ k, v.ownBlock = some k → ¬ c.All k
theorem EqS.below {w W W' : World} {l : List Tm} {c : Ks} {v : Value} {rq qs : List Pr} (h : EqS w W l c v rq qs) (hB : Below W.heap.size W W') : EqS w W' l c v rq qs :=
  ⟨h.bel.trans (hB.mono h.bel.size), h.cl.kept0 (kept0_of hB), ownsRow_below h.row hB, h.sep⟩
theorem EqS.push {w W W1 w8 : World} {l : List Tm} {c : Ks} {v v8 : Value} {rq qs : List Pr} (h : EqS w W l c v rq qs) (q : Pr) (hB1 : Below W.heap.size W W1) (hown : w8.ownsRow w.heap.size 36 4 v8 (rq.length + 1) ((rq.map eLf).flatMap formC ++ [.int .i64 0, .int .i64 (q.1 : Int), .int .i64 (q.2 : Int), .slice none 0 0])) (hgrow : W1.grownBy w8 v.ownBlock) (hat : v8.ownBlock = v.ownBlock ∨ ∀ k, v8.ownBlock = some k → W1.heap.size ≤ k) : EqS w w8 l c v8 (rq ++ [q]) qs := by
  have h1 := h.below hB1
  have K : Kept (fun k => v.ownBlock = some k) W1 w8 := Kept.grown (Kept.refl _ W1) hgrow (fun k e => e)
  refine ⟨h1.bel.trans (K.below h1.bel.size (fun k e => (ownsRow_lt h1.row e).1)), h1.cl.keep K (fun k hk e => h1.sep k e hk), ?_, fun k hk e => ?_⟩
  · rw [List.length_append, List.map_append, List.flatMap_append]
    exact hown
  · rcases hat with a | a
    · exact h1.sep k (a ▸ hk) e
    · have h2 := a k hk
      have h3 := h1.cl.all_lt e
      omega
theorem EqS.merge {w W : World} {l : List Tm} {c : Ks} {v : Value} {rq qs : List Pr} (h : EqS w W l c v rq qs) {a b : Nat} (ha : a < l.length) (hb : b < l.length) (hn : qs.length ≤ 1048576) :
    Calls Tryz.prog 7 #[.pointer (some ⟨c.pc, 0, none⟩), .int .i64 (a : Int), .int .i64 (b : Int)] W fun e w' => e = .returned (.int .i64 (mergeE l a b)) ∧ ∃ c' : Ks, c'.pc = c.pc ∧ EqS w w' l c' v rq (qs ++ [(a, b)]) := by
  refine (kMerge_in W w.heap.size l c qs h.cl (a : Int) (b : Int) (by omega)).mono ?_
  rintro e w' ⟨rfl, c', C', K', hp, hA⟩
  have e1 : mergeP l qs (a : Int) (b : Int) = qs ++ [(a, b)] := by
    unfold mergeP
    rw [if_pos (by rw [inB_nat ha, inB_nat hb]; rfl)]
    rfl
  rw [e1] at C'
  refine ⟨rfl, c', hp, h.bel.trans (K'.below h.bel.size (fun k hk => h.cl.foot_ge hk)), C', ownsRow_blk h.row (fun b hb => K'.block b (ownsRow_lt h.row hb).2 (fun e => h.sep b hb e.all)), fun k hk e => ?_⟩
  rcases hA k e with e2 | e2
  · exact h.sep k hk e2
  · have := (ownsRow_lt h.row hk).2
    omega
theorem cell_fourD (w : World) (a b c d : Value) (ty : TypeId) : ∀ j u, [a, b, c, d][j]? = some u → (w.alloc (.cells #[a, b, c, d] ty)).cell? ((⟨w.heap.size, 0, none⟩ : Addr).add j) = some u := by
  intro j u hj
  have hn := made_row w #[a, b, c, d] ty
  have hjl := (List.getElem?_eq_some_iff.1 hj).1
  rw [Addr.add_lit, Nat.zero_add, hn.cell (i := j) (by simpa using hjl)]
  simp only [List.getElem?_toArray, hj, Option.getD_some]
/-- The pairs, as numbers. -/
def nP (p : Int × Int) : Pr := (p.1.toNat, p.2.toNat)
def InP (n : Nat) (p : Int × Int) : Prop := (0 ≤ p.1 ∧ p.1 < n) ∧ 0 ≤ p.2 ∧ p.2 < n
theorem InP.n {n : Nat} {p : Int × Int} (h : InP n p) : InN n (nP p) := by
  obtain ⟨⟨h1, h2⟩, h3, h4⟩ := h
  unfold InN nP
  simp only
  omega

set_option maxRecDepth 100000 in
set_option maxHeartbeats 4000000 in
theorem deq_in (w : World) (a1 a2 : Option Addr) (cp1 cp2 : Nat) (ss : List ByteArray) (ps : List (Int × Int)) (x y : Int) (hT : Texts w a1 ss) (hm : ss.length ≤ maxLen) (hP : Prw w a2 ps) (hpl : ps.length ≤ 1048576) :
    Calls Tryz.prog 3 #[.slice a1 ss.length cp1, .slice a2 ps.length cp2, .int .i64 x, .int .i64 y] w fun e w' => e = .returned (.bool true) ∧ Below w.heap.size w w' := by
  have LD := load_in w a1 cp1 ss hT hm
  have LD2 : Calls Tryz.prog 4 #[.slice a1 ss.length cp1] w fun e w' => ∃ p l aa ac, e = .returned (.tuple #[.pointer (some ⟨p, 0, none⟩), .slice aa (l : List Tm).length ac]) ∧ Hid ((∃ ev nb fb, Bk w' w.heap.size p ev nb fb l) ∧ Cc.Bd l ∧ l.length ≤ 150 ∧ Below w.heap.size w w') := by
    refine LD.mono ?_
    rintro e w1 ⟨p, ev, nb, fb, l, q, av, vs, rfl, D⟩
    obtain ⟨aa, ac, rfl⟩ := D.r.ls.form
    exact ⟨p, l, aa, ac, rfl, ⟨_, _, _, D.b⟩, D.bd, D.kl.len, D.bel⟩
  have HNW : Hid (∀ (W : World) (p : Nat) (l : List Tm), ((∃ ev nb fb, Bk W w.heap.size p ev nb fb l) ∧ Cc.Bd l ∧ l.length ≤ 150 ∧ Below w.heap.size w W) → Calls Tryz.prog 5 #[.pointer (some ⟨p, 0, none⟩)] W fun e w' => ∃ c : Ks, e = .returned (.pointer (some ⟨c.pc, 0, none⟩)) ∧ Hid (EqS W w' l c (.slice none 0 0) [] [])) := by
    rintro W p l ⟨⟨ev, nb, fb, hB⟩, hb, hl, hbw⟩
    refine (kNew_in W w.heap.size p ev nb fb l hB hb hl).mono ?_
    rintro e w' ⟨c, rfl, C, K⟩
    exact ⟨c, rfl, K.bel, C, ⟨rfl, Or.inl ⟨rfl, rfl⟩⟩, fun k e => by cases e⟩
  have HP : Hid _ := hP
  obtain ⟨pn, hpn⟩ : ∃ n, ps.length = n := ⟨_, rfl⟩
  have HPN : Hid _ := hpn
  rw [hpn] at hpl ⊢
  clear LD hP hT hm hpn
  go_enter Tryz.func3, Tryz.ntmps3
  go_wp2_with (first | (go_at_call 4; refine LD2.mono ?_; rintro e w1 ⟨p, l, aa, ac, rfl, H1⟩) | (go_at_call 5; refine (HNW.out _ _ _ H1.out).mono ?_; rintro e w2 ⟨c, rfl, H2⟩; refine Aside.out ?_))
  delta Aside
  have HS0 : Hid (EqS w1 w2 l c (.slice none 0 0) ((ps.take 0).map nP) ((ps.take 0).map nP) ∧ ∀ p ∈ ps.take 0, InP l.length p) := ⟨H2.out, fun p hp => by simp at hp⟩
  have hb1 := H1.out.2.2.2.size
  obtain ⟨ln, hln⟩ : ∃ n, l.length = n := ⟨_, rfl⟩
  have HLN : Hid _ := hln
  have hl150 : ln ≤ 150 := by rw [← hln]; exact H1.out.2.2.1
  simp only [hln]
  clear LD2 HNW H2 hln
  obtain ⟨i0, hi0, hz0, hz1, hz2⟩ := info_parts infoFormD
  apply_assumption
  go_wp2_with fail
  go_loopw [12, 13] (fun t12 t13 W => ∃ (k : Nat) (c' : Ks), k ≤ pn ∧ t13 = .int .i64 (k : Int) ∧ c'.pc = c.pc ∧ Hid (EqS w1 W l c' t12 ((ps.take k).map nP) ((ps.take k).map nP) ∧ ∀ p ∈ ps.take k, InP l.length p)) (fun _ t13 _ => pn - (intOf t13).toNat)
  case atStart => exact ⟨0, c, Nat.zero_le _, rfl, rfl, HS0⟩
  case round =>
    obtain ⟨k, c', hk, rfl, hpc, HI⟩ := hrel
    clear HS0
    have HPC : Hid _ := hpc
    clear hpc
    have hbl := HI.out.1.bel
    by_cases hlt : k < pn
    · have dk : decide ((k : Int) < (pn : Int)) = true := decide_eq_true (by omega)
      have hwk : IntKind.i64.wrap ((k : Int) + 1) = (k : Int) + 1 := wrap_nat1 (by omega)
      have hkl : k < ps.length := by rw [HPN.out]; exact hlt
      have hge := List.getElem?_eq_getElem hkl
      obtain ⟨b, off, e, hbk, q1, q2⟩ := HP.out k _ hge
      subst e
      have hgw : ∀ {a : Addr} {u : Value}, w.cell? a = some u → wr.cell? a = some u := fun hc => by
        have h1 := (H1.out.2.2.2.cell (World.block_lt_of_cell? w _ hc)).trans hc
        exact (hbl.cell (World.block_lt_of_cell? w1 _ h1)).trans h1
      have q1 := hgw q1
      have q2 := hgw q2
      have hbW : Below w.heap.size w wr := H1.out.2.2.2.trans (hbl.mono hb1)
      have AL := alive7_any wr
      have HBW : Hid _ := hbW
      have HGE : Hid _ := hge
      clear hgw hbW hge
      by_cases hin : InP ln ps[k]
      · obtain ⟨a, b', he, ha, hb⟩ : ∃ a b : Nat, ps[k] = ((a : Int), (b : Int)) ∧ a < ln ∧ b < ln := by
          obtain ⟨⟨p1, p2⟩, p3, p4⟩ := hin
          exact ⟨ps[k].1.toNat, ps[k].2.toNat, by rw [Int.toNat_of_nonneg p1, Int.toNat_of_nonneg p3], by omega, by omega⟩
        have HINP : Hid _ := hin
        rw [he] at q1 q2 HGE HINP
        clear he hin
        have hgk := HGE.out
        simp only at q1 q2
        have d1 : decide ((a : Int) < 0) = false := decide_eq_false (by omega)
        have d2 : decide ((ln : Int) ≤ (a : Int)) = false := decide_eq_false (by omega)
        have d2n : decide (ln ≤ a) = false := decide_eq_false (by omega)
        have d3 : decide ((b' : Int) < 0) = false := decide_eq_false (by omega)
        have d4 : decide ((ln : Int) ≤ (b' : Int)) = false := decide_eq_false (by omega)
        have d4n : decide (ln ≤ b') = false := decide_eq_false (by omega)
        have hts : (ps.take (k + 1)).map nP = (ps.take k).map nP ++ [(a, b')] := by
          rw [List.take_add_one, hgk, Option.toList_some, List.map_append]
          rfl
        have htl : ((ps.take k).map nP).length = k := by rw [List.length_map, List.length_take, HPN.out]; omega
        have hall : ∀ p ∈ ps.take (k + 1), InP l.length p := fun p hp => by
          rw [List.take_add_one, hgk, Option.toList_some] at hp
          rcases List.mem_append.1 hp with hp | hp
          · exact HI.out.2 p hp
          · rw [List.mem_singleton] at hp
            subst hp
            rw [HLN.out]
            exact HINP.out
        obtain ⟨va, vc, hva⟩ := ownsRow_form HI.out.1.row
        subst hva
        have rowf := HI.out.1.row
        rw [htl] at rowf ⊢
        have hzr := HI.out.1.bel.size
        have HPU : Hid (∀ (w8 : World) (v8 : Value), w8.ownsRow w1.heap.size 36 4 v8 (k + 1) ((((ps.take k).map nP).map eLf).flatMap formC ++ [.int .i64 0, .int .i64 (a : Int), .int .i64 (b' : Int), .slice none 0 0]) → (wr.alloc (.cells #[.int .i64 0, .int .i64 (a : Int), .int .i64 (b' : Int), .slice none 0 0] 36)).drew.grownBy w8 (Value.slice va k vc).ownBlock → (v8.ownBlock = (Value.slice va k vc).ownBlock ∨ ∀ k, v8.ownBlock = some k → (wr.alloc (.cells #[.int .i64 0, .int .i64 (a : Int), .int .i64 (b' : Int), .slice none 0 0] 36)).drew.heap.size ≤ k) → EqS w1 w8 l c' v8 ((ps.take k).map nP ++ [(a, b')]) ((ps.take k).map nP)) := fun w8 v8 o8 g8 l8 => by
          have := HI.out.1
          rw [htl] at this
          exact this.push (a, b') (below_ad wr _) (by rw [htl]; exact o8) g8 l8
        have HAL : Hid (_ ∧ _) := And.intro hall hts
        clear HI hall hts hbl hgk AL HINP
        go_wp2_with fail
        go_region_law (first | (refine step_append_here rfl (.tmp 70) (.tmp 83) 30 rfl w1.heap.size 36 i0 _ 4 48 Tryz.underlying30 hi0 hz0 hz1 hz2 rfl (by decide) (.slice va k vc) k ((((ps.take k).map nP).map eLf).flatMap formC) (by rfl) (by exact World.ownsRow.alloc rowf _) ⟨wr.heap.size, 0, none⟩ 1 1 [.int .i64 0, .int .i64 (a : Int), .int .i64 (b' : Int), .slice none 0 0] (by rfl) rfl (cell_fourD wr _ _ _ _ _) (by simp [Value.oneCell']) (by unfold maxLen; omega) (by omega) (by simp; omega) ?_; intro v8 w8 hown8 hgrow8 hloc8; have E8 := HPU.out w8 v8 hown8 hgrow8 hloc8; have HF : Hid _ := E8; clear hown8 hgrow8 hloc8 E8))
        all_goals
          try simp only [Act.put, List.getElem_toArray, List.getElem_cons_succ, List.getElem_cons_zero, List.setIfInBounds_toArray, List.set_cons_succ, List.set_cons_zero]
          have hg8 : ∀ {a : Addr} {u : Value}, w.cell? a = some u → w8.cell? a = some u := fun hc => by
            have h1 := (H1.out.2.2.2.cell (World.block_lt_of_cell? w _ hc)).trans hc
            exact (HF.out.bel.cell (World.block_lt_of_cell? w1 _ h1)).trans h1
          obtain ⟨bx, ox, ex, _, t1, t2⟩ := HP.out k _ HGE.out
          cases ex
          have t1 := hg8 t1
          have t2 := hg8 t2
          simp only at t1 t2
          have MG : Hid (∀ m, Calls Tryz.prog 7 #[.pointer (some ⟨c.pc, 0, none⟩), .int .i64 (a : Int), .int .i64 (b' : Int)] (w8.drewN m) fun e w' => e = .returned (.int .i64 (mergeE l a b')) ∧ ∃ c2 : Ks, c2.pc = c.pc ∧ Hid (EqS w1 w' l c2 v8 ((ps.take (k + 1)).map nP) ((ps.take (k + 1)).map nP) ∧ ∀ p ∈ ps.take (k + 1), InP l.length p)) := fun m => by
            have E8 := HF.out.below (W' := w8.drewN m) ⟨rfl, rfl, rfl, Nat.le_refl _, fun _ _ => rfl⟩
            rw [← HPC.out]
            refine (E8.merge (a := a) (b := b') (by rw [HLN.out]; exact ha) (by rw [HLN.out]; exact hb) (by rw [htl]; omega)).mono ?_
            rintro e w' ⟨he, c2, hc2, E2⟩
            rw [← HAL.out.2] at E2
            exact ⟨he, c2, hc2, E2, HAL.out.1⟩
          clear hg8 HF HAL HPU rowf q1 q2 htl
          go_wp2_with fail
          go_region_with (go_at_call 7; refine (MG.out 1).mono ?_; rintro e w9 ⟨rfl, c2, hc2, H9⟩)
          all_goals
            go_wp2_with fail
            exact ⟨⟨k + 1, c2, hlt, by simp, hc2, H9⟩, by simp [intOf]; omega⟩
      · have HIN : Hid _ := hin
        generalize ps[k] = p at *
        obtain ⟨A, B⟩ := p
        simp only at q1 q2
        have hor : decide (A < 0) = true ∨ (decide (A < 0) = false ∧ decide ((ln : Int) ≤ A) = true) ∨ (decide (A < 0) = false ∧ decide ((ln : Int) ≤ A) = false ∧ decide (B < 0) = true) ∨ (decide (A < 0) = false ∧ decide ((ln : Int) ≤ A) = false ∧ decide (B < 0) = false ∧ decide ((ln : Int) ≤ B) = true) := by
          have h9 : ¬ ((0 ≤ A ∧ A < ln) ∧ 0 ≤ B ∧ B < ln) := HIN.out
          by_cases g1 : A < 0
          · exact Or.inl (decide_eq_true g1)
          · refine Or.inr ?_
            by_cases g2 : (ln : Int) ≤ A
            · exact Or.inl ⟨decide_eq_false g1, decide_eq_true g2⟩
            · refine Or.inr ?_
              by_cases g3 : B < 0
              · exact Or.inl ⟨decide_eq_false g1, decide_eq_false g2, decide_eq_true g3⟩
              · exact Or.inr ⟨decide_eq_false g1, decide_eq_false g2, decide_eq_false g3, decide_eq_true (by omega)⟩
        clear HI hbl HIN
        rcases hor with e1 | ⟨e1, e2⟩ | ⟨e1, e2, e3⟩ | ⟨e1, e2, e3, e4⟩
        all_goals
          go_wp2_with (first | (go_at_call 6; refine AL.mono ?_; rintro e w5 ⟨rfl, B5⟩))
          go_ret
          exact ⟨rfl, HBW.out.trans (B5.mono HBW.out.size)⟩
    · have dk : decide ((k : Int) < (pn : Int)) = false := decide_eq_false (by omega)
      obtain rfl : k = pn := by omega
      have htk : ps.take k = ps := List.take_of_length_le (by rw [HPN.out]; exact Nat.le_refl _)
      rw [htk] at HI
      have hbW : Below w.heap.size w wr := H1.out.2.2.2.trans (hbl.mono hb1)
      have HBW : Hid _ := hbW
      have AL := alive7_any wr
      obtain ⟨va, vc, hva⟩ := ownsRow_form HI.out.1.row
      subst hva
      have hrl : (ps.map nP).length = k := by rw [List.length_map]; exact HPN.out
      rw [hrl]
      clear htk hbW hbl
      by_cases hin : (0 ≤ x ∧ x < ln) ∧ (0 ≤ y ∧ y < ln) ∧ k < 600
      · obtain ⟨⟨hx1, hx2⟩, ⟨hy1, hy2⟩, hk6⟩ := hin
        obtain ⟨x0, rfl⟩ : ∃ n : Nat, x = (n : Int) := ⟨x.toNat, (Int.toNat_of_nonneg hx1).symm⟩
        obtain ⟨y0, rfl⟩ : ∃ n : Nat, y = (n : Int) := ⟨y.toNat, (Int.toNat_of_nonneg hy1).symm⟩
        have d1 : decide ((x0 : Int) < 0) = false := decide_eq_false (by omega)
        have d2 : decide ((ln : Int) ≤ (x0 : Int)) = false := decide_eq_false (by omega)
        have d2n : decide (ln ≤ x0) = false := decide_eq_false (by omega)
        have d3 : decide ((y0 : Int) < 0) = false := decide_eq_false (by omega)
        have d4 : decide ((ln : Int) ≤ (y0 : Int)) = false := decide_eq_false (by omega)
        have d4n : decide (ln ≤ y0) = false := decide_eq_false (by omega)
        have d5 : decide ((600 : Int) ≤ (k : Int)) = false := decide_eq_false (by omega)
        have d5n : decide (600 ≤ k) = false := decide_eq_false (by omega)
        obtain ⟨⟨ev, nb, fb, hBk⟩, hbd, hl1, hbw1⟩ := H1.out
        have hq : ∀ q ∈ ps.map nP, InN l.length q := fun q hq => by
          obtain ⟨p', hp', rfl⟩ := List.mem_map.1 hq
          exact (HI.out.2 p' hp').n
        have hrow := HI.out.1.row
        rw [hrl] at hrow
        obtain ⟨ks, s1, s2, s3⟩ := row_slf (N := l.length) (ts := (ps.map nP).map eLf) (by rw [List.length_map, hrl]; exact hrow) (fun t ht => by
          obtain ⟨q, hqm, rfl⟩ := List.mem_map.1 ht
          have := hq q hqm
          exact qLf_ok ⟨by omega, by have := this.1; omega⟩ ⟨by omega, by have := this.2; omega⟩)
        have he : ks.map Lf.er = (ps.map nP).map foE := by
          rw [s2, List.map_map]
          refine List.map_congr_left (fun q _ => ?_)
          simp [eLf, qLf, Lf.er, foE, Fo.eq]
        have hkl : ks.length = k := by rw [s3, List.length_map, hrl]
        rw [← hkl] at s1
        have hBkr := hBk.below hBk.low HI.out.1.bel
        have DY := decide_yes wr w.heap.size p ev nb fb l hBkr hbd hl1 va vc ks _ _ (eqs_asked hl1 hq (by omega) s1 he) 1 (by omega) (eqs_model hbd hq (by omega))
        rw [hkl] at DY
        have DY2 : Calls Tryz.prog 8 #[.pointer (some ⟨p, 0, none⟩), .slice va k vc] wr fun e w' => ∃ ca cn cc, e = .returned (.tuple #[.agg #[.bool true, .slice ca cn cc, .slice none 0 0], .int .i64 0]) ∧ Hid (Below wr.heap.size wr w') := by
          refine DY.mono ?_
          rintro e w' ⟨ca, cn, cc, rfl, h9⟩
          exact ⟨ca, cn, cc, rfl, h9⟩
        have h0 : InN l.length (x0, y0) := ⟨by rw [HLN.out]; omega, by rw [HLN.out]; omega⟩
        obtain ⟨PF, fsF, hAF, hMF⟩ := eqs_follows hbd hl1 hq (by omega) h0
        have hSB : sameB l.length c'.z.g (x0 : Int) (y0 : Int) = cgB l (ps.map nP) (x0 : Int) (y0 : Int) := HI.out.1.cl.sameB _ _
        have hCG : (cgB l (ps.map nP) (x0 : Int) (y0 : Int) = true) ↔ Cc.Cg l (ps.map nP) x0 y0 := by
          unfold cgB
          rw [inB_nat h0.1, inB_nat h0.2]
          simp
        have HFL : Hid (∀ V, Below wr.heap.size wr V → Calls Tryz.prog 9 #[.pointer (some ⟨p, 0, none⟩), .slice va k vc, .agg #[.int .i64 0, .int .i64 (x0 : Int), .int .i64 (y0 : Int), .slice none 0 0]] V fun e w' => e = .returned (.tuple #[.bool (sameB l.length c'.z.g (x0 : Int) (y0 : Int)), .int .i64 0]) ∧ Hid (Below V.heap.size V w')) := fun V hV => by
          have FO := dfollows_in V w.heap.size p ev nb fb l (hBkr.below hBkr.low hV) hbd hl1 va vc ks (s1.below hV) (by rw [eqs_cost he, hrl]; omega) (x0 : Int) (y0 : Int) ⟨by omega, by have := h0.1; omega⟩ ⟨by omega, by have := h0.2; omega⟩ PF fsF (by rw [he]; exact hAF) (sameB l.length c'.z.g (x0 : Int) (y0 : Int)) (MdlT.mono (fun r Q h => by rw [hSB, hCG]; exact h) 2 PF hMF)
          rw [hkl] at FO
          exact FO.mono fun e w' h => ⟨h.1, h.2⟩
        have HSA : Hid (∀ V, Below wr.heap.size wr V → Calls Tryz.prog 11 #[.pointer (some ⟨c.pc, 0, none⟩), .int .i64 (x0 : Int), .int .i64 (y0 : Int)] V fun e w' => e = .returned (.bool (sameB l.length c'.z.g (x0 : Int) (y0 : Int))) ∧ Hid (Below V.heap.size V w')) := fun V hV => by
          have SA := kSame_in V w1.heap.size l c' _ (HI.out.1.cl.kept0 (kept0_of hV)) (x0 : Int) (y0 : Int)
          rw [HPC.out] at SA
          refine SA.mono ?_
          rintro e w' ⟨rfl, m, rfl⟩
          exact ⟨rfl, ⟨rfl, rfl, rfl, Nat.le_refl _, fun _ _ => rfl⟩⟩
        generalize sameB l.length c'.z.g (x0 : Int) (y0 : Int) = sb at *
        clear hSB hCG hMF hAF DY hBkr s1 s2 s3 he hrow hq hBk hbd hbw1 HI AL hx1 hx2 hy1 hy2
        go_wp2_with (first | (go_at_call 8; refine DY2.mono ?_; rintro e w5 ⟨ca, cn, cc, rfl, H5⟩; refine Aside.out ?_))
        delta Aside
        have AN := made_row w5 #[.bool true, .slice ca cn cc, .slice none 0 0] 41
        have hA7 : Below w5.heap.size w5 (w5.alloc (.cells #[.bool true, .slice ca cn cc, .slice none 0 0] 41)) := (Below.refl _ _).alloc (Nat.le_refl _) _
        have hW7 : Below wr.heap.size wr (w5.alloc (.cells #[.bool true, .slice ca cn cc, .slice none 0 0] 41)) := H5.out.trans (hA7.mono H5.out.size)
        have hv2 : (w5.alloc (.cells #[.bool true, .slice ca cn cc, .slice none 0 0] 41)).cell? ⟨w5.heap.size, 2, none⟩ = some (.slice none 0 0) := AN.cell (i := 2) (by simp)
        have hv0 : (w5.alloc (.cells #[.bool true, .slice ca cn cc, .slice none 0 0] 41)).cell? ⟨w5.heap.size, 0, none⟩ = some (.bool true) := AN.cell (i := 0) (by simp)
        have hf2 := AN.frozen 2
        have hs2 : (w5.alloc (.cells #[.bool true, .slice ca cn cc, .slice none 0 0] 41)).setCell ⟨w5.heap.size, 2, none⟩ (.slice none 0 0) = w5.alloc (.cells #[.bool true, .slice ca cn cc, .slice none 0 0] 41) := by simp [go_sem]
        obtain ⟨V, hV⟩ : ∃ V, w5.alloc (.cells #[.bool true, .slice ca cn cc, .slice none 0 0] 41) = V := ⟨_, rfl⟩
        rw [hV] at hW7 hv2 hf2 hs2 hv0
        have FL := HFL.out V hW7
        have HV0 : Hid (_ ∧ _) := And.intro hv0 hW7
        clear DY2 HFL AN hA7 H5 hv0 hW7
        apply_assumption
        go_wp2_with (first | (go_at_call 9; refine FL.mono ?_; rintro e w6 ⟨rfl, H6⟩; refine Aside.out ?_))
        delta Aside
        have a0 := (H6.out.cell (World.block_lt_of_cell? V _ HV0.out.1)).trans HV0.out.1
        have hW6 : Below wr.heap.size wr w6 := HV0.out.2.trans (H6.out.mono HV0.out.2.size)
        have SA := HSA.out w6 hW6
        have HW6 : Hid _ := hW6
        clear FL HSA hv2 hf2 hs2 hV HV0 hW6 H6
        have sbb : (sb == sb) = true := by simp
        apply_assumption
        go_wp2_with (first | (go_at_call 10; refine (num7_any _ _).mono ?_; rintro e w9 ⟨rfl, rfl⟩) | (go_at_call 11; refine SA.mono ?_; rintro e w7 ⟨rfl, H7⟩; have AL := alive7_any w7) | (go_at_call 6; refine AL.mono ?_; rintro e w8 ⟨rfl, B8⟩))
        go_ret
        have h67 := HW6.out.trans (H7.out.mono HW6.out.size)
        have h68 := h67.trans (B8.mono h67.size)
        exact ⟨rfl, HBW.out.trans (h68.mono HBW.out.size)⟩
      · have hor : decide (x < 0) = true ∨ (decide (x < 0) = false ∧ decide ((ln : Int) ≤ x) = true) ∨ (decide (x < 0) = false ∧ decide ((ln : Int) ≤ x) = false ∧ decide (y < 0) = true) ∨ (decide (x < 0) = false ∧ decide ((ln : Int) ≤ x) = false ∧ decide (y < 0) = false ∧ decide ((ln : Int) ≤ y) = true) ∨ (decide (x < 0) = false ∧ decide ((ln : Int) ≤ x) = false ∧ decide (y < 0) = false ∧ decide ((ln : Int) ≤ y) = false ∧ decide ((600 : Int) ≤ (k : Int)) = true ∧ decide (600 ≤ k) = true) := by
          by_cases g1 : x < 0
          · exact Or.inl (decide_eq_true g1)
          · refine Or.inr ?_
            by_cases g2 : (ln : Int) ≤ x
            · exact Or.inl ⟨decide_eq_false g1, decide_eq_true g2⟩
            · refine Or.inr ?_
              by_cases g3 : y < 0
              · exact Or.inl ⟨decide_eq_false g1, decide_eq_false g2, decide_eq_true g3⟩
              · refine Or.inr ?_
                by_cases g4 : (ln : Int) ≤ y
                · exact Or.inl ⟨decide_eq_false g1, decide_eq_false g2, decide_eq_false g3, decide_eq_true g4⟩
                · exact Or.inr ⟨decide_eq_false g1, decide_eq_false g2, decide_eq_false g3, decide_eq_false g4, decide_eq_true (by omega), decide_eq_true (by omega)⟩
        clear HI hin
        rcases hor with e1 | ⟨e1, e2⟩ | ⟨e1, e2, e3⟩ | ⟨e1, e2, e3, e4⟩ | ⟨e1, e2, e3, e4, e5, e6⟩
        all_goals
          go_wp2_with (first | (go_at_call 6; refine AL.mono ?_; rintro e w5 ⟨rfl, B5⟩))
          go_ret
          exact ⟨rfl, HBW.out.trans (B5.mono HBW.out.size)⟩
end Go.Proofs.YtlehlgipbhfioaaGreat
