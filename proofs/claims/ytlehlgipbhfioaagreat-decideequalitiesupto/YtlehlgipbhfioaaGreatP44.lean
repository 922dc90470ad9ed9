/- Package decide: learn, of one pair. slices.Concat of rows of clauses. Package decide: clausesOf. Package decide: model. Package decide: Solve takes what decide hands it. Package decide: areFormulas. -/
import Derived.Test.YtlehlgipbhfioaaGreatP43
import Derived.Test.YtlehlgipbhfioaaGreatP03
import Derived.Test.YtlehlgipbhfioaaGreatP13
import Derived.Test.YtlehlgipbhfioaaGreatP12
import Derived.Test.YtlehlgipbhfioaaGreatP14
import Derived.Test.YtlehlgipbhfioaaGreatP39
import Derived.Test.YtlehlgipbhfioaaGreatP22
namespace Go.Proofs.YtlehlgipbhfioaaGreat
open Go.RowKit Go.Maps

theorem rowS_pmx {W W' : World} {base n : Nat} {v : Value} {xs : List Value} (h : W.ownsRow base 206 10 v n xs) {pb vb kb : Nat} {bk tv fv lv lv' : Value} {P P' : Pb} {S S' : Nat → Prop} (hm : Pm S W pb vb kb bk tv fv lv P) (hx : PmX S W S' W' pb vb kb bk tv fv lv lv' P') : W'.ownsRow base 206 10 v n xs := by
  obtain ⟨es, ck, e1⟩ := hm.vars.lt
  obtain ⟨es', ck', e2⟩ := hm.known.lt
  obtain ⟨rs, r1, _⟩ := hm.rows
  refine ownsRow_blk h (fun b hb => hx.kept.block b (ownsRow_lt h hb).2 ?_)
  rintro (e | e | e | e)
  · exact rowIs_type hm.cells (by decide) h (e ▸ hb)
  · exact down_map h e1 (e ▸ hb)
  · exact down_map h e2 (e ▸ hb)
  · exact ownsRow_ne2 h r1 (by decide) hb e
theorem VrS.prem : ∀ (r : List Pr) (P : Pb), VrS P → VrS (Pb.prem r P).2
  | [], _, h => h
  | a :: r, P, h => by
    rw [Pb.prem]
    split
    · exact VrS.prem r P h
    · exact VrS.prem r _ (h.vari a).1
theorem VrS.step {P : Pb} (h : VrS P) (st : Stq) : VrS (P.step st) := by
  unfold Pb.step
  split
  · exact h
  · have h0 : VrS { P with known := P.known ++ [(st.1, pad4 st.2)] } := h
    exact VrS.prem (pad4 st.2) _ (h0.vari st.1).1
theorem VrS.steps : ∀ (S : List Stq) (P : Pb), VrS P → VrS (S.foldl Pb.step P)
  | [], _, h => h
  | st :: S, _, h => VrS.steps S _ (h.step st)
/-- A proof in memory, as steps wants it. -/
structure PrM (W : World) (qb : Nat) (tv dv : Value) (n : Nat) (L : List (List Nat)) : Prop where
  x1 : W.cell? ⟨qb, 1, none⟩ = some tv
  x2 : W.cell? ⟨qb, 2, none⟩ = some dv
  x3 : ∃ lv, W.cell? ⟨qb, 3, none⟩ = some lv ∧ NssAt W lv L
  len : L.length = n
  few : ∀ r ∈ L, r.length ≤ 1048576
theorem PrM.of {W : World} {B qb sp nb kb n : Nat} {tv dv jv : Value} {g : Uf.G} {t : List Uf.Rec} {L : List (List Nat)} {lv : Nat → Value} (h : LkM W B qb sp nb kb tv dv jv n g t L lv) (hs : Rsh L t) (hn : n ≤ 1000) : PrM W qb tv dv n L := by
  have c1 := h.cells.cell (i := 1) (by omega)
  have c2 := h.cells.cell (i := 2) (by omega)
  have c3 := h.cells.cell (i := 3) (by omega)
  have c3' : W.cell? ⟨qb, 3, none⟩ = some (.slice (some ⟨kb, 0, none⟩) n n) := c3
  refine ⟨c1, c2, ⟨_, c3', ⟨some ⟨kb, 0, none⟩, n, by rw [h.len], ?_⟩⟩, h.len, fun r hr => ?_⟩
  · cases hL : L with
    | nil => exact Or.inl rfl
    | cons a r =>
      rw [← hL]
      refine Or.inr ⟨kb, 0, rfl, fun j r hj => ?_⟩
      have hjn : j < n := by rw [← h.len]; exact (List.getElem?_eq_some_iff.1 hj).1
      refine ⟨lv j, by rw [Nat.zero_add]; exact h.outer.cell (i := j) hjn, ?_⟩
      have := h.rows j hjn
      rw [hj, Option.getD_some] at this
      exact NsAt.of_rowI this
  · have h1 := hs r hr
    have h2 := h.sets.ok.num
    omega
theorem PrM.below {W W' : World} {qb n : Nat} {tv dv : Value} {L : List (List Nat)} (h : PrM W qb tv dv n L) (hB : Below W.heap.size W W') : PrM W' qb tv dv n L := by
  have hm := Mono.below hB
  obtain ⟨lv, l1, l2⟩ := h.x3
  exact ⟨hm _ _ h.x1, hm _ _ h.x2, ⟨lv, hm _ _ l1, l2.mono hm⟩, h.len, h.few⟩

set_option maxRecDepth 100000 in
set_option maxHeartbeats 1000000 in
theorem learn_in (S : Nat → Prop) (w : World) (pb vb kb : Nat) (fv lv : Value) (P : Pb) (base p : Nat) (ev : Value) (nb fb : Nat) (l : List Tm) (ta : Option Addr) (tc : Nat) (h : Pm S w pb vb kb (.pointer (some ⟨p, 0, none⟩)) (.slice ta l.length tc) fv lv P) (hB : Bk w base p ev nb fb l) (hb : Cc.Bd l) (hl : l.length ≤ 150) (hT : TsAt w (.slice ta l.length tc) l)
    (da : Option Addr) (dc : Nat) (told : List Pr) (hD : PsAt w (.slice da told.length dc) told) (htl : told.length ≤ 1000) (hti : ∀ q ∈ told, q.1 ≤ q.2 ∧ q.2 < l.length) (htv : ∀ q ∈ told, ∃ x, numV P.vars q = some x ∧ x ≤ 100000) (a : Pr) (hai : a.1 ≤ a.2 ∧ a.2 < l.length) (V : Nat) (hav : numV P.vars a = some V) (hcg : Cc.Cg l told a.1 a.2)
    (pa : Option Addr) (pc : Nat) (hP : PsAt w (.slice pa 1 pc) [a]) (hPl : P.lemmas.length ≤ 100000) (hPc : P.count ≤ 2000) (hPv : P.vars.length ≤ 2000) (hPk : P.known.length ≤ 100000) (hvs : VrS P) :
    Calls Tryz.prog 49 #[.pointer (some ⟨pb, 0, none⟩), .slice da told.length dc, .slice pa 1 pc] w fun e w' => e = .returned (.tuple #[]) ∧ ∃ F Q S' lv', proofN l told = some F ∧ LrnR l told F [a] P Q ∧ PmX S w S' w' pb vb kb (.pointer (some ⟨p, 0, none⟩)) (.slice ta l.length tc) fv lv lv' Q := by
  have hBn : Bnk l := ⟨fun i t ht => hb.four t (List.mem_of_getElem? ht), fun i t ht => hb.args i t ht, fun i j t u ht hu => hb.one t (List.mem_of_getElem? ht) u (List.mem_of_getElem? hu)⟩
  obtain ⟨F, E, p1, p2, p3⟩ := proof_ok hBn hti
  obtain ⟨f1, f2⟩ := p2.facts hBn
  have hai1 : a.1 < l.length := by omega
  have hgc : Conn E a.1 a.2 := p3 _ _ hcg
  obtain ⟨SF, e1, _⟩ := stepsN_ok p2.lnk p2.grew (argp := argN l) (told := told) (fun p q hq => by rw [p2.len]; exact (argN_in hBn p).1 q hq) f1 hgc (by rw [p2.len]; exact hai1) (by rw [p2.len]; exact hai.2)
  obtain ⟨n1, n2, n3, n4⟩ := stepsN_had p2.lnk (argp := argN l) (told := told) (fun p q hq => by rw [p2.len]; exact ((argN_in hBn p).1 q hq).2) (fun p => (argN_in hBn p).2) (fun p q hq => ((argN_in hBn p).1 q hq).1) (fun x y hxy hn => by rw [p2.len]; exact (f2 x y hxy hn).2) hgc (by rw [p2.len]; exact hai1) (by rw [p2.len]; exact hai.2) hai.1 e1
  rw [p2.len] at n4 n2
  have n4 := Nat.le_trans n4 (cube_le hl)
  have c1 : w.cell? ⟨pb, 1, none⟩ = some (.slice ta l.length tc) := h.cells.cell (i := 1) (by omega)
  have NP := newProof_in w l (by omega) (fun t ht => ⟨hB.oks t ht, fun x hx => by obtain ⟨i, hi, e⟩ := List.getElem_of_mem ht; exact hb.args i t (by rw [← e]; exact List.getElem?_eq_getElem hi) x hx⟩) ta tc hT da dc told hD (by omega) (fun q hq => ⟨by have := hti q hq; omega, (hti q hq).2⟩) F p1
  have NP2 : Calls Tryz.prog 92 #[.slice ta l.length tc, .slice da told.length dc] w fun e w' => ∃ qb, e = .returned (.pointer (some ⟨qb, 0, none⟩)) ∧ Hid (PrM w' qb (.slice ta l.length tc) (.slice da told.length dc) l.length F.L ∧ Below w.heap.size w w') := by
    refine NP.mono ?_
    rintro e w1 ⟨qb, sp, nb', kb', jv, t, lv', rfl, hM, hR, hB1⟩
    exact ⟨qb, rfl, PrM.of hM hR (by omega), hB1⟩
  have HA : Hid (_ ∧ _ ∧ _ ∧ _ ∧ _ ∧ _ ∧ _ ∧ _ ∧ _) := And.intro h (And.intro hB (And.intro hT (And.intro hD (And.intro hti (And.intro htv (And.intro hP (And.intro hav hcg)))))))
  have HE : Hid (_ ∧ _ ∧ _ ∧ _ ∧ _) := And.intro p1 (And.intro p2.lnk (And.intro f2 (And.intro hgc e1)))
  have HN : Hid (_ ∧ _ ∧ _ ∧ _) := And.intro n1 (And.intro n2 (And.intro n3 n4))
  clear h hB hT hD hti htv hP hav hcg NP p1 p2 p3 f1 f2 e1 n1 n2 n3 n4 hgc
  obtain ⟨tn, htn⟩ : ∃ t, told.length = t := ⟨_, rfl⟩
  have HTN : Hid _ := htn
  obtain ⟨ln, hln⟩ : ∃ t, l.length = t := ⟨_, rfl⟩
  have HLN : Hid _ := hln
  rw [htn] at NP2 htl ⊢
  rw [hln] at NP2 c1 hl hai hai1
  clear htn hln
  go_enter Tryz.func49, Tryz.ntmps49
  go_wp2_with (first | (go_at_call 92; refine NP2.mono ?_; rintro e w1 ⟨qb, rfl, H1⟩))
  go_loopw [20] (fun t20 W => (t20 = .int .i64 0 ∧ W = w1) ∨ (t20 = .int .i64 1 ∧ Hid (∃ Q S' lv', LrnR l told F [a] P Q ∧ PmX S w S' W pb vb kb (.pointer (some ⟨p, 0, none⟩)) (.slice ta ln tc) fv lv lv' Q))) (fun t20 _ => 1 - (intOf t20).toNat)
  case atStart => exact Or.inl ⟨rfl, rfl⟩
  case round =>
    rcases hrel with ⟨rfl, rfl⟩ | ⟨rfl, HQ⟩
    · obtain ⟨gb, go, rfl, hcp⟩ : ∃ b off, pa = some ⟨b, off, none⟩ ∧ (w.cell? ⟨b, off, none⟩ = some (.int .i64 (a.1 : Int)) ∧ w.cell? ⟨b, off + 1, none⟩ = some (.int .i64 (a.2 : Int))) := by
        obtain ⟨a', c', e, h2⟩ := HA.out.2.2.2.2.2.2.1
        cases e
        rcases h2 with h2 | ⟨b, off, rfl, h2⟩
        · cases h2
        · have := h2 0 a rfl
          simp only [Nat.zero_mul, Nat.add_zero] at this
          exact ⟨b, off, rfl, this⟩
      have q1 := (H1.out.2.cell (World.block_lt_of_cell? w _ hcp.1)).trans hcp.1
      have q2 := (H1.out.2.cell (World.block_lt_of_cell? w _ hcp.2)).trans hcp.2
      have Ba : Below wr.heap.size wr (wr.alloc (.cells #[.int .i64 (a.1 : Int), .int .i64 (a.2 : Int)] 34)) := (Below.refl _ _).alloc (Nat.le_refl _) _
      have Bw : Below w.heap.size w (wr.alloc (.cells #[.int .i64 (a.1 : Int), .int .i64 (a.2 : Int)] 34)) := H1.out.2.trans (Ba.mono H1.out.2.size)
      have M2 := H1.out.1.below Ba
      rw [← HLN.out, ← HTN.out] at M2
      obtain ⟨lv2, m3, mN⟩ := M2.x3
      have ST := dsteps_in (wr.alloc (.cells #[.int .i64 (a.1 : Int), .int .i64 (a.2 : Int)] 34)) qb ta tc (.slice da told.length dc) lv2 l told F.L l.length M2.len rfl (by rw [HLN.out]; omega) M2.few (by rw [M2.len]; exact M2.x1) M2.x2 m3 (by rw [M2.len]; exact HA.out.2.2.1.mono (Mono.below Bw)) (HA.out.2.2.2.1.below Bw) (by rw [HTN.out]; omega) mN E HE.out.2.1 HE.out.2.2.1 a ⟨HE.out.2.2.2.1, by rw [HLN.out]; exact hai1, by rw [HLN.out]; exact hai.2⟩ SF HE.out.2.2.2.2
      have HBw : Hid _ := Bw
      have z1 : (wr.alloc (.cells #[.int .i64 (a.1 : Int), .int .i64 (a.2 : Int)] 34)).cell? ⟨wr.heap.size, 0, none⟩ = some (.int .i64 (a.1 : Int)) := by simp
      have z2 : (wr.alloc (.cells #[.int .i64 (a.1 : Int), .int .i64 (a.2 : Int)] 34)).cell? ⟨wr.heap.size, 1, none⟩ = some (.int .i64 (a.2 : Int)) := by simp
      clear hcp Ba Bw M2 m3 mN
      go_wp2_with (first | (go_at_call 93; refine ST.mono ?_; rintro e w3 ⟨v3, rfl, R3, B3⟩; refine Aside.out ?_))
      delta Aside
      have HB3 : Hid (Below w.heap.size w w3) := HBw.out.trans (B3.mono HBw.out.size)
      have y1 := (B3.cell (World.block_lt_of_cell? _ _ z1)).trans z1
      have y2 := (B3.cell (World.block_lt_of_cell? _ _ z2)).trans z2
      have hPm3 := HA.out.1.below HB3.out
      have hSF : SF.length ≤ 6750000 := HN.out.2.2.2
      have hoks : ∀ s ∈ SF, SkOk s := fun st hst => by
        obtain ⟨o1, o2⟩ := HN.out.2.1 st hst
        rw [HLN.out] at o1 o2
        exact ⟨⟨by have := o1.1; omega, by have := o1.2; omega⟩, fun q hq => ⟨by have := (o2 q hq).1; omega, by have := (o2 q hq).2; omega⟩⟩
      have RM := hasRoom_in S w3 pb vb kb _ _ fv lv P hPm3 (by omega) _ v3 SF R3 (by omega) (fun st hst => (hoks st hst).1)
      obtain ⟨va, vc, hva⟩ := ownsRow_form R3
      subst hva
      have HR3 : Hid (_ ∧ _) := And.intro R3 hoks
      obtain ⟨sn, hsn⟩ : ∃ q, SF.length = q := ⟨_, rfl⟩
      have HSN : Hid _ := hsn
      rw [hsn] at hSF RM ⊢
      clear ST R3 B3 hPm3 hoks hsn z1 z2 q1 q2
      by_cases hroom : P.count + (missN P SF []).length ≤ 2000
      · rw [decide_eq_true hroom] at RM
        apply_assumption
        go_wp2_with (first | (go_at_call 94; refine RM.mono ?_; rintro e w4 ⟨rfl, B4⟩))
        have HB4 : Hid (Below w.heap.size w w4) := HB3.out.trans (B4.mono HB3.out.size)
        have HI0 : Hid (∃ S' lv', PmX S w S' w4 pb vb kb (.pointer (some ⟨p, 0, none⟩)) (.slice ta l.length tc) fv lv lv' ((SF.take 0).foldl Pb.step P) ∧ w4.ownsRow 0 206 10 (.slice va SF.length vc) SF.length (stRow SF)) := ⟨S, lv, (PmX.start HA.out.1).below HB4.out, ownsRow_below (row_low HR3.out.1 (Nat.zero_le _)) B4⟩
        have HG : Hid (∀ j, (((SF.take j).foldl Pb.step P).lemmas.length ≤ 10000000 ∧ ((SF.take j).foldl Pb.step P).count < 100000 ∧ ((SF.take j).foldl Pb.step P).vars.length < 100000 ∧ ((SF.take j).foldl Pb.step P).known.length < 1000000000 ∧ VrS ((SF.take j).foldl Pb.step P))) := fun j => by
          have hG := Gr.proof P (S := SF) (told := told) (fun q hq => by obtain ⟨x, hx, _⟩ := HA.out.2.2.2.2.2.1 q hq; rw [show P.num q = some x from hx]; simp) HN.out.1 j
          have h0 : SF.length ≤ 6750000 := HN.out.2.2.2
          have hjl : (SF.take j).length ≤ 6750000 := by rw [List.length_take]; omega
          have h1 := hG.cnt
          have h2 := hG.count
          have h3 := hG.vars
          have h4 := hG.lem
          have h5 := hG.kn
          exact ⟨by omega, by omega, by omega, by omega, VrS.steps _ P hvs⟩
        clear RM B4 y1 y2
        rw [HSN.out] at HI0
        go_loopw [37] (fun t37 W => ∃ j : Nat, j ≤ sn ∧ t37 = .int .i64 (j : Int) ∧ Hid (∃ S' lv', PmX S w S' W pb vb kb (.pointer (some ⟨p, 0, none⟩)) (.slice ta l.length tc) fv lv lv' ((SF.take j).foldl Pb.step P) ∧ W.ownsRow 0 206 10 (.slice va sn vc) sn (stRow SF))) (fun t37 _ => sn - (intOf t37).toNat)
        case atStart => exact ⟨0, Nat.zero_le _, rfl, HI0⟩
        case round =>
          obtain ⟨j, hj, rfl, HJ⟩ := hrel
          clear HI0
          obtain ⟨Sj, lvj, Xj, Rj⟩ := HJ.out
          by_cases hlt : j < sn
          · have dj : decide ((j : Int) < (sn : Int)) = true := decide_eq_true (by omega)
            have hwj : IntKind.i64.wrap ((j : Int) + 1) = (j : Int) + 1 := by rw [IntKind.wrap_i64]; omega
            have hjl : j < SF.length := by rw [HSN.out]; exact hlt
            have hge := List.getElem?_eq_getElem hjl
            have hsk := HR3.out.2 _ (List.getElem_mem hjl)
            have hsu : (SF.take (j + 1)).foldl Pb.step P = ((SF.take j).foldl Pb.step P).step SF[j] := by
              rw [List.take_add_one, hge, Option.toList_some, List.foldl_append]
              rfl
            generalize SF[j] = st at *
            obtain ⟨x0, x1, x2, x3, x4, x5, x6, x7, x8, x9, hfl⟩ := flat4_ex st.1 st.2
            obtain ⟨gb2, hva⟩ : ∃ g, va = some ⟨g, 0, none⟩ := by
              rcases Rj.2 with ⟨e, h0⟩ | ⟨g, cap, cur, e, _⟩
              · rw [h0] at hlt; exact absurd hlt (Nat.not_lt_zero _)
              · cases e; exact ⟨g, rfl⟩
            subst hva
            have hcell : ∀ (t u : Nat), [x0, x1, x2, x3, x4, x5, x6, x7, x8, x9][t]? = some u → wr.cell? ⟨gb2, j * 10 + t, none⟩ = some (.int .i64 (u : Int)) := fun t u hu => by
              have := Rj.cells (g := gb2) rfl _ _ (stRow_get hge hfl t u hu)
              rw [Addr.add_lit, Nat.zero_add] at this
              exact this
            have y0 := hcell 0 x0 rfl
            rw [Nat.add_zero] at y0
            have y1 := hcell 1 x1 rfl
            have y2 := hcell 2 x2 rfl
            have y3 := hcell 3 x3 rfl
            have y4 := hcell 4 x4 rfl
            have y5 := hcell 5 x5 rfl
            have y6 := hcell 6 x6 rfl
            have y7 := hcell 7 x7 rfl
            have y8 := hcell 8 x8 rfl
            have y9 := hcell 9 x9 rfl
            have Bx : Below wr.heap.size wr (wr.alloc (.cells #[.int .i64 (x0 : Int), .int .i64 (x1 : Int), .int .i64 (x2 : Int), .int .i64 (x3 : Int), .int .i64 (x4 : Int), .int .i64 (x5 : Int), .int .i64 (x6 : Int), .int .i64 (x7 : Int), .int .i64 (x8 : Int), .int .i64 (x9 : Int)] 206)) := (Below.refl _ _).alloc (Nat.le_refl _) _
            have X2 := Xj.below Bx
            obtain ⟨g1, g2, g3, g4, g5⟩ := HG.out j
            have LS := learnStep_in Sj _ pb vb kb _ _ fv lvj _ X2.is st hsk g1 g2 g3 g4 g5
            rw [skV_at hfl] at LS
            have HX2 : Hid (_ ∧ _) := And.intro X2 (ownsRow_below Rj Bx)
            have HSU : Hid _ := hsu
            clear HJ Xj Rj hcell X2 Bx hsu g1 g2 g3 g4 g5 hge hsk hfl
            go_wp2_with (first | (go_at_call 96; refine LS.mono ?_; rintro e w5 ⟨rfl, S5, lv5, X5⟩))
            refine ⟨⟨j + 1, hlt, by simp, ?_⟩, by simp [intOf]; omega⟩
            rw [HSU.out]
            exact ⟨S5, lv5, HX2.out.1.trans X5, rowS_pmx HX2.out.2 HX2.out.1.is X5⟩
          · have dj : decide ((j : Int) < (sn : Int)) = false := decide_eq_false (by omega)
            obtain rfl : j = sn := by omega
            have HF : Hid (∃ Q S' lv', LrnR l told F [a] P Q ∧ PmX S w S' wr pb vb kb (.pointer (some ⟨p, 0, none⟩)) (.slice ta ln tc) fv lv lv' Q) := by
              rw [List.take_of_length_le (by rw [HSN.out]; exact Nat.le_refl _), HLN.out] at Xj
              exact ⟨_, Sj, lvj, ⟨_, ⟨SF, HE.out.2.2.2.2, fun _ => rfl, fun hr => absurd hroom hr⟩, rfl⟩, Xj⟩
            clear HJ Xj Rj
            go_wp2_with fail
            exact ⟨Or.inr ⟨rfl, HF⟩, by simp [intOf]⟩
      · rw [decide_eq_false hroom] at RM
        apply_assumption
        go_wp2_with (first | (go_at_call 94; refine RM.mono ?_; rintro e w4 ⟨rfl, B4⟩; refine Aside.out ?_))
        delta Aside
        have HB4 : Hid (Below w.heap.size w w4) := HB3.out.trans (B4.mono HB3.out.size)
        have x1 := (B4.cell (World.block_lt_of_cell? w3 _ y1)).trans y1
        have x2 := (B4.cell (World.block_lt_of_cell? w3 _ y2)).trans y2
        have LW := learnWhole_in S w4 pb vb kb (.slice ta l.length tc) fv lv P base p ev nb fb l (HA.out.1.below HB4.out) (HA.out.2.1.below HA.out.2.1.low HB4.out) hb (by rw [HLN.out]; exact hl) da dc told (HA.out.2.2.2.1.below HB4.out) (by rw [HTN.out]; exact htl) (fun q hq => by have := HA.out.2.2.2.2.1 q hq; omega) HA.out.2.2.2.2.2.1 a ⟨by rw [HLN.out]; exact hai1, by rw [HLN.out]; exact hai.2⟩ V HA.out.2.2.2.2.2.2.2.1 HA.out.2.2.2.2.2.2.2.2 (by omega)
        rw [HTN.out] at LW
        clear RM B4 y1 y2
        apply_assumption
        go_wp2_with (first | (go_at_call 95; refine LW.mono ?_; rintro e w5 ⟨rfl, ns, S5, lv5, hfit, X5⟩))
        refine ⟨Or.inr ⟨rfl, _, S5, lv5, ⟨_, ⟨SF, HE.out.2.2.2.2, fun hr => absurd hr hroom, fun _ => ⟨ns, hfit, rfl⟩⟩, rfl⟩, ?_⟩, by simp [intOf]⟩
        rw [← HLN.out]
        exact ((PmX.start HA.out.1).below HB4.out).trans X5
    · go_wp2_with fail
      refine ⟨rfl, .tuple #[], by simp [results, Tryz.results49], rfl, F, ?_⟩
      obtain ⟨Q, S', lv', h1, h2⟩ := HQ.out
      rw [← HLN.out] at h2
      exact ⟨Q, S', lv', HE.out.1, h1, h2⟩
end Go.Proofs.YtlehlgipbhfioaaGreat

namespace Go.Proofs.YtlehlgipbhfioaaGreat
open Go.RowKit Go.Maps

/-- A slice in memory, of so many cells an element. -/
def PartAt (sz : Nat) (W : World) (u : Value) (n : Nat) (xs : List Value) : Prop := ∃ a c, u = .slice a n c ∧ xs.length = n * sz ∧ (∀ v ∈ xs, v.oneCell' = true) ∧ (n = 0 ∨ ∃ b off, a = some ⟨b, off, none⟩ ∧ ∀ (j : Nat) (v : Value), xs[j]? = some v → W.cell? ⟨b, off + j, none⟩ = some v)
theorem PartAt.below {sz : Nat} {W W' : World} {u : Value} {n : Nat} {xs : List Value} (h : PartAt sz W u n xs) (hB : Below W.heap.size W W') : PartAt sz W' u n xs := by
  obtain ⟨a, c, h1, h2, h3, h4⟩ := h
  refine ⟨a, c, h1, h2, h3, h4.imp id ?_⟩
  rintro ⟨b, off, e, h5⟩
  exact ⟨b, off, e, fun j v hj => (hB.cell (World.block_lt_of_cell? W _ (h5 j v hj))).trans (h5 j v hj)⟩

set_option maxRecDepth 100000 in
set_option maxHeartbeats 1000000 in
theorem growC_in (w : World) (n : Nat) (hn : n ≤ 1000000000) :
    Calls Tryz.prog 132 #[.slice none 0 0, .int .i64 (n : Int)] w fun e w' => ∃ v, e = .returned v ∧ w'.ownsRow w.heap.size 39 1 v 0 [] ∧ Below w.heap.size w w' := by
  by_cases h0 : n = 0
  · subst h0
    go_enter Tryz.func132, Tryz.ntmps132
    go_wp2_with fail
    go_ret
    exact ⟨_, rfl, World.ownsRow_nil _ _ _ _, Below.refl _ _⟩
  · have hby : Tryz.t39.bytes = 24 := rfl
    have hk1 : ¬ (281474976710656 < (n : Int) * (Tryz.t39.bytes : Int)) := by rw [hby]; omega
    have hnx : Builtin.nextslicecap n 0 = n := by
      unfold Builtin.nextslicecap
      simp
      omega
    have hk2 : ¬ (281474976710656 < Builtin.nextslicecap n 0 * Tryz.t39.bytes) := by rw [hnx, hby]; omega
    clear hby hnx
    go_enter Tryz.func132, Tryz.ntmps132
    go_wp2_with fail
    obtain ⟨cap, hcap⟩ : ∃ c, (Question.appendCap n 0 39).cut (w.tape w.drawn (Question.appendCap n 0 39)) = c := ⟨_, rfl⟩
    have h1 : n ≤ cap ∧ cap ≤ maxLen := by
      rw [← hcap]
      simp only [Question.cut]
      have := Nat.mod_lt (w.tape w.drawn (Question.appendCap n 0 39)) (show 0 < 2 ^ 63 - n by omega)
      unfold maxLen
      omega
    simp only [hcap]
    clear hcap
    go_ret
    refine ⟨_, rfl, ⟨rfl, Or.inr ⟨w.heap.size, cap, _, rfl, Nat.le_refl _, heap_alloc_new _ _, Nat.zero_le _, h1.2, ?_, rfl⟩⟩, ((Below.refl w.heap.size w).alloc (Nat.le_refl _) _).trans ⟨rfl, rfl, rfl, Nat.le_refl _, fun _ _ => rfl⟩⟩
    rw [Array.size_append, size_zeroCells, size_zeroCells]
    simp
    omega

theorem run_app0 {P : Program} (w : World) (t ty e : TypeId) (i : TypeInfo) (ht : P.underlying t = some (.slice e)) (hi : P.info? e = some i) (base : Option Addr) (n c : Nat) (hle : n ≤ c) (xa : Option Addr) (xc : Nat) :
    (Builtin.append_ #[t, t] ty #[.slice base n c, .slice xa 0 xc]).run P w = .ok (.slice base n c) w := by
  cases base <;> cases xa <;> simp [Builtin.append_, run_underlying ht, sizeOf, typeInfo, hi, Builtin.lenOf, Builtin.firstCells, hle, storeCells, loadCells, loadCellsFrom]
theorem wpList_app0 {P : Program} {w : World} {ops : Array Oper} {rest : List Oper} {o : Oper} {a : Act} {Q : Exit → Act → World → Prop} (hgd : o.guard = none) (s x : Operand) (t : TypeId)
    (ho : o.op = .call { callee := .builtin .append, args := #[s, x], argTypes := #[t, t] }) (e : TypeId) (i : TypeInfo) (ht : P.underlying t = some (.slice e)) (hi : P.info? e = some i)
    (base : Option Addr) (n c : Nat) (hs : a.eval s = .slice base n c) (hle : n ≤ c) (xa : Option Addr) (xc : Nat) (hx : a.eval x = .slice xa 0 xc) (h : wpList P ops Q rest (a.put o.dst (.slice base n c)) w) : wpList P ops Q (o :: rest) a w := by
  refine wpList_plain hgd fun K hK => ?_
  have hr := run_app0 w t o.type e i ht hi base n c hle xa xc
  unfold Oper.wp execOp
  simp only [ho, resolve, invoke, builtin, Sem.run_bind, Sem.run_pure, Result.andThen_ok, List.map_toArray, List.map_cons, List.map_nil, hs, hx, hr]
  exact hK _ _ h
/-- What Concat answers. -/
def catV (ps : List (Nat × List Value)) : List Value := ps.flatMap (·.2)
def catN (ps : List (Nat × List Value)) : Nat := (ps.map (·.1)).sum
theorem catN_le {ps : List (Nat × List Value)} (i : Nat) : catN (ps.take i) ≤ catN ps := by
  unfold catN
  conv => rhs; rw [← List.take_append_drop i ps, List.map_append, List.sum_append]
  omega
theorem cat_succ {ps : List (Nat × List Value)} {i : Nat} {q : Nat × List Value} (h : ps[i]? = some q) : catN (ps.take (i + 1)) = catN (ps.take i) + q.1 ∧ catV (ps.take (i + 1)) = catV (ps.take i) ++ q.2 := by
  rw [List.take_add_one, h]
  simp [catN, catV]

set_option maxRecDepth 100000 in
set_option maxHeartbeats 1000000 in
theorem catC_in (w : World) (pa : Option Addr) (pc : Nat) (ps : List (Nat × List Value)) (hp : ∀ (i : Nat) (q : Nat × List Value), ps[i]? = some q → ∃ b off u, pa = some ⟨b, off, none⟩ ∧ w.cell? ⟨b, off + i, none⟩ = some u ∧ PartAt 1 w u q.1 q.2) (hN : catN ps ≤ 1000000000) (hl : ps.length ≤ 1000000) :
    Calls Tryz.prog 88 #[.slice pa ps.length pc] w fun e w' => ∃ v, e = .returned v ∧ w'.ownsRow w.heap.size 39 1 v (catN ps) (catV ps) ∧ Below w.heap.size w w' := by
  obtain ⟨n, hn⟩ : ∃ n, ps.length = n := ⟨_, rfl⟩
  have HN : Hid _ := hn
  have HP : Hid _ := hp
  have HC : Hid _ := hN
  rw [hn] at hl ⊢
  clear hp hN hn
  go_enter Tryz.func88, Tryz.ntmps88
  go_wp2_with fail
  go_loopw [3, 11] (fun t3 t11 W => ∃ i : Nat, i ≤ n ∧ t11 = .int .i64 (i : Int) ∧ t3 = .int .i64 (catN (ps.take i) : Int) ∧ W = w) (fun _ t11 _ => n - (intOf t11).toNat)
  case atStart => exact ⟨0, Nat.zero_le _, rfl, by simp [catN], rfl⟩
  case round =>
    obtain ⟨i, hi, rfl, rfl, rfl⟩ := hrel
    have hle := Nat.le_trans (catN_le (ps := ps) i) HC.out
    by_cases hlt : i < n
    · have di : decide ((i : Int) < (n : Int)) = true := decide_eq_true (by omega)
      have hwi : IntKind.i64.wrap ((i : Int) + 1) = (i : Int) + 1 := wrap_nat1 (by omega)
      have hil : i < ps.length := by rw [HN.out]; exact hlt
      have hge := List.getElem?_eq_getElem hil
      obtain ⟨b, off, u, rfl, cu, a, c, rfl, _⟩ := HP.out i _ hge
      have hs := cat_succ hge
      have hle2 := Nat.le_trans (catN_le (ps := ps) (i + 1)) HC.out
      generalize ps[i] = q at *
      obtain ⟨qn, qx⟩ := q
      simp only at cu hs
      have HS : Hid _ := hs.1
      rw [hs.1] at hle2
      clear hge hs
      generalize catN (ps.take i) = t at *
      have hwt : IntKind.i64.wrap ((t : Int) + (qn : Int)) = (t : Int) + (qn : Int) := by rw [IntKind.wrap_i64]; omega
      have dn : decide ((t : Int) + (qn : Int) < 0) = false := decide_eq_false (by omega)
      go_wp2_with fail
      exact ⟨⟨i + 1, hlt, by simp, by rw [HS.out]; simp, by trivial⟩, by simp [intOf]; omega⟩
    · have di : decide ((i : Int) < (n : Int)) = false := decide_eq_false (by omega)
      obtain rfl : i = n := by omega
      have hta : ps.take i = ps := List.take_of_length_le (by rw [HN.out]; exact Nat.le_refl _)
      rw [hta] at hle ⊢
      have GR := growC_in wr (catN ps) hle
      clear hta
      obtain ⟨tot, htot⟩ : ∃ t, t = catN ps := ⟨_, rfl⟩
      rw [← htot] at GR hle ⊢
      have HTO : Hid _ := htot
      clear htot
      go_wp2_with (first | (go_at_call 132; refine GR.mono ?_; rintro e w1 ⟨v1, rfl, R1, B1⟩))
      have HI0 : Hid (w1.ownsRow wr.heap.size 39 1 v1 (catN (ps.take 0)) (catV (ps.take 0)) ∧ Below wr.heap.size wr w1) := ⟨R1, B1⟩
      clear R1 B1 GR
      obtain ⟨w0, hw0⟩ : ∃ x, x = wr := ⟨_, rfl⟩
      rw [← hw0] at HI0 HP
      have HW0 : Hid _ := hw0
      clear hw0
      obtain ⟨i0, hi0, hz0, hz1, hz2⟩ := info_parts infoInts
      go_loopw [6, 27] (fun t6 t27 W => ∃ j : Nat, j ≤ i ∧ t27 = .int .i64 (j : Int) ∧ Hid (W.ownsRow w0.heap.size 39 1 t6 (catN (ps.take j)) (catV (ps.take j)) ∧ Below w0.heap.size w0 W)) (fun _ t27 _ => i - (intOf t27).toNat)
      case atStart => exact ⟨0, Nat.zero_le _, rfl, HI0⟩
      case round =>
        obtain ⟨j, hj, rfl, HJ⟩ := hrel
        clear HI0
        obtain ⟨va, vc, hva⟩ := ownsRow_form HJ.out.1
        subst hva
        by_cases hlt : j < i
        · have dj : decide ((j : Int) < (i : Int)) = true := decide_eq_true (by omega)
          have hwj : IntKind.i64.wrap ((j : Int) + 1) = (j : Int) + 1 := wrap_nat1 (by omega)
          have hjl : j < ps.length := by rw [HN.out]; exact hlt
          have hge := List.getElem?_eq_getElem hjl
          obtain ⟨b, off, u, rfl, cu, a, c, rfl, hxl, hx1, hx⟩ := HP.out j _ hge
          have hs := cat_succ hge
          have hle2 := Nat.le_trans (catN_le (ps := ps) (j + 1)) HC.out
          generalize ps[j] = q at *
          obtain ⟨qn, qx⟩ := q
          simp only at cu hs hxl hx1 hx
          have HS : Hid _ := hs
          rw [hs.1] at hle2
          have cu2 := (HJ.out.2.cell (World.block_lt_of_cell? w0 _ cu)).trans cu
          have hrow := HJ.out.1
          have hbw := HJ.out.2.size
          have HB : Hid _ := HJ.out.2
          clear hge hs HJ cu
          generalize catN (ps.take j) = t at *
          generalize catV (ps.take j) = xs at *
          by_cases hq0 : qn = 0
          · subst hq0
            have hqx : qx = [] := List.eq_nil_of_length_eq_zero (by simpa using hxl)
            subst hqx
            have htv : t ≤ vc := by
              rcases hrow.2 with ⟨e, h0⟩ | ⟨g, cap, cur, e, _, _, h3, _⟩
              · omega
              · cases e; exact h3
            have HF : Hid (wr.ownsRow w0.heap.size 39 1 (.slice va t vc) (catN (ps.take (j + 1))) (catV (ps.take (j + 1))) ∧ Below w0.heap.size w0 wr) := by
              rw [HS.out.1, HS.out.2, List.append_nil]
              exact ⟨hrow, HB.out⟩
            clear hrow HB HS
            go_wp2_with (first | (at_builtin; refine Aside.out ?_))
            delta Aside
            refine wpList_app0 rfl _ _ 116 rfl 39 i0 Tryz.underlying116 hi0 va t vc rfl htv a c rfl ?_
            clear cu2
            go_wp2_with fail
            exact ⟨⟨j + 1, hlt, by simp, HF⟩, by simp [intOf]; omega⟩
          · obtain ⟨sb, so, rfl, hcs⟩ := hx.resolve_left hq0
            go_wp2_with (first | (at_builtin; refine Aside.out ?_))
            delta Aside
            refine wpList_append_own_at _ rfl _ _ 116 rfl w0.heap.size 39 i0 _ 1 24 Tryz.underlying116 hi0 hz0 hz1 hz2 rfl (by decide) _ _ _ rfl hrow ⟨_, _, none⟩ qn c qx rfl hxl (fun k z hk => by rw [Addr.add_lit]; exact (HB.out.cell (World.block_lt_of_cell? w0 _ (hcs k z hk))).trans (hcs k z hk)) hx1 (by unfold maxLen; omega) (by omega) hbw ?_
            intro v8 w8 hown8 hgrow8 _ hat8
            have K8 : Kept (fun k => (Value.slice va t vc).ownBlock = some k) wr w8 := Kept.grown (Kept.refl _ wr) hgrow8 (fun k e => e)
            have HF : Hid (w8.ownsRow w0.heap.size 39 1 v8 (catN (ps.take (j + 1))) (catV (ps.take (j + 1))) ∧ Below w0.heap.size w0 w8) := by
              rw [HS.out.1, HS.out.2]
              exact ⟨hown8, HB.out.trans (K8.below hbw (fun q hq => (ownsRow_lt hrow hq).1))⟩
            clear hown8 hgrow8 hat8 K8 hrow cu2 hcs
            go_wp2_with fail
            exact ⟨⟨j + 1, hlt, by simp, HF⟩, by simp [intOf]; omega⟩
        · have dj : decide ((j : Int) < (i : Int)) = false := decide_eq_false (by omega)
          obtain rfl : j = i := by omega
          have HF : Hid (wr.ownsRow w0.heap.size 39 1 (.slice va (catN (ps.take j)) vc) (catN ps) (catV ps) ∧ Below w0.heap.size w0 wr) := by
            have := HJ.out
            rw [List.take_of_length_le (by rw [HN.out]; exact Nat.le_refl _)] at this ⊢
            exact this
          clear HJ
          generalize catN (ps.take j) = t at *
          go_wp2_with fail
          go_ret
          have := HF.out
          rw [HW0.out] at this
          exact ⟨_, rfl, this⟩
end Go.Proofs.YtlehlgipbhfioaaGreat

namespace Go.Proofs.YtlehlgipbhfioaaGreat
open Go.RowKit Go.Maps

/-- Values that are clauses. -/
def CsV (W : World) (xs : List Value) (css : List (List Int)) : Prop := xs.length = css.length ∧ ∀ (i : Nat) (c : List Int), css[i]? = some c → ∃ ra rc, xs[i]? = some (.slice ra c.length rc) ∧ ClsAt W ra c
theorem CsV.app {W : World} {xs ys : List Value} {cs ds : List (List Int)} (h : CsV W xs cs) (k : CsV W ys ds) : CsV W (xs ++ ys) (cs ++ ds) := by
  refine ⟨by simp [h.1, k.1], fun i c hi => ?_⟩
  by_cases hl : i < cs.length
  · rw [List.getElem?_append_left hl] at hi
    rw [List.getElem?_append_left (by rw [h.1]; exact hl)]
    exact h.2 i c hi
  · rw [List.getElem?_append_right (by omega)] at hi
    rw [List.getElem?_append_right (by rw [h.1]; omega), h.1]
    exact k.2 _ c hi
theorem CsV.mono {W W' : World} (hm : Mono W W') {xs : List Value} {cs : List (List Int)} (h : CsV W xs cs) : CsV W' xs cs := by
  refine ⟨h.1, fun i c hi => ?_⟩
  obtain ⟨ra, rc, h1, h2⟩ := h.2 i c hi
  exact ⟨ra, rc, h1, h2.mono hm⟩
theorem CsV.one {W : World} {xs : List Value} {cs : List (List Int)} (h : CsV W xs cs) : ∀ v ∈ xs, v.oneCell' = true := fun v hv => by
  obtain ⟨i, hi, e⟩ := List.getElem_of_mem hv
  obtain ⟨ra, rc, h1, _⟩ := h.2 i _ (List.getElem?_eq_getElem (by rw [← h.1]; exact hi))
  rw [List.getElem?_eq_getElem hi, e] at h1
  cases h1
  rfl
/-- Clauses in memory are a part. -/
theorem CssAt.part {W : World} {ca : Option Addr} {cc : Nat} {cs : List (List Int)} (h : CssAt W ca cs) : ∃ xs, PartAt 1 W (.slice ca cs.length cc) cs.length xs ∧ CsV W xs cs := by
  rcases h with e | ⟨b, off, rfl, h⟩
  · subst e
    exact ⟨[], ⟨ca, cc, rfl, rfl, by simp, Or.inl rfl⟩, rfl, fun i c hi => by simp at hi⟩
  · refine ⟨(List.range cs.length).map fun i => (W.cell? ⟨b, off + i, none⟩).getD undef, ?_⟩
    have hv : CsV W ((List.range cs.length).map fun i => (W.cell? ⟨b, off + i, none⟩).getD undef) cs := by
      refine ⟨by simp, fun i c hi => ?_⟩
      have hl := (List.getElem?_eq_some_iff.1 hi).1
      obtain ⟨ra, rc, h1, h2⟩ := h i c hi
      refine ⟨ra, rc, ?_, h2⟩
      rw [List.getElem?_map, List.getElem?_range hl, Option.map_some, h1]
      rfl
    refine ⟨⟨_, cc, rfl, by simp, hv.one, Or.inr ⟨b, off, rfl, fun j v hj => ?_⟩⟩, hv⟩
    have hl : j < cs.length := by have := (List.getElem?_eq_some_iff.1 hj).1; simpa using this
    rw [List.getElem?_map, List.getElem?_range hl, Option.map_some] at hj
    obtain ⟨ra, rc, h1, _⟩ := h j _ (List.getElem?_eq_getElem hl)
    rw [h1] at hj ⊢
    simpa using hj
/-- The lemmas are. -/
theorem Pm.part {S : Nat → Prop} {W : World} {pb vb kb : Nat} {bk tv fv lv : Value} {P : Pb} (h : Pm S W pb vb kb bk tv fv lv P) : ∃ a c xs, lv = .slice a P.lemmas.length c ∧ PartAt 1 W lv P.lemmas.length xs ∧ CsV W xs P.lemmas := by
  obtain ⟨rs, r1, r2, r3⟩ := h.rows
  obtain ⟨a, c, rfl⟩ := ownsRow_form r1
  have hv : CsV W rs P.lemmas := ⟨r2, fun i q hq => by obtain ⟨g, cap, q1, _, q3⟩ := r3 i q hq; exact ⟨_, cap, q1, q3.cls⟩⟩
  refine ⟨a, c, rs, by rw [r2], ⟨a, c, by rw [r2], by rw [r2, Nat.mul_one], hv.one, ?_⟩, hv⟩
  rcases id r1.2 with ⟨e, h0⟩ | ⟨g, cap, cur, e, _⟩
  · left; omega
  · cases e
    refine Or.inr ⟨g, 0, rfl, fun j v hj => ?_⟩
    have hjl := (List.getElem?_eq_some_iff.1 hj).1
    rw [Nat.zero_add, r1.cellAt j (by omega)]
    exact hj
theorem infoCss : (Tryz.prog.info? 116).map (fun i => (i.zero, i.size, i.bytes)) = some (some (.slice none 0 0), 1, 24) := by kernel_rfl

/-- The parts that clausesOf puts together. -/
def psN (P : Pb) (fs : List Fm) (lx : List Value) (X : Nat → List Value) (ns : List Nat) : List (Nat × List Value) := (P.lemmas.length, lx) :: ns.map fun n => ((Fm.get fs n).cs.length, X n)
theorem psN_csv {W : World} {P : Pb} {fs : List Fm} {lx : List Value} {X : Nat → List Value} (hl : CsV W lx P.lemmas) : ∀ (ns : List Nat), (∀ n ∈ ns, CsV W (X n) (Fm.get fs n).cs) → CsV W (catV (psN P fs lx X ns)) (clsN P fs ns) ∧ catN (psN P fs lx X ns) = (clsN P fs ns).length := by
  intro ns h
  have e1 : catV (psN P fs lx X ns) = lx ++ ns.flatMap X := by simp [catV, psN, List.flatMap_map]
  have key : ∀ ns : List Nat, (∀ n ∈ ns, CsV W (X n) (Fm.get fs n).cs) → CsV W (ns.flatMap X) (ns.flatMap fun n => (Fm.get fs n).cs) := by
    intro ns
    induction ns with
    | nil => intro _; exact ⟨rfl, fun i c hi => by simp at hi⟩
    | cons a r ih =>
      intro h
      rw [List.flatMap_cons, List.flatMap_cons]
      exact (h a (by simp)).app (ih fun n hn => h n (by simp [hn]))
  have hc : CsV W (catV (psN P fs lx X ns)) (clsN P fs ns) := by
    rw [e1]
    exact hl.app (key ns h)
  refine ⟨hc, ?_⟩
  simp [catN, psN, clsN, List.length_flatMap, List.map_map, Function.comp_def]

set_option maxRecDepth 100000 in
set_option maxHeartbeats 1000000 in
theorem clausesOf_in (S : Nat → Prop) (w : World) (pb vb kb : Nat) (bk tv fv lv : Value) (P : Pb) (h : Pm S w pb vb kb bk tv fv lv P) (N : Nat) (fs : List Fm) (ha : FmsAt w N fv fs) (xa : Option Addr) (xc : Nat) (ns : List Nat) (hx : NsAt w (.slice xa ns.length xc) ns) (hns : ∀ n ∈ ns, n < fs.length) (hnl : ns.length ≤ 100000) (hcl : (clsN P fs ns).length ≤ 100000000) :
    Calls Tryz.prog 45 #[.pointer (some ⟨pb, 0, none⟩), .slice xa ns.length xc] w fun e w' => ∃ ca cc, e = .returned (.slice ca (clsN P fs ns).length cc) ∧ CssAt w' ca (clsN P fs ns) ∧ Below w.heap.size w w' := by
  obtain ⟨la, lc, lx, hlv, hlp, hlc⟩ := h.part
  subst hlv
  have c5 : w.cell? ⟨pb, 5, none⟩ = some (.slice la P.lemmas.length lc) := h.cells.cell (i := 5) (by omega)
  obtain ⟨fa, fc, hfv, ha⟩ := ha
  subst hfv
  have c2 : w.cell? ⟨pb, 2, none⟩ = some (.slice fa fs.length fc) := h.cells.cell (i := 2) (by omega)
  have hX : ∀ n : Nat, ∃ X : List Value, ∀ hn : n < fs.length, ∃ b off ca cc, fa = some ⟨b, off, none⟩ ∧ w.cell? ⟨b, off + n * 6 + 5, none⟩ = some (.slice ca (Fm.get fs n).cs.length cc) ∧ PartAt 1 w (.slice ca (Fm.get fs n).cs.length cc) (Fm.get fs n).cs.length X ∧ CsV w X (Fm.get fs n).cs := fun n => by
    by_cases hn : n < fs.length
    · have e := List.getElem?_eq_getElem hn
      obtain ⟨b, off, h3, op, x, y, ka, kn, kc, au, cu, f, ⟨_, _, _, _, _, c5⟩, _, _, _, _, ca, cc, rfl, hcs⟩ := ha n _ e
      obtain ⟨xs, x1, x2⟩ := hcs.part (cc := cc)
      exact ⟨xs, fun _ => ⟨b, off, ca, cc, h3, by rw [Fm.get_at e]; exact c5, by rw [Fm.get_at e]; exact x1, by rw [Fm.get_at e]; exact x2⟩⟩
    · exact ⟨[], fun h => absurd h hn⟩
  obtain ⟨X, hX⟩ := Classical.axiomOfChoice hX
  obtain ⟨n, hn⟩ : ∃ n, ns.length = n := ⟨_, rfl⟩
  have HN : Hid _ := hn
  rw [hn] at hnl ⊢
  have HX : Hid (_ ∧ _ ∧ _ ∧ _ ∧ _ ∧ _) := And.intro hX (And.intro hx (And.intro hns (And.intro hlp (And.intro hlc hcl))))
  clear hX hx hns hlp hlc hcl h ha hn
  have HI0 : Hid (∃ vs : List Value, (w.alloc (.cells #[.slice la P.lemmas.length lc] 116)).ownsRow w.heap.size 116 1 (.slice (some ⟨w.heap.size, 0, none⟩) 1 1) (0 + 1) vs ∧ Below w.heap.size w (w.alloc (.cells #[.slice la P.lemmas.length lc] 116)) ∧ ∀ (j : Nat) (q : Nat × List Value), (psN P fs lx X (ns.take 0))[j]? = some q → ∃ u, vs[j]? = some u ∧ PartAt 1 w u q.1 q.2) := by
    refine ⟨[.slice la P.lemmas.length lc], ⟨rfl, Or.inr ⟨w.heap.size, 1, #[.slice la P.lemmas.length lc], rfl, Nat.le_refl _, heap_alloc_new _ _, Nat.le_refl _, by unfold maxLen; omega, rfl, rfl⟩⟩, (Below.refl _ _).alloc (Nat.le_refl _) _, fun j q hq => ?_⟩
    match j, hq with
    | 0, hq => simp [psN] at hq; subst hq; exact ⟨_, rfl, HX.out.2.2.2.1⟩
    | j + 1, hq => simp [psN] at hq
  go_enter Tryz.func45, Tryz.ntmps45
  go_wp2_with fail
  generalize w.alloc (.cells #[.slice la P.lemmas.length lc] 116) = w1 at *
  obtain ⟨g0, hg0⟩ : ∃ m, w.heap.size = m := ⟨_, rfl⟩
  have HG0 : Hid _ := hg0
  simp only [hg0] at HI0 ⊢
  clear hg0 c5
  obtain ⟨i0, hi0, hz0, hz1, hz2⟩ := info_parts infoCss
  go_loopw [5, 15] (fun t5 t15 W => ∃ i : Nat, i ≤ n ∧ t15 = .int .i64 (i : Int) ∧ Hid (∃ vs : List Value, W.ownsRow g0 116 1 t5 (i + 1) vs ∧ Below g0 w W ∧ ∀ (j : Nat) (q : Nat × List Value), (psN P fs lx X (ns.take i))[j]? = some q → ∃ u, vs[j]? = some u ∧ PartAt 1 w u q.1 q.2)) (fun _ t15 _ => n - (intOf t15).toNat)
  case atStart => exact ⟨0, Nat.zero_le _, rfl, HI0⟩
  case round =>
    obtain ⟨i, hi, rfl, HJ⟩ := hrel
    clear HI0
    obtain ⟨vs, hrow, hbel, hvs⟩ := HJ.out
    obtain ⟨va, vc, hva⟩ := ownsRow_form hrow
    subst hva
    rw [← HG0.out] at hbel hrow
    by_cases hlt : i < n
    · have di : decide ((i : Int) < (n : Int)) = true := decide_eq_true (by omega)
      have hwi : IntKind.i64.wrap ((i : Int) + 1) = (i : Int) + 1 := wrap_nat1 (by omega)
      have hil : i < ns.length := by rw [HN.out]; exact hlt
      obtain ⟨xb, xo, xc', ex, qx⟩ := HX.out.2.1.get (List.getElem?_eq_getElem hil)
      cases ex
      have hxk := HX.out.2.2.1 _ (List.getElem_mem hil)
      have hsu : psN P fs lx X (ns.take (i + 1)) = psN P fs lx X (ns.take i) ++ [((Fm.get fs ns[i]).cs.length, X ns[i])] := by
        unfold psN
        rw [List.take_add_one, List.getElem?_eq_getElem hil, Option.toList_some, List.map_append]
        rfl
      have hpl : (psN P fs lx X (ns.take i)).length = i + 1 := by simp [psN]; omega
      generalize ns[i] = x at *
      obtain ⟨fb, fo, ca, cc, rfl, q5, hpt, _⟩ := HX.out.1 x hxk
      have hget : ∀ {a : Addr} {u : Value}, w.cell? a = some u → wr.cell? a = some u := fun hc => (hbel.cell (World.block_lt_of_cell? w _ hc)).trans hc
      have qx := hget qx
      have q5 := hget q5
      have c2 := hget c2
      have hbs := hbel.size
      have hvl : vs.length = i + 1 := by have := hrow.1; omega
      have HF0 : Hid (_ ∧ _ ∧ _ ∧ _ ∧ _) := And.intro hbel (And.intro hvs (And.intro hpt (And.intro hsu hpl)))
      generalize (Fm.get fs x).cs.length = cl at *
      generalize fs.length = fl at *
      clear HJ hbel hvs hpt hsu hget HX
      go_wp2_with (first | (at_builtin; refine Aside.out ?_))
      delta Aside
      refine wpList_append_own_at _ rfl _ _ 194 rfl w.heap.size 116 i0 _ 1 24 Tryz.underlying194 hi0 hz0 hz1 hz2 rfl (by decide) _ _ _ rfl (hrow.alloc _) ⟨_, 0, none⟩ 1 1 [.slice ca cl cc] rfl rfl (cell_oneV wr _ _) (by simp [Value.oneCell']) (by unfold maxLen; omega) (by omega) (by simp; omega) ?_
      intro v8 w8 hown8 hgrow8 _ hat8
      have K8 : Kept (fun k => (Value.slice va (i + 1) vc).ownBlock = some k) wr w8 := Kept.grown ((Kept.refl _ wr).alloc _) hgrow8 (fun k e => e)
      have HF : Hid (∃ vs : List Value, w8.ownsRow g0 116 1 v8 (i + 1 + 1) vs ∧ Below g0 w w8 ∧ ∀ (j : Nat) (q : Nat × List Value), (psN P fs lx X (ns.take (i + 1)))[j]? = some q → ∃ u, vs[j]? = some u ∧ PartAt 1 w u q.1 q.2) := by
        obtain ⟨hbel, hvs, hpt, hsu, hpl⟩ := HF0.out
        rw [← HG0.out, hsu]
        refine ⟨_, hown8, hbel.trans (K8.below hbs (fun q hq => (ownsRow_lt hrow hq).1)), fun j q hq => ?_⟩
        by_cases hj : j < i + 1
        · rw [List.getElem?_append_left (by rw [hpl]; exact hj)] at hq
          obtain ⟨u, u1, u2⟩ := hvs j q hq
          exact ⟨u, by rw [List.getElem?_append_left (by omega)]; exact u1, u2⟩
        · rw [List.getElem?_append_right (by rw [hpl]; omega), hpl] at hq
          have hj0 : j - (i + 1) = 0 := by
            have := (List.getElem?_eq_some_iff.1 hq).1
            simp at this
            omega
          rw [hj0] at hq
          simp at hq
          subst hq
          exact ⟨_, by rw [List.getElem?_append_right (by omega), hvl, hj0]; rfl, hpt⟩
      clear hown8 hgrow8 hat8 K8 hrow HF0 q5 qx
      go_wp2_with fail
      exact ⟨⟨i + 1, hlt, by simp, HF⟩, by simp [intOf]; omega⟩
    · have di : decide ((i : Int) < (n : Int)) = false := decide_eq_false (by omega)
      obtain rfl : i = n := by omega
      rw [List.take_of_length_le (by rw [HN.out]; exact Nat.le_refl _)] at hvs
      obtain ⟨z1, z2⟩ := psN_csv (fs := fs) (X := X) HX.out.2.2.2.2.1 ns (fun m hm => by obtain ⟨_, _, _, _, _, _, _, e⟩ := HX.out.1 m (HX.out.2.2.1 m hm); exact e)
      have hpl : (psN P fs lx X ns).length = i + 1 := by simp [psN, HN.out]
      have CA := catC_in wr va vc (psN P fs lx X ns) (fun j q hq => by
        obtain ⟨u, u1, u2⟩ := hvs j q hq
        have hjl := (List.getElem?_eq_some_iff.1 u1).1
        rcases id hrow.2 with ⟨e, h0⟩ | ⟨g, cap, cur, e, _⟩
        · cases h0
        · cases e
          exact ⟨g, 0, u, rfl, by rw [Nat.zero_add, hrow.cellAt j (by have := hrow.1; omega)]; exact u1, u2.below hbel⟩) (by rw [z2]; have := HX.out.2.2.2.2.2; omega) (by omega)
      rw [hpl, z2] at CA
      have HF : Hid (_ ∧ _) := And.intro hbel z1
      obtain ⟨tl, htl⟩ : ∃ t, t = (clsN P fs ns).length := ⟨_, rfl⟩
      rw [← htl] at CA
      have HTL : Hid _ := htl
      clear htl
      clear HJ hvs hrow hbel z1 HX
      go_wp2_with (first | (go_at_call 88; refine CA.mono ?_; rintro e w3 ⟨v3, rfl, R3, B3⟩))
      go_ret
      obtain ⟨ca, cc, rfl⟩ := ownsRow_form R3
      refine ⟨ca, cc, by rw [HTL.out]; rfl, ?_, HF.out.1.trans (B3.mono HF.out.1.size)⟩
      have hv := HF.out.2.mono ((Mono.below HF.out.1).trans (Mono.below B3))
      rcases id R3.2 with ⟨e, h0⟩ | ⟨g, cap, cur, e, _⟩
      · exact Or.inl (List.eq_nil_of_length_eq_zero (by rw [← HTL.out, h0]))
      · cases e
        refine Or.inr ⟨g, 0, rfl, fun k c hk => ?_⟩
        obtain ⟨ra, rc, h1, h2⟩ := hv.2 k c hk
        have hkl := (List.getElem?_eq_some_iff.1 h1).1
        exact ⟨ra, rc, by rw [Nat.zero_add, R3.cellAt k (by have := R3.1; omega)]; exact h1, h2⟩
end Go.Proofs.YtlehlgipbhfioaaGreat

namespace Go.Proofs.YtlehlgipbhfioaaGreat
open Go.RowKit Go.Maps

/-- Solve, of clauses that it takes. -/
def SolveOk : Prop := ∀ (w : World) (n : Nat), n ≤ 2000 → ∀ (ca : Option Addr) (css : List (List Int)) (cc : Nat), CssAt w ca css → css.length ≤ 100000000 → (∀ c ∈ css, ClOk n c) → ∀ (r : Option (List Bool)), solveN n css = some r → Calls Tryz.prog 44 #[.int .i64 (n : Int), .slice ca css.length cc] w (SolvePost w n r)

/-- Variables are numbers from 1 on. -/
def VrP (P : Pb) : Prop := ∀ e ∈ P.vars, 1 ≤ e.2 ∧ e.2 ≤ P.count
theorem VrP.s {P : Pb} (h : VrP P) : VrS P := fun e he => (h e he).2
theorem VrP.num {P : Pb} (h : VrP P) {a : Pr} {x : Nat} (hx : numV P.vars a = some x) : 1 ≤ x ∧ x ≤ P.count := by
  unfold numV at hx
  cases hf : P.vars.find? fun e => decide (e.1 = a) with
  | none => rw [hf] at hx; cases hx
  | some e =>
    rw [hf] at hx
    cases hx
    exact h e (List.mem_of_find?_eq_some hf)
theorem VrP.vari {P : Pb} (h : VrP P) (a : Pr) : VrP (P.vari a).2 := by
  unfold Pb.vari
  cases hn : P.num a with
  | some x => exact h
  | none =>
    intro e he
    rcases List.mem_append.1 he with he | he
    · exact ⟨(h e he).1, Nat.le_succ_of_le (h e he).2⟩
    · simp at he
      subst he
      exact ⟨Nat.le_add_left _ _, Nat.le_refl _⟩
theorem VrP.prem : ∀ (r : List Pr) (P : Pb), VrP P → VrP (Pb.prem r P).2
  | [], _, h => h
  | a :: r, P, h => by
    rw [Pb.prem]
    split
    · exact VrP.prem r P h
    · exact VrP.prem r _ (h.vari a)
theorem VrP.step {P : Pb} (h : VrP P) (st : Stq) : VrP (P.step st) := by
  unfold Pb.step
  split
  · exact h
  · have h0 : VrP { P with known := P.known ++ [(st.1, pad4 st.2)] } := h
    exact VrP.prem (pad4 st.2) _ (h0.vari st.1)
theorem VrP.steps : ∀ (S : List Stq) (P : Pb), VrP P → VrP (S.foldl Pb.step P)
  | [], _, h => h
  | st :: S, _, h => VrP.steps S _ (h.step st)
theorem VrP.names : ∀ (r : List Pr) (P : Pb), VrP P → VrP (Pb.names r P).2
  | [], _, h => h
  | a :: r, _, h => VrP.names r _ (h.vari a)
theorem step_keeps (P : Pb) (st : Stq) (b : Pr) (h : P.num b ≠ none) : (P.step st).num b ≠ none := by
  unfold Pb.step
  split
  · exact h
  · exact prem_keeps _ _ b (vari_keeps _ _ _ h)
theorem steps_keep : ∀ (S : List Stq) (P : Pb) (b : Pr), P.num b ≠ none → (S.foldl Pb.step P).num b ≠ none
  | [], _, _, h => h
  | st :: S, P, b, h => steps_keep S _ b (step_keeps P st b h)
theorem names_keep : ∀ (r : List Pr) (P : Pb) (b : Pr), P.num b ≠ none → (Pb.names r P).2.num b ≠ none
  | [], _, _, h => h
  | a :: r, P, b, h => names_keep r _ b (vari_keeps P a b h)
theorem LrnK.keeps {l : List Tm} {told : List Pr} {F : Pf} {P Q : Pb} {a : Pr} (h : LrnK l told F P a Q) (hv : VrP P) : VrP Q ∧ ∀ b, P.num b ≠ none → Q.num b ≠ none := by
  obtain ⟨S, _, h1, h2⟩ := h
  by_cases hr : P.count + (missN P S []).length ≤ 2000
  · rw [h1 hr]
    exact ⟨VrP.steps S P hv, fun b hb => steps_keep S P b hb⟩
  · obtain ⟨ns, _, rfl⟩ := h2 hr
    exact ⟨VrP.names _ _ (hv.vari a), fun b hb => names_keep _ _ b (vari_keeps P a b hb)⟩
theorem LrnR.keeps {l : List Tm} {told : List Pr} {F : Pf} : ∀ {xs : List Pr} {P Q : Pb}, LrnR l told F xs P Q → VrP P → VrP Q ∧ ∀ b, P.num b ≠ none → Q.num b ≠ none
  | [], P, Q, h, hv => by
    cases (show Q = P from h)
    exact ⟨hv, fun _ h => h⟩
  | a :: r, P, Q, ⟨P1, h1, h2⟩, hv => by
    obtain ⟨k1, k2⟩ := h1.keeps hv
    obtain ⟨k3, k4⟩ := LrnR.keeps h2 k1
    exact ⟨k3, fun b hb => k4 b (k2 b hb)⟩
/-- What model reads besides its problem. -/
structure Env (W : World) (base p : Nat) (ev : Value) (nb fb : Nat) (l : List Tm) (ta : Option Addr) (tc : Nat) (fv : Value) (fs : List Fm) (xa : Option Addr) (xc : Nat) (ns : List Nat) : Prop where
  bank : Bk W base p ev nb fb l
  terms : TsAt W (.slice ta l.length tc) l
  fms : FmsAt W l.length fv fs
  nums : NsAt W (.slice xa ns.length xc) ns
/-- What the formulas keep to. -/
structure FsOk (N : Nat) (fs : List Fm) (ns : List Nat) : Prop where
  lt : ∀ n ∈ ns, n < fs.length
  few : ns.length ≤ 1000
  am : ∀ n, n < fs.length → (Fm.get fs n).am.length ≤ 1000 ∧ ∀ a ∈ (Fm.get fs n).am, a.1 ≤ a.2 ∧ a.2 < N
  all : (ns.flatMap fun n => (Fm.get fs n).am).length ≤ 1000
/-- Each atom has a variable. -/
def HasV (fs : List Fm) (P : Pb) : Prop := ∀ n, n < fs.length → ∀ a ∈ (Fm.get fs n).am, P.num a ≠ none
theorem tolN_ok {N : Nat} {fs : List Fm} {ns : List Nat} (h : FsOk N fs ns) {P : Pb} (hv : HasV fs P) (hr : VrP P) (hc : P.count ≤ 2000) (vs : List Bool) : (tolN fs P ns vs).length ≤ 1000 ∧ (∀ q ∈ tolN fs P ns vs, q.1 ≤ q.2 ∧ q.2 < N) ∧ ∀ q ∈ tolN fs P ns vs, ∃ x, numV P.vars q = some x ∧ x ≤ 100000 := by
  have hm : ∀ q ∈ tolN fs P ns vs, ∃ n ∈ ns, q ∈ (Fm.get fs n).am := fun q hq => by
    unfold tolN at hq
    rw [toldN_mem] at hq
    rcases hq with e | ⟨e, _⟩
    · cases e
    · exact e
  refine ⟨?_, fun q hq => ?_, fun q hq => ?_⟩
  · unfold tolN
    rw [toldN_addP]
    refine Nat.le_trans (addP_len _ _) ?_
    have h1 := List.length_filter_le (fun a => valB vs ((numV P.vars a).getD 0 - 1)) (ns.flatMap fun n => (Fm.get fs n).am)
    have := h.all
    simp
    omega
  · obtain ⟨n, hn, hqa⟩ := hm q hq
    exact (h.am n (h.lt n hn)).2 q hqa
  · obtain ⟨n, hn, hqa⟩ := hm q hq
    cases hx : numV P.vars q with
    | none => exact absurd hx (hv n (h.lt n hn) q hqa)
    | some x => exact ⟨x, rfl, by have := hr.num hx; omega⟩

theorem solveN_len {n : Nat} {cs : List (List Int)} {vs : List Bool} (h : solveN n cs = some (some vs)) : vs.length = n := by
  unfold solveN at h
  split at h
  · cases h
  · cases h
  · cases h
    simp
theorem BsAt.below {W W' : World} {v : Value} {k : Nat} {val : Nat → Bool} (h : BsAt W v k val) (hB : Below W.heap.size W W') : BsAt W' v k val := by
  obtain ⟨b, off, c, e, h2⟩ := h
  exact ⟨b, off, c, e, fun n hn => (hB.cell (World.block_lt_of_cell? W _ (h2 n hn))).trans (h2 n hn)⟩
/-- What model answers. -/
def MdlAns (w : World) (l : List Tm) (r : Option (List Pr)) (e : Ending) (w' : World) : Prop :=
  (r = none → e = .returned (.tuple #[.slice none 0 0, .bool false])) ∧ ∀ told, r = some told → ∃ (cb : Nat) (g : Nat → Nat), e = .returned (.tuple #[.slice (some ⟨cb, 0, none⟩) l.length l.length, .bool true]) ∧ w.heap.size ≤ cb ∧ w'.rowIs cb 3 l.length (fun i => .int .i64 (g i : Int)) ∧ ∀ i j, i < l.length → j < l.length → decide (g i = g j) = cgN l told i j
def MdlPost (S : Nat → Prop) (w : World) (pb vb kb : Nat) (bk tv fv lv : Value) (l : List Tm) (fs : List Fm) (Post : Option (List Pr) → Pb → Prop) (e : Ending) (w' : World) : Prop :=
  ∃ r Q S' lv', Post r Q ∧ PmX S w S' w' pb vb kb bk tv fv lv lv' Q ∧ VrP Q ∧ HasV fs Q ∧ MdlAns w l r e w'

set_option maxRecDepth 100000 in
set_option maxHeartbeats 1000000 in
theorem model_in (hS : SolveOk) (S : Nat → Prop) (w : World) (pb vb kb : Nat) (fv lv : Value) (P : Pb) (base p : Nat) (ev : Value) (nb fb : Nat) (l : List Tm) (ta : Option Addr) (tc : Nat) (h : Pm S w pb vb kb (.pointer (some ⟨p, 0, none⟩)) (.slice ta l.length tc) fv lv P) (hb : Cc.Bd l) (hl : l.length ≤ 150) (fs : List Fm) (xa : Option Addr) (xc : Nat) (ns : List Nat)
    (hE : ∀ W, Kept (PD pb vb kb lv) w W → Env W base p ev nb fb l ta tc fv fs xa xc ns) (hfs : FsOk l.length fs ns) (hv : HasV fs P) (hr : VrP P) (hsm : P.lemmas.length ≤ 100000 ∧ P.vars.length ≤ 2000 ∧ P.known.length ≤ 100000) (Post : Option (List Pr) → Pb → Prop) (f : Nat) (hf : f ≤ 2) (hM : MdlT l fs ns Post f P) :
    Calls Tryz.prog 22 #[.pointer (some ⟨pb, 0, none⟩), .slice xa ns.length xc] w (MdlPost S w pb vb kb (.pointer (some ⟨p, 0, none⟩)) (.slice ta l.length tc) fv lv l fs Post) := by
  have hBn : Bnk l := ⟨fun i t ht => hb.four t (List.mem_of_getElem? ht), fun i t ht => hb.args i t ht, fun i j t u ht hu => hb.one t (List.mem_of_getElem? ht) u (List.mem_of_getElem? hu)⟩
  have HI0 : Hid (∃ Q S' lv', PmX S w S' w pb vb kb (.pointer (some ⟨p, 0, none⟩)) (.slice ta l.length tc) fv lv lv' Q ∧ MdlT l fs ns Post f Q ∧ VrP Q ∧ HasV fs Q ∧ (f = 2 → Q.lemmas.length ≤ 100000 ∧ Q.vars.length ≤ 2000 ∧ Q.known.length ≤ 100000)) := ⟨P, S, lv, PmX.start h, hM, hr, hv, fun _ => hsm⟩
  have HE : Hid (_ ∧ _) := And.intro hE hfs
  have HS : Hid SolveOk := hS
  clear h hE hfs hv hr hsm hM hS
  obtain ⟨n, hn⟩ : ∃ n, ns.length = n := ⟨_, rfl⟩
  have HN : Hid _ := hn
  rw [hn]
  clear hn
  go_enter Tryz.func22, Tryz.ntmps22
  go_wp2_with fail
  go_loopg [6] f (fun k _ W => Hid (k ≤ 2 ∧ ∃ Q S' lv', PmX S w S' W pb vb kb (.pointer (some ⟨p, 0, none⟩)) (.slice ta l.length tc) fv lv lv' Q ∧ MdlT l fs ns Post k Q ∧ VrP Q ∧ HasV fs Q ∧ (k = 2 → Q.lemmas.length ≤ 100000 ∧ Q.vars.length ≤ 2000 ∧ Q.known.length ≤ 100000)))
  case atStart => exact ⟨hf, HI0.out⟩
  case round =>
    clear HI0
    obtain ⟨hk2, Q, S1, lv1, X1, hMd, hVr, hHv, hsm⟩ := hrel.out
    cases gk with
    | zero => exact absurd hMd (by simp [MdlT])
    | succ k =>
    obtain ⟨hSlv, hMd⟩ := hMd
    have hE1 : ∀ W', Below wr.heap.size wr W' → Env W' base p ev nb fb l ta tc fv fs xa xc ns := fun W' hB => HE.out.1 W' (X1.below hB).kept
    have Bd : Below wr.heap.size wr wr.drew := ⟨rfl, rfl, rfl, Nat.le_refl _, fun _ _ => rfl⟩
    have X1d := X1.below Bd
    have CL := clausesOf_in S1 wr.drew pb vb kb _ _ fv lv1 Q X1d.is l.length fs (hE1 _ Bd).fms xa xc ns (hE1 _ Bd).nums HE.out.2.lt (by have := HE.out.2.few; omega) hSlv.2.1
    have c4 : wr.cell? ⟨pb, 4, none⟩ = some (.int .i64 (Q.count : Int)) := X1.is.cells.cell (i := 4) (by omega)
    rw [HN.out] at CL
    obtain ⟨cn, hcn⟩ : ∃ c, c = (clsN Q fs ns).length := ⟨_, rfl⟩
    have HCN : Hid _ := hcn
    rw [← hcn] at CL
    have HQ : Hid (_ ∧ _ ∧ _ ∧ _ ∧ _ ∧ _ ∧ _) := And.intro X1 (And.intro hVr (And.intro hHv (And.intro hsm (And.intro hSlv (And.intro hE1 hk2)))))
    have CL2 : Calls Tryz.prog 45 #[.pointer (some ⟨pb, 0, none⟩), .slice xa n xc] wr.drew fun e w' => ∃ ca cc, e = .returned (.slice ca cn cc) ∧ w'.cell? ⟨pb, 4, none⟩ = some (.int .i64 (Q.count : Int)) ∧ Hid (CssAt w' ca (clsN Q fs ns) ∧ Below wr.heap.size wr w') := by
      refine CL.mono ?_
      rintro e w2 ⟨ca, cc, rfl, h1, h2⟩
      have hB2 : Below wr.heap.size wr w2 := Bd.trans h2
      exact ⟨ca, cc, rfl, (hB2.cell (World.block_lt_of_cell? wr _ c4)).trans c4, h1, hB2⟩
    cases hsv : solveN Q.count (clsN Q fs ns) with
    | none => rw [hsv] at hMd; exact absurd hMd (by simp)
    | some r =>
    rw [hsv] at hMd
    have HSV : Hid _ := hsv
    have HMD : Hid _ := hMd
    clear hrel CL Bd X1 X1d hVr hHv hsm hSlv hMd hsv hcn hE1
    obtain ⟨qc, hqc⟩ : ∃ c, c = Q.count := ⟨_, rfl⟩
    have HQC : Hid _ := hqc
    rw [← hqc] at CL2 c4
    clear hqc
    have SV : Hid (∀ (w2 : World) (ca : Option Addr) (cc : Nat), CssAt w2 ca (clsN Q fs ns) → Calls Tryz.prog 44 #[.int .i64 (qc : Int), .slice ca cn cc] w2 (SolvePost w2 qc r)) := fun w2 ca cc hcs => by
      have h5 := HQ.out.2.2.2.2.1
      rw [HQC.out, HCN.out]
      exact HS.out w2 Q.count h5.1 ca _ cc hcs h5.2.1 h5.2.2 r HSV.out
    go_wp2_with fail
    go_cut [6, 7, 8] from 12 to 24 (fun t6 t7 _ wx => (r = none → t7 = .bool false) ∧ (∀ vs, r = some vs → t7 = .bool true ∧ Hid (BsAt wx t6 qc (valB vs))) ∧ Hid (Below wr.heap.size wr wx))
    case first =>
      cases r with
      | none =>
        go_region_law (first | (go_simp; go_at_call 44; refine (SV.out _ _ _ H2.out.1).mono ?_; rintro e w3 ⟨B3, h3, _⟩; obtain rfl := h3 rfl) | (go_simp; go_at_call 45; refine CL2.mono ?_; rintro e w2 ⟨ca, cc, rfl, c4b, H2⟩))
        all_goals
          try simp only [Act.put, List.getElem_toArray, List.getElem_cons_succ, List.getElem_cons_zero, List.setIfInBounds_toArray, List.set_cons_succ, List.set_cons_zero]
          go_wp2_with fail
          go_meet
          case rel => exact ⟨fun _ => rfl, fun vs e => (by cases e), H2.out.2.trans (B3.mono H2.out.2.size)⟩
      | some vs =>
        go_region_law (first | (go_simp; go_at_call 44; refine (SV.out _ _ _ H2.out.1).mono ?_; rintro e w3 ⟨B3, _, h3⟩; obtain ⟨g3, rfl, hg3, hrow3⟩ := h3 vs rfl) | (go_simp; go_at_call 45; refine CL2.mono ?_; rintro e w2 ⟨ca, cc, rfl, c4b, H2⟩))
        all_goals
          try simp only [Act.put, List.getElem_toArray, List.getElem_cons_succ, List.getElem_cons_zero, List.setIfInBounds_toArray, List.set_cons_succ, List.set_cons_zero]
          go_wp2_with fail
          go_meet
          case rel =>
            refine ⟨fun e => (by cases e), fun vs' e => ?_, H2.out.2.trans (B3.mono H2.out.2.size)⟩
            cases e
            refine ⟨rfl, g3, 0, _, rfl, fun k hk => ?_⟩
            have hvl : vs.length = qc := by rw [HQC.out]; exact solveN_len HSV.out
            have hkv : k < vs.length := by rw [hvl]; exact hk
            rw [Nat.zero_add]
            simp only [World.cell?, hrow3]
            simp [hkv, valB]
    case rest =>
      obtain ⟨hr0, hr1, HB1⟩ := hcut
      cases r with
      | none =>
        obtain rfl := hr0 rfl
        have HF : Hid (MdlPost S w pb vb kb (.pointer (some ⟨p, 0, none⟩)) (.slice ta l.length tc) fv lv l fs Post (.returned (.tuple #[.slice none 0 0, .bool false])) wc) := ⟨none, Q, S1, lv1, HMD.out, HQ.out.1.below HB1.out, HQ.out.2.1, HQ.out.2.2.1, fun _ => rfl, fun _ e => (by cases e)⟩
        clear CL2 SV c4 hr0 hr1
        apply_assumption
        go_wp2_with fail
        exact ⟨rfl, .tuple #[.slice none 0 0, .bool false], by simp [results, Tryz.results22], HF.out⟩
      | some vs =>
        obtain ⟨rfl, HBs⟩ := hr1 vs rfl
        clear CL2 SV c4 hr0 hr1
        have X2 := HQ.out.1.below HB1.out
        have E2 := HQ.out.2.2.2.2.2.1 wc HB1.out
        have hVr := HQ.out.2.1
        have hcnt : Q.count ≤ 2000 := HQ.out.2.2.2.2.1.1
        have hpr : ∀ n, n < fs.length → (Fm.get fs n).am.length ≤ 1000000 ∧ ∀ a ∈ (Fm.get fs n).am, PrOk a ∧ (a.1 < l.length ∧ a.2 < l.length) ∧ ∃ z, numV Q.vars a = some z ∧ 1 ≤ z ∧ z ≤ qc := fun m hm => by
          obtain ⟨a1, a2⟩ := HE.out.2.am m hm
          refine ⟨by omega, fun a ha => ?_⟩
          obtain ⟨b1, b2⟩ := a2 a ha
          refine ⟨⟨by omega, by omega⟩, ⟨by omega, b2⟩, ?_⟩
          cases hx : numV Q.vars a with
          | none => exact absurd hx (HQ.out.2.2.1 m hm a ha)
          | some z => exact ⟨z, rfl, by rw [HQC.out]; exact hVr.num hx⟩
        have TO := told_in S1 wc pb vb kb _ _ fv lv1 Q X2.is fs.length _ E2.fms.am u6 qc (valB vs) HBs.out xa xc ns E2.nums HE.out.2.lt (by have := HE.out.2.few; omega) (fun m hm => ⟨(hpr m hm).1, fun a ha => ⟨((hpr m hm).2 a ha).1, ((hpr m hm).2 a ha).2.2⟩⟩) (by rw [HQC.out]; omega)
        obtain ⟨t1, t2, t3⟩ := tolN_ok HE.out.2 HQ.out.2.2.1 hVr hcnt vs
        obtain ⟨told, htold⟩ : ∃ t, t = tolN fs Q ns vs := ⟨_, rfl⟩
        rw [show toldN (valB vs) Q.vars (fun n => (Fm.get fs n).am) [] ns = told from htold.symm, HN.out] at TO
        rw [← htold] at t1 t2 t3
        have HT : Hid (_ ∧ _ ∧ _ ∧ _) := And.intro htold (And.intro t1 (And.intro t2 t3))
        have HP : Hid (_ ∧ _ ∧ _) := And.intro hpr (And.intro X2 E2)
        clear htold t1 t2 t3 X2 E2 hpr
        apply_assumption
        go_wp2_with (first | (go_at_call 46; refine TO.mono ?_; rintro e w2 ⟨tv2, rfl, RT, BT⟩; refine Aside.out ?_))
        delta Aside
        obtain ⟨da, dc, hda⟩ := ownsRow_form RT
        subst hda
        have hB2 : Below wr.heap.size wr w2 := HB1.out.trans (BT.mono HB1.out.size)
        have E2 := HQ.out.2.2.2.2.2.1 w2 hB2
        have X2 := HQ.out.1.below hB2
        have c0 : w2.cell? ⟨pb, 0, none⟩ = some (.pointer (some ⟨p, 0, none⟩)) := X2.is.cells.cell (i := 0) (by omega)
        have CLO := closed_in w2 base p ev nb fb l E2.bank hb hl pb c0 da dc told (PsAt.of_row RT) (fun q hq => by have := HT.out.2.2.1 q hq; omega) (by have := HT.out.2.1; omega)
        have CLO2 : Calls Tryz.prog 47 #[.pointer (some ⟨pb, 0, none⟩), .slice da told.length dc] w2 fun e w' => ∃ b, e = .returned (.slice (some ⟨b, 0, none⟩) l.length l.length) ∧ Hid (∃ g : Nat → Nat, w2.heap.size ≤ b ∧ w'.rowIs b 3 l.length (fun i => .int .i64 (g i : Int)) ∧ (∀ i j, i < l.length → j < l.length → decide (g i = g j) = cgN l told i j) ∧ Below w2.heap.size w2 w') := by
          refine CLO.mono ?_
          rintro e w3 ⟨g, b, rfl, h1, h2, h3, h4⟩
          refine ⟨b, rfl, g, h1, h2, fun i j hi hj => ?_, h4⟩
          have hc := cgN_iff hBn HT.out.2.2.1 hi hj
          have hg := h3 i j hi hj
          cases hcc : cgN l told i j
          · refine decide_eq_false fun e => ?_
            rw [hc.2 (hg.1 e)] at hcc
            cases hcc
          · exact decide_eq_true (hg.2 (hc.1 hcc))
        have HRT : Hid (_ ∧ _ ∧ _) := And.intro RT (And.intro hB2 BT)
        clear CLO RT BT E2 X2 c0 TO
        obtain ⟨tn, htn⟩ : ∃ t, told.length = t := ⟨_, rfl⟩
        have HTN : Hid _ := htn
        obtain ⟨ln, hln⟩ : ∃ t, l.length = t := ⟨_, rfl⟩
        have HLN : Hid _ := hln
        rw [htn, hln] at CLO2
        rw [htn]
        clear htn hln
        apply_assumption
        go_wp2_with (first | (go_at_call 47; refine CLO2.mono ?_; rintro e w3 ⟨cb, rfl, H3⟩; refine Aside.out ?_))
        delta Aside
        obtain ⟨g, hcb, hg, hgq, hB3⟩ := H3.out
        rw [← HLN.out] at hg hgq
        have hB3w : Below wr.heap.size wr w3 := HRT.out.2.1.trans (hB3.mono HRT.out.2.1.size)
        have E3 := HQ.out.2.2.2.2.2.1 w3 hB3w
        have X3 := HQ.out.1.below hB3w
        have hBc3 : Below wc.heap.size wc w3 := HRT.out.2.2.trans (hB3.mono HRT.out.2.2.size)
        have WR := wrong_in S1 w3 pb vb kb _ _ fv lv1 Q X3.is l.length fs E3.fms u6 qc (valB vs) (HBs.out.below hBc3) cb g hg (cgN l told) hgq xa xc ns E3.nums HE.out.2.lt (by have := HE.out.2.few; omega) HP.out.1 (by rw [HQC.out]; omega) (by omega)
        obtain ⟨wr1, hwr1⟩ : ∃ t, t = wroN l fs Q ns vs := ⟨_, rfl⟩
        have ewr : wrongN (valB vs) Q.vars (cgN l told) (fun n => (Fm.get fs n).am) (fun n => (Fm.get fs n).ev (cgN l told)) [] ns = wr1 := by
          rw [hwr1, HT.out.1]
          rfl
        rw [ewr, HN.out, HLN.out] at WR
        have HWR : Hid (_ ∧ _) := And.intro hwr1 ewr
        have H3b : Hid (_ ∧ _ ∧ _ ∧ _ ∧ _) := And.intro hcb (And.intro hg (And.intro hgq (And.intro hB3 hB3w)))
        clear hcb hg hgq hB3 hB3w E3 X3 hBc3 H3 CLO2 hwr1 ewr
        apply_assumption
        go_wp2_with (first | (go_at_call 48; refine WR.mono ?_; rintro e w4 ⟨wv, rfl, R4, B4⟩; refine Aside.out ?_))
        delta Aside
        have hB4 : Below wr.heap.size wr w4 := H3b.out.2.2.2.2.trans (B4.mono H3b.out.2.2.2.2.size)
        obtain ⟨wa, wcap, hwa⟩ := ownsRow_form R4
        subst hwa
        by_cases hw0 : wr1 = []
        · have HF : Hid (MdlPost S w pb vb kb (.pointer (some ⟨p, 0, none⟩)) (.slice ta l.length tc) fv lv l fs Post (.returned (.tuple #[.slice (some ⟨cb, 0, none⟩) ln ln, .bool true])) w4) := by
            refine ⟨some told, Q, S1, lv1, ?_, HQ.out.1.below hB4, HQ.out.2.1, HQ.out.2.2.1, fun e => (by cases e), fun t e => ?_⟩
            · have := HMD.out.1 (by rw [← HWR.out.1]; exact hw0)
              rw [HT.out.1]
              exact this
            · cases e
              refine ⟨cb, g, by rw [HLN.out], ?_, ?_, H3b.out.2.2.1⟩
              · have h1 := H3b.out.1
                have h2 := HRT.out.2.1.size
                have h3 := HQ.out.1.kept.size
                omega
              · have h1 := H3b.out.2.1
                exact World.rowIs.of_block h1 (B4.block cb h1.lt)
          have hwl : wr1.length = 0 := by rw [hw0]; rfl
          rw [hwl]
          clear R4 B4 WR
          apply_assumption
          go_wp2_with fail
          exact ⟨rfl, .tuple #[.slice (some ⟨cb, 0, none⟩) ln ln, .bool true], by simp [results, Tryz.results22], HF.out⟩
        · obtain ⟨hl1, hlrn⟩ := HMD.out.2 (by rw [← HWR.out.1]; exact hw0)
          rw [← HWR.out.1] at hl1 hlrn
          obtain ⟨a, ha⟩ : ∃ a, wr1 = [a] := by
            match wr1, hw0, hl1 with
            | [], h, _ => exact absurd rfl h
            | [a], _, _ => exact ⟨a, rfl⟩
            | _ :: _ :: _, _, h => simp at h
          have hmem : a ∈ wr1 := by rw [ha]; simp
          rw [← HWR.out.2, wrongN_mem] at hmem
          obtain ⟨⟨m, hmn, _, hma⟩, hcga, _⟩ := hmem.resolve_left (by simp)
          have haok := (HE.out.2.am m (HE.out.2.lt m hmn)).2 a hma
          obtain ⟨V, hV⟩ : ∃ V, numV Q.vars a = some V := by
            cases hx : numV Q.vars a with
            | none => exact absurd hx (HQ.out.2.2.1 m (HE.out.2.lt m hmn) a hma)
            | some z => exact ⟨z, rfl⟩
          obtain ⟨⟨hl1, hk1⟩, hlrn⟩ := HMD.out.2 (by rw [← HWR.out.1]; exact hw0)
          rw [← HWR.out.1, ← HT.out.1] at hlrn
          have hk2' : k = 1 := by have := HQ.out.2.2.2.2.2.2; omega
          subst hk2'
          obtain ⟨sm1, sm2, sm3⟩ := HQ.out.2.2.2.1 rfl
          have hBt4 : Below w2.heap.size w2 w4 := H3b.out.2.2.2.1.trans (B4.mono H3b.out.2.2.2.1.size)
          have E4 := HQ.out.2.2.2.2.2.1 w4 hB4
          have X4 := HQ.out.1.below hB4
          rw [ha] at R4
          have LN := learn_in S1 w4 pb vb kb fv lv1 Q base p ev nb fb l ta tc X4.is E4.bank hb hl E4.terms da dc told ((PsAt.of_row HRT.out.1).below hBt4) HT.out.2.1 HT.out.2.2.1 HT.out.2.2.2 a haok V hV ((cgN_iff hBn HT.out.2.2.1 (by omega) haok.2).1 hcga) wa wcap (PsAt.of_row R4) sm1 hcnt sm2 sm3 HQ.out.2.1.s
          rw [HTN.out] at LN
          rw [ha] at hlrn ⊢
          have HLR : Hid (_ ∧ _) := And.intro hlrn X4
          clear hlrn X4 E4 R4 B4 WR hmem hma hcga haok hV hBt4 sm1 sm2 sm3 hB4
          apply_assumption
          go_wp2_with (first | (go_at_call 49; refine LN.mono ?_; rintro e w5 ⟨rfl, F, Q5, S5, lv5, hF, hR5, X5⟩))
          go_roundg 1
          case measure => omega
          case rel =>
            obtain ⟨k3, k4⟩ := hR5.keeps HQ.out.2.1
            exact ⟨by omega, Q5, S5, lv5, HLR.out.2.trans X5, HLR.out.1 F Q5 hF hR5, k3, fun m hm b hb => k4 b (HQ.out.2.2.1 m hm b hb), fun e => by omega⟩
end Go.Proofs.YtlehlgipbhfioaaGreat

namespace Go.Proofs.YtlehlgipbhfioaaGreat
theorem solveOk : SolveOk := fun w n hn ca css cc h hl hc r hr => Solve_in w n hn ca css cc h hl (fun c hcs => hc c hcs) r hr
end Go.Proofs.YtlehlgipbhfioaaGreat

namespace Go.Proofs.YtlehlgipbhfioaaGreat
open Go.RowKit Go.Maps

/-- Formulas of a bank with N terms. -/
inductive WfR (N : Nat) : Fo → Prop where
  | eq (x y : Int) (hx : 0 ≤ x ∧ x < N) (hy : 0 ≤ y ∧ y < N) : WfR N (.mk 0 x y [])
  | neg (f : Fo) : WfR N f → WfR N (.mk 1 0 0 [f])
  | two (o : Int) (f g : Fo) : (o = 2 ∨ o = 3 ∨ o = 4) → WfR N f → WfR N g → WfR N (.mk o 0 0 [f, g])
theorem WfR.whq {N : Nat} {op x y : Int} {ks : List Fo} (h : WfR N (.mk op x y ks)) : whQ op x y ks.length N = true := by
  cases h with
  | eq _ _ hx hy => simp [whQ]; omega
  | neg f h => simp [whQ]
  | two o f g ho h k => rcases ho with rfl | rfl | rfl <;> simp [whQ]
theorem WfR.kid {N : Nat} {op x y : Int} {ks : List Fo} (h : WfR N (.mk op x y ks)) : ∀ k ∈ ks, WfR N k := by
  cases h with
  | eq => simp
  | neg f h => simpa using h
  | two o f g ho h k => intro z hz; simp at hz; rcases hz with rfl | rfl <;> assumption
theorem WfR.wf {N : Nat} {f : Fo} (h : WfR N f) : WfF f := by
  induction h with
  | eq x y hx hy => exact .eq x y
  | neg f _ ih => exact .neg f ih
  | two o f g ho _ _ ih1 ih2 => exact .two o f g ho ih1 ih2
/-- How many Forms one has. -/
def cF : Fo → Nat
  | .mk _ _ _ kids => 1 + (kids.map cF).sum
/-- What a list of Forms costs. -/
def cS (ks : List Lf) : Nat := 1 + (ks.map fun k => cF k.er).sum
theorem cS_kids (t : Lf) : cS t.kids = cF t.er := by
  cases t with
  | mk b o op x y kv kids => simp [cS, Lf.kids, Lf.er, cF, List.map_map, Function.comp_def]
def cT (ts : List (List Lf)) : Nat := (ts.map cS).sum
theorem cT_snoc (ts : List (List Lf)) (ks : List Lf) : cT (ts ++ [ks]) = cT ts + cS ks := by simp [cT]
theorem len_cT (ts : List (List Lf)) : ts.length ≤ cT ts := by
  induction ts with
  | nil => simp
  | cons a r ih =>
    have e : cT (a :: r) = cS a + cT r := by simp [cT]
    have : 1 ≤ cS a := by unfold cS; omega
    rw [e, List.length_cons]
    omega
/-- A slice of Forms of a bank with N terms. -/
def SlF (w : World) (N : Nat) (v : Value) (ks : List Lf) : Prop := KidsIn v ks ∧ ∀ k ∈ ks, Here w k ∧ WfR N k.er
theorem SlF.kid {w : World} {N : Nat} {v : Value} {ks : List Lf} (h : SlF w N v ks) {k : Lf} (hk : k ∈ ks) : SlF w N k.kv k.kids := by
  obtain ⟨h1, h2⟩ := h.2 k hk
  refine ⟨h1.kidsIn, fun z hz => ⟨h1.kid hz, ?_⟩⟩
  cases k with
  | mk b o op x y kv kids =>
    rw [Lf.er] at h2
    exact h2.kid _ (List.mem_map.2 ⟨z, hz, rfl⟩)
theorem SlF.pt {w : World} {N : Nat} {v : Value} {ks : List Lf} (h : SlF w N v ks) {k : Lf} (hk : k ∈ ks) : PtOk w (.pointer (some ⟨k.b, k.o, none⟩)) := by
  obtain ⟨c, fz, h1, _, _, _, _, rfl⟩ := (h.2 k hk).1.cells
  exact ⟨k.b, k.o, c, 36, rfl, h1⟩
/-- What areFormulas goes round with. -/
structure Tdo (w W : World) (N mb : Nat) (v : Value) (vs : List Value) (ts : List (List Lf)) : Prop where
  row : W.ownsRow w.heap.size 30 1 v vs.length vs
  len : vs.length = ts.length
  at_ : ∀ (i : Nat) (u : Value), vs[i]? = some u → ∃ ks, ts[i]? = some ks ∧ SlF w N u ks
  set : PtSet w W mb
  bel : Below w.heap.size w W

theorem Tdo.below {w W W' : World} {N mb : Nat} {v : Value} {vs : List Value} {ts : List (List Lf)} (h : Tdo w W N mb v vs ts) (hB : Below W.heap.size W W') : Tdo w W' N mb v vs ts := by
  refine ⟨ownsRow_below h.row hB, h.len, h.at_, h.set.keep (hB.block mb ?_), h.bel.trans (hB.mono h.bel.size)⟩
  obtain ⟨es, ck, e, _⟩ := h.set
  exact (Array.getElem?_eq_some_iff.1 e).1
theorem infoFs : (Tryz.prog.info? 30).map (fun i => (i.zero, i.size, i.bytes)) = some (some (.slice none 0 0), 1, 24) := by kernel_rfl
theorem sum_cF (ks : List Lf) : ks.length ≤ (ks.map fun k => cF k.er).sum := by
  induction ks with
  | nil => simp
  | cons a r ih =>
    have : 1 ≤ cF a.er := by
      cases a with
      | mk b o op x y kv kids => rw [Lf.er, cF]; omega
    simp only [List.map_cons, List.sum_cons, List.length_cons]
    omega

set_option maxRecDepth 100000 in
set_option maxHeartbeats 1000000 in
theorem areFormulas_in (w : World) (base p : Nat) (ev : Value) (nb fb : Nat) (l : List Tm) (h : Bk w base p ev nb fb l) (ka : Option Addr) (kn kc : Nat) (ks : List Lf) (hk : SlF w l.length (.slice ka kn kc) ks) (hc : cS ks ≤ 1000000) :
    Calls Tryz.prog 41 #[.pointer (some ⟨p, 0, none⟩), .slice ka kn kc] w fun e w' => e = .returned (.bool true) ∧ Below w.heap.size w w' := by
  have hmm := @run_makeMap Tryz.prog
  have HI0 : Hid (∃ vs ts, vs.length = 1 ∧ cT ts ≤ cS ks ∧ Tdo w ((w.alloc (.map #[] 0)).alloc (.cells #[.slice ka kn kc] 30)) l.length w.heap.size (.slice (some ⟨w.heap.size + 1, 0, none⟩) 1 1) vs ts) := by
    have B1 : Below w.heap.size w (w.alloc (.map #[] 0)) := (Below.refl _ _).alloc (Nat.le_refl _) _
    have B2 : Below w.heap.size w ((w.alloc (.map #[] 0)).alloc (.cells #[.slice ka kn kc] 30)) := B1.alloc B1.size _
    refine ⟨[.slice ka kn kc], [ks], rfl, by simp [cT], ⟨rfl, Or.inr ⟨w.heap.size + 1, 1, #[.slice ka kn kc], rfl, Nat.le_succ _, ?_, Nat.le_refl _, by unfold maxLen; omega, rfl, rfl⟩⟩, rfl, fun i u hu => ?_, (PtSet.new w w).keep (heap_alloc_old _ _ (by simp)), B2⟩
    · have := heap_alloc_new (w.alloc (.map #[] 0)) (.cells #[.slice ka kn kc] 30)
      simpa using this
    · match i, hu with
      | 0, hu => simp at hu; subst hu; exact ⟨ks, rfl, hk⟩
      | i + 1, hu => simp at hu
  have HBk : Hid (Bk w base p ev nb fb l) := h
  have HC : Hid (cS ks ≤ 1000000) := hc
  clear h hk hc
  go_enter Tryz.func41, Tryz.ntmps41
  go_wp2_with fail
  generalize (w.alloc (.map #[] 0)).alloc (.cells #[.slice ka kn kc] 30) = w1 at *
  obtain ⟨mb, hmb⟩ : ∃ m, w.heap.size = m := ⟨_, rfl⟩
  have HMB : Hid _ := hmb
  simp only [hmb] at HI0 ⊢
  clear hmb hmm
  go_loopg [6] (cS ks) (fun k t6 W => ∃ n cap a, t6 = .slice a n cap ∧ Hid (∃ vs ts, vs.length = n ∧ cT ts ≤ k ∧ k ≤ cS ks ∧ Tdo w W l.length mb t6 vs ts))
  case atStart => exact ⟨1, 1, _, rfl, by obtain ⟨vs, ts, h0, h1, h2⟩ := HI0.out; exact ⟨vs, ts, h0, h1, Nat.le_refl _, h2⟩⟩
  case round =>
    obtain ⟨n, cap, a, rfl, HJ⟩ := hrel
    clear HI0
    by_cases hn0 : n = 0
    · subst hn0
      have HF : Hid (Below w.heap.size w wr) := by obtain ⟨vs, ts, _, _, _, h⟩ := HJ.out; exact h.bel
      clear HJ
      go_wp2_with fail
      go_ret
      exact ⟨rfl, HF.out⟩
    · obtain ⟨m, rfl⟩ : ∃ m, n = m + 1 := ⟨n - 1, by omega⟩
      obtain ⟨vs, ts, hvl, hct, hkc, hT⟩ := HJ.out
      have hml : m < vs.length := by omega
      obtain ⟨fks, ht1, hS⟩ := hT.at_ m _ (List.getElem?_eq_getElem hml)
      obtain ⟨rb, rfl⟩ : ∃ rb, a = some ⟨rb, 0, none⟩ := by
        rcases hT.row.2 with ⟨e, h0⟩ | ⟨rb, cap', cur, e, _⟩
        · rw [hvl] at h0; cases h0
        · rw [hvl] at e; cases e; exact ⟨rb, rfl⟩
      have cm : wr.cell? ⟨rb, m, none⟩ = some vs[m] := by
        have := hT.row
        rw [hvl] at this
        rw [this.cellAt m (by omega)]
        exact List.getElem?_eq_getElem hml
      obtain ⟨fa, fc, hfv, hfc, hfk⟩ := hS.1
      have hS2 := hS
      rw [hfv] at cm hS2
      have hm6 : m ≤ 1000000 := by
        have h1 := len_cT ts
        have h2 := hT.len
        have h3 := HC.out
        omega
      have hwm : wrap64 (m : Int) = (m : Int) := wrap_nat (by omega)
      have hf6 : fks.length ≤ 1000000 := by
        have h1 := sum_cF fks
        have h2 : cS fks ≤ cT ts := by
          have : ∀ ts : List (List Lf), fks ∈ ts → cS fks ≤ cT ts := by
            intro ts
            induction ts with
            | nil => intro h; cases h
            | cons a r ih =>
              intro h
              have e : cT (a :: r) = cS a + cT r := by simp [cT]
              rcases List.mem_cons.1 h with rfl | h
              · omega
              · have := ih h; omega
          exact this ts (List.mem_of_getElem? ht1)
        have h3 := HC.out
        unfold cS at h2
        omega
      have hwm2 : IntKind.i64.wrap (m : Int) = (m : Int) := wrap_nat0 (by omega)
      have hmc : m + 1 ≤ cap := by
        rcases hT.row.2 with ⟨e, h0⟩ | ⟨rb', cap', cur, e, _, _, e3, _⟩
        · rw [hvl] at h0; cases h0
        · rw [hvl] at e e3; cases e; omega
      obtain ⟨fn, hfn⟩ : ∃ f, fks.length = f := ⟨_, rfl⟩
      rw [hfn] at cm hf6
      have HT : Hid (_ ∧ _ ∧ _ ∧ _ ∧ _ ∧ _) := And.intro hT (And.intro hS2 (And.intro hfn (And.intro hct (And.intro hvl ht1))))
      clear HJ hT hS hS2 hfk hfv hfn hct ht1
      go_wp2_with fail
      have HI1 : Hid (∃ vs ts, vs.length = m ∧ cT ts + ((fks.drop 0).map fun k => cF k.er).sum + 1 ≤ gk ∧ Tdo w wr l.length mb (.slice (some ⟨rb, 0, none⟩) m cap) vs ts) := by
        obtain ⟨hT, hS2, hfn, hct, hvl, ht1⟩ := HT.out
        have hr := hT.row
        rw [hvl] at hr
        refine ⟨vs.take m, ts.take m, by simp; omega, ?_, ?_, by have := hT.len; simp; omega, fun i u hu => ?_, hT.set, hT.bel⟩
        · have e : ts = ts.take m ++ [fks] := by
            have hl := hT.len
            refine List.ext_getElem? fun i => ?_
            by_cases hi : i < m
            · rw [List.getElem?_append_left (by simp; omega), List.getElem?_take_of_lt hi]
            · by_cases hi2 : i = m
              · subst hi2
                rw [ht1, List.getElem?_append_right (by rw [List.length_take]; omega), List.length_take, Nat.min_eq_left (by omega), Nat.sub_self]
                rfl
              · rw [List.getElem?_eq_none (by omega), List.getElem?_eq_none (by simp; omega)]
          have e2 : cT ts = cT (ts.take m) + cS fks := by conv => lhs; rw [e, cT_snoc]
          rw [List.drop_zero]
          unfold cS at e2
          omega
        · have := ownsRow_take hr (Nat.le_succ m)
          have e3 : (vs.take m).length = m := by simp; omega
          rw [e3]
          exact this
        · have him : i < m := by
            have := (List.getElem?_eq_some_iff.1 hu).1
            simp at this
            omega
          rw [List.getElem?_take_of_lt him] at hu
          obtain ⟨ks', q1, q2⟩ := hT.at_ i u hu
          exact ⟨ks', by rw [List.getElem?_take_of_lt him]; exact q1, q2⟩
      have HS : Hid (SlF w l.length (.slice fa fks.length fc) fks ∧ fks.length = fn) := ⟨HT.out.2.1, HT.out.2.2.1⟩
      clear HT cm
      go_loopw [6, 31] (fun t6 t31 W => ∃ (i n cap : Nat) (a : Option Addr), i ≤ fn ∧ t31 = .int .i64 (i : Int) ∧ t6 = .slice a n cap ∧ Hid (∃ vs ts, vs.length = n ∧ cT ts + ((fks.drop i).map fun k => cF k.er).sum + 1 ≤ gk ∧ Tdo w W l.length mb (.slice a n cap) vs ts)) (fun _ t31 _ => fn - (intOf t31).toNat)
      case atStart => exact ⟨0, m, cap, _, Nat.zero_le _, rfl, rfl, HI1⟩
      case round =>
        obtain ⟨i, n, cap2, a2, hi, rfl, rfl, HK⟩ := hrel
        clear HI1
        by_cases hlt : i < fn
        · have di : decide ((i : Int) < (fn : Int)) = true := decide_eq_true (by omega)
          have hil : i < fks.length := by rw [HS.out.2]; exact hlt
          obtain ⟨kb, ko, rfl, hko⟩ : ∃ kb ko, fa = some ⟨kb, ko, none⟩ ∧ ∀ (j : Nat) (t : Lf), fks[j]? = some t → t.b = kb ∧ t.o = ko + j * 4 := by
            obtain ⟨a', c', e, _, h2⟩ := HS.out.1.1
            cases e
            rcases h2 with h2 | ⟨kb, ko, h2, h3⟩
            · rw [h2] at hil; cases hil
            · exact ⟨kb, ko, h2, h3⟩
          have hkm := List.getElem_mem hil
          obtain ⟨hb1, ho1⟩ := hko i _ (List.getElem?_eq_getElem hil)
          have hpt := HS.out.1.pt hkm
          obtain ⟨hh1, hh2⟩ := HS.out.1.2 _ hkm
          rw [hb1, ho1] at hpt
          obtain ⟨vs2, ts2, hv2, hc2, hT2⟩ := HK.out
          obtain ⟨r, LK⟩ := hT2.set.look hT2.bel hpt
          have HT2 : Hid (vs2.length = n ∧ cT ts2 + ((fks.drop i).map fun k => cF k.er).sum + 1 ≤ gk ∧ Tdo w wr l.length mb (.slice a2 n cap2) vs2 ts2) := ⟨hv2, hc2, hT2⟩
          have HH : Hid _ := And.intro hpt (And.intro hkm (And.intro hb1 (And.intro ho1 (And.intro hh1 hh2))))
          clear HK hv2 hc2 hT2 hpt hkm hb1 ho1 hh1 hh2 hko
          have hwi : IntKind.i64.wrap ((i : Int) + 1) = (i : Int) + 1 := wrap_nat1 (by omega)
          have hBa : Below wr.heap.size wr (wr.alloc (.cells #[] 162)) := (Below.refl _ _).alloc (Nat.le_refl _) _
          have HB1 : Hid (Below w.heap.size w (wr.alloc (.cells #[] 162))) := HT2.out.2.2.bel.trans (hBa.mono HT2.out.2.2.bel.size)
          have HT3 : Hid (Tdo w (wr.alloc (.cells #[] 162)) l.length mb (.slice a2 n cap2) vs2 ts2) := HT2.out.2.2.below hBa
          have hdr : ((fks.drop i).map fun k => cF k.er).sum = cF fks[i].er + ((fks.drop (i + 1)).map fun k => cF k.er).sum := by rw [List.drop_eq_getElem_cons hil, List.map_cons, List.sum_cons]
          have HD : Hid _ := hdr
          clear hBa hdr
          cases r
          · obtain ⟨hpt, hkm, hb1, ho1, hh1, hh2⟩ := HH.out
            generalize fks[i] = k at *
            have SZ := size_in (wr.alloc (.cells #[] 162)) base p ev nb fb l (HBk.out.below HBk.out.low HB1.out)
            have hget : ∀ {a : Addr} {u : Value}, w.cell? a = some u → (wr.alloc (.cells #[] 162)).cell? a = some u := fun hc => (HB1.out.cell (World.block_lt_of_cell? w _ hc)).trans hc
            have f0 := hh1.cells.c0
            have f1 := hh1.cells.c1
            have f2 := hh1.cells.c2
            have f3 := hh1.cells.c3
            obtain ⟨ga, gc, hkv, hgc, _⟩ := hh1.kidsIn
            have hSk := HS.out.1.kid hkm
            rw [hkv] at f3 hSk
            rw [hb1, ho1] at f0 f1 f2 f3
            have WH := dWhole_in (wr.alloc (.cells #[] 162)) kb (ko + i * 4) k.op k.x k.y ga k.kids.length gc l.length (hget f0) (hget f1) (hget f2) (hget f3)
            have hwq : whQ k.op k.x k.y k.kids.length l.length = true := by
              cases k with
              | mk b o op x y kv kids =>
                rw [Lf.er] at hh2
                have := hh2.whq
                rw [List.length_map] at this
                exact this
            rw [hwq] at WH
            have hck : cS k.kids = cF k.er := cS_kids k
            have HQ : Hid _ := And.intro f3 (And.intro hpt (And.intro hSk hck))
            obtain ⟨kn2, hkn2⟩ : ∃ q, k.kids.length = q := ⟨_, rfl⟩
            clear hpt hkm hb1 ho1 hh1 hh2 f0 f1 f2 f3 hget hkv hSk hck hwq hgc HH
            go_wp2_with (first | (go_at_call 76; refine WH.mono ?_; rintro e w4 ⟨rfl, B4⟩; refine Aside.out ?_) | (go_at_call 35; refine SZ.mono ?_; rintro e w9 ⟨rfl, rfl⟩))
            delta Aside
            have HB4 : Hid (Below w.heap.size w w4) := HB1.out.trans (B4.mono HB1.out.size)
            have HT4 : Hid _ := HT3.out.below B4
            obtain ⟨w5, r1, r2, r3⟩ := HT4.out.set.store HT4.out.bel HQ.out.2.1
            have hmlt : w.heap.size ≤ mb := by rw [HMB.out]; exact Nat.le_refl _
            obtain ⟨es5, ck5, he5, _⟩ := HT4.out.set
            have HT5 : Hid (Tdo w w5 l.length mb (.slice a2 n cap2) vs2 ts2) := by
              refine ⟨ownsRow_block HT4.out.row (fun b hb => r3.block b (ownsRow_lt HT4.out.row hb).2 (fun e => ?_)), HT4.out.len, HT4.out.at_, r2, ?_⟩
              · subst e
                rcases HT4.out.row.2 with ⟨e, _⟩ | ⟨g', cap', cur, e, _, e2, _⟩
                · rw [e] at hb; simp [Value.ownBlock] at hb
                · rw [e] at hb
                  simp [Value.ownBlock] at hb
                  subst hb
                  rw [he5] at e2
                  cases e2
              · have b4 := HB4.out
                exact ⟨r3.os.trans b4.os, r3.tape.trans b4.tape, r3.output.trans b4.output, Nat.le_trans b4.size r3.size, fun j hj => (r3.block j (Nat.lt_of_lt_of_le hj b4.size) (by omega)).trans (b4.block j hj)⟩
            have f3 : w5.cell? ⟨kb, ko + i * 4 + 3, none⟩ = some (.slice ga k.kids.length gc) := (HT5.out.bel.cell (World.block_lt_of_cell? w _ HQ.out.1)).trans HQ.out.1
            obtain ⟨i0, hi0, hz0, hz1, hz2⟩ := info_parts infoFs
            have hn6 : n ≤ 1000000 := by
              have h1 := len_cT ts2
              have h2 := HT5.out.len
              have h3 := HC.out
              have h4 := HT2.out.1
              have h5 := HT2.out.2.1
              omega
            have hrow := HT5.out.row
            rw [HT2.out.1] at hrow
            rw [hkn2] at f3
            have hrow2 := hrow.alloc (.cells #[.slice ga kn2 gc] 30)
            have hwsz := HT5.out.bel.size
            clear r2 r3 he5 HT4 HB4 B4 hrow
            apply_assumption
            go_wp2_with (first | (at_builtin; refine Aside.out ?_))
            delta Aside
            refine wpList_append_own_at _ rfl _ _ 130 rfl w.heap.size 30 i0 _ 1 24 Tryz.underlying130 hi0 hz0 hz1 hz2 rfl (by decide) _ _ _ rfl hrow2 ⟨_, 0, none⟩ 1 1 [.slice ga kn2 gc] rfl rfl (cell_oneV w5 _ _) (by simp [Value.oneCell']) (by unfold maxLen; omega) (by omega) (by simp; omega) ?_
            intro v8 w8 hown8 hgrow8 _ hat8
            obtain ⟨g8, cap8, hv8⟩ := ownsRow_succ hown8
            subst hv8
            have K8 : Kept (fun k => (Value.slice a2 n cap2).ownBlock = some k) w5 w8 := Kept.grown ((Kept.refl _ w5).alloc _) hgrow8 (fun k e => e)
            have HF : Hid (∃ vs ts, vs.length = n + 1 ∧ cT ts + ((fks.drop (i + 1)).map fun k => cF k.er).sum + 1 ≤ gk ∧ Tdo w w8 l.length mb (.slice (some ⟨g8, 0, none⟩) (n + 1) cap8) vs ts) := by
              have hv := HT2.out.1
              have T5 := HT5.out
              refine ⟨vs2 ++ [.slice ga kn2 gc], ts2 ++ [k.kids], by simp [hv], ?_, ?_, by simp [T5.len], fun q u hu => ?_, T5.set.keep (K8.block mb ?_ ?_), T5.bel.trans (K8.below hwsz (fun q hq => (ownsRow_lt T5.row hq).1))⟩
              · rw [cT_snoc, HQ.out.2.2.2]
                have h1 := HT2.out.2.1
                have h2 := HD.out
                omega
              · rw [List.length_append, List.length_singleton, hv]
                exact hown8
              · by_cases hq : q < vs2.length
                · rw [List.getElem?_append_left hq] at hu
                  obtain ⟨z, z1, z2⟩ := T5.at_ q u hu
                  exact ⟨z, by rw [List.getElem?_append_left (by rw [← T5.len]; exact hq)]; exact z1, z2⟩
                · rw [List.getElem?_append_right (by omega)] at hu
                  have hq0 : q - vs2.length = 0 := by
                    have := (List.getElem?_eq_some_iff.1 hu).1
                    simp at this
                    omega
                  rw [hq0] at hu
                  simp at hu
                  subst hu
                  refine ⟨k.kids, by rw [List.getElem?_append_right (by rw [← T5.len]; omega), ← T5.len, hq0]; rfl, ?_⟩
                  have := HQ.out.2.2.1
                  rw [hkn2] at this
                  exact this
              · obtain ⟨es, ck, e, _⟩ := T5.set
                exact (Array.getElem?_eq_some_iff.1 e).1
              · intro e
                obtain ⟨es, ck, e', _⟩ := T5.set
                rcases T5.row.2 with ⟨e1, _⟩ | ⟨g', cap', cur, e1, _, e2, _⟩
                · rw [e1] at e; simp [Value.ownBlock] at e
                · rw [e1] at e
                  simp [Value.ownBlock] at e
                  subst e
                  rw [e'] at e2
                  cases e2
            clear hown8 hgrow8 hat8 K8 HT5 hrow2 f3
            go_wp2_with fail
            exact ⟨⟨i + 1, n + 1, cap8, some ⟨g8, 0, none⟩, hlt, by simp, rfl, HF⟩, by simp [intOf]; omega⟩
          · go_wp2_with fail
            refine ⟨⟨i + 1, n, cap2, a2, hlt, by simp, rfl, vs2, ts2, HT2.out.1, ?_, HT3.out⟩, by simp [intOf]; omega⟩
            have h1 := HT2.out.2.1
            have h2 := HD.out
            omega
        · have di : decide ((i : Int) < (fn : Int)) = false := decide_eq_false (by omega)
          obtain ⟨vs2, ts2, hv2, hc2, hT2⟩ := HK.out
          have hlg : cT ts2 + 1 ≤ gk := by omega
          have HF : Hid (∃ n' cap' a', Value.slice a2 n cap2 = .slice a' n' cap' ∧ Hid (∃ vs ts, vs.length = n' ∧ cT ts ≤ cT ts2 ∧ cT ts2 ≤ cS ks ∧ Tdo w wr l.length mb (.slice a2 n cap2) vs ts)) := ⟨n, cap2, a2, rfl, vs2, ts2, hv2, Nat.le_refl _, by omega, hT2⟩
          clear HK hc2 hT2
          go_wp2_with fail
          go_roundg (cT ts2)
          case measure => omega
          case rel => exact HF.out
end Go.Proofs.YtlehlgipbhfioaaGreat
