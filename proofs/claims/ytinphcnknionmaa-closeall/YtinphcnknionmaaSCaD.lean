/- law03: CloseAll's walk. -/
import Derived.Test.YtinphcnknionmaaG60
import Derived.Deep.CutBlock
import Derived.Deep.DeepCutAuto
namespace Go.Proofs.Ytinphcnknionmaa
open Go.RowKit Go.Maps

theorem Ca.start {w w1 w2 w3 : World} {p nb fb : Nat} {ev : Value} {l : List Tm} {q : Nat} {av : Value} {vs : List Value} (D : Duo w w1 p ev nb fb l q av vs) {c o : Ks} (C0 : Cl w2 w1.heap.size l c []) (K2 : Kept0 w1 w2) (D0 : Cl w3 w2.heap.size l o []) (K3 : Kept0 w2 w3) : Ca w w1.heap.size w3 p nb fb av l vs ev l c o [] [] [] (.slice none 0 0) := by
  have K := K2.trans K3
  refine ⟨D.b.kept0 K, D.kl.len, D.r.ls.keep K (fun _ _ e => e), fun k hk => D.r.ls.doc_lt hk, (C0.kept0 K3).fresh, D0.base K2.size, fun k hk hk2 => ?_, World.ownsRow_nil _ _ _ _, fun k hk => by simp [Value.ownBlock] at hk, fun k hk => by simp [Value.ownBlock] at hk, fun k hk hA => ?_, fun k hk hA => ?_, fun k _ e => by simp [Value.ownBlock] at e, fun k hk hD => ?_, D.bel.size, (below_kept0 D.bel).trans K⟩
  · have h1 := C0.all_lt hk; have h2 := D0.all_ge hk2; omega
  · have h1 := D.b.foot_lt hk; have h2 := C0.all_ge hA; omega
  · have h1 := D.b.foot_lt hk; have h2 := D0.all_ge hA; have h3 := K2.size; omega
  · obtain ⟨cc, T, fz, h1, h2⟩ := D.r.ls.types hD
    refine D.b.apart h1 ?_ ?_ hk
    · rcases h2 with e | e <;> rw [e] <;> decide
    · rcases h2 with e | e <;> rw [e] <;> decide

/-- A box of three stays where it lay. -/
theorem box3 {W W' : World} {S : Nat → Prop} (K : Kept S W W') {b : Nat} (hb : ¬ S b) {u0 u1 u2 : Value} (h : W.cell? ⟨b, 0, none⟩ = some u0 ∧ W.cell? ⟨b, 1, none⟩ = some u1 ∧ W.cell? ⟨b, 2, none⟩ = some u2) : W'.cell? ⟨b, 0, none⟩ = some u0 ∧ W'.cell? ⟨b, 1, none⟩ = some u1 ∧ W'.cell? ⟨b, 2, none⟩ = some u2 := by
  have e : ∀ o, W'.cell? ⟨b, o, none⟩ = W.cell? ⟨b, o, none⟩ := fun o => World.cell?_of_block (K.block b (World.block_lt_of_cell? W _ h.1) hb)
  rw [e, e, e]
  exact h

set_option maxHeartbeats 8000000 in
set_option maxRecDepth 100000 in
theorem closeAll_in (w : World) (a1 a2 : Option Addr) (cp1 cp2 : Nat) (ss : List ByteArray) (ops : List (Int × Int × Int)) (hT : Texts w a1 ss) (hm : ss.length ≤ maxLen) (hS : Scr w a2 ops) (hr : ops.length * 24 ≤ 140737488351232) (x y : Int) :
    Calls Try.prog 8 #[.slice a1 ss.length cp1, .slice a2 ops.length cp2, .int .i64 x, .int .i64 y] w fun e w' => e = .returned (.bool true) ∧ Below w.heap.size w w' := by
  have LD := load_in w a1 cp1 ss hT hm
  have hob : ops.length ≤ 5864062014805 := by omega
  clear hr
  go_enter Try.func8, Try.ntmps8
  go_wp2_with (first | (go_at_call 37; refine LD.mono ?_; rintro e w1 ⟨p, ev, nb, fb, l, q, av, vs, rfl, D⟩; have N1 := kNew_in w1 w.heap.size p ev nb fb l D.b D.bd D.kl.len; obtain ⟨aa, ac, hav⟩ := D.r.ls.form; subst hav) | (go_at_call 38; refine N2.mono ?_; rintro e w3 ⟨o, rfl, D0, K3⟩) | (go_at_call 38; refine N1.mono ?_; rintro e w2 ⟨c, rfl, C0, K2⟩; have N2 := kNew_in w2 w.heap.size p ev nb fb l (D.b.kept0 K2) D.bd D.kl.len; clear N1))
  have CA0 := Ca.start D C0 K2 D0 K3
  have hlen : l.length ≤ 150 := D.kl.len
  have hbd : Hid (Cc.Bd l) := D.bd
  have HS : Hid (∀ W, Kept0 w W → ∀ (k : Nat) (x : Int × Int × Int), ops[k]? = some x → ∃ b off, a2 = some ⟨b, off, none⟩ ∧ W.cell? ⟨b, off + k * 3, none⟩ = some (.int .i64 x.1) ∧ W.cell? ⟨b, off + k * 3 + 1, none⟩ = some (.int .i64 x.2.1) ∧ W.cell? ⟨b, off + k * 3 + 2, none⟩ = some (.int .i64 x.2.2)) := fun W K k x hx => by
    obtain ⟨b, off, rfl, hb, x0, x1, x2⟩ := hS k x hx
    have e : ∀ o, W.cell? ⟨b, o, none⟩ = w.cell? ⟨b, o, none⟩ := fun o => World.cell?_of_block (K.block b hb (fun e => e))
    exact ⟨b, off, rfl, by rw [e]; exact x0, by rw [e]; exact x1, by rw [e]; exact x2⟩
  clear LD N2 C0 D0 K2 K3 D hT hm hS
  generalize w1.heap.size = B at *
  obtain ⟨i0, hi0, hz0, hz1, hz2⟩ := info_parts (show (Try.prog.info? 70).map (fun i => (i.zero, i.size, i.bytes)) = some (some (.agg #[.int .i64 0, .int .i64 0]), 2, 16) by kernel_rfl)
  go_loopw [13, 14] (fun t13 t14 W => ∃ (k : Nat) (P Q : List (Nat × Nat)) (c' o' : Ks) (ev : Value) (lb : List Tm), k ≤ ops.length ∧ t14 = .int .i64 (k : Int) ∧ c'.pc = c.pc ∧ o'.pc = o.pc ∧ Ca w B W p nb fb (.slice aa l.length ac) l vs ev lb c' o' P Q P t13 ∧ Hid (P.length ≤ k ∧ Q.length ≤ k)) (fun _ t14 _ => ops.length - (intOf t14).toNat)
  case atStart => exact ⟨0, [], [], c, o, ev, l, Nat.zero_le _, rfl, rfl, rfl, CA0, Nat.le_refl _, Nat.le_refl _⟩
  case round =>
    clear CA0
    obtain ⟨k, P, Q, c', o', ev, lb, hk, rfl, hpc, hpo, CA, hPQ⟩ := hrel
    obtain ⟨ta, tc, htv⟩ := CA.forms
    subst htv
    by_cases hk2 : k < ops.length
    · have dk : decide ((k : Int) < (ops.length : Int)) = true := decide_eq_true (by omega)
      have hx : ops[k]? = some ops[k] := List.getElem?_eq_getElem hk2
      generalize hok : ops[k] = z at hx
      clear hok
      obtain ⟨xk, xa, xb⟩ := z
      obtain ⟨b, off, rfl, y0, y1, y2⟩ := HS.out wr CA.bel k _ hx
      have KA : Kept0 wr (wr.alloc (.cells #[.int .i64 xk, .int .i64 xa, .int .i64 xb] 66)) := (Kept.refl _ wr).alloc _
      have RA := made_row wr #[.int .i64 xk, .int .i64 xa, .int .i64 xb] 66
      have CA2 := CA.kept0 KA
      have hcl : ∀ k, c'.All k → k < wr.heap.size := fun k hk => CA.cq.cl.all_lt hk
      have hol : ∀ k, o'.All k → k < wr.heap.size := fun k hk => CA.ol.all_lt hk
      have OM : Calls Try.prog 39 #[.pointer (some ⟨o.pc, 0, none⟩), .int .i64 xb, .int .i64 0] (wr.alloc (.cells #[.int .i64 xk, .int .i64 xa, .int .i64 xb] 66)) fun e W' => (∃ x, e = .returned (.int .i64 x)) ∧ ∃ (o4 : Ks) (Q4 : List (Nat × Nat)), o4.pc = o.pc ∧ Q4.length ≤ k + 1 ∧ Ca w B W' p nb fb (.slice aa l.length ac) l vs ev lb c' o4 P Q4 P (.slice ta P.length tc) ∧
          (W'.cell? ⟨wr.heap.size, 0, none⟩ = some (.int .i64 xk) ∧ W'.cell? ⟨wr.heap.size, 1, none⟩ = some (.int .i64 xa) ∧ W'.cell? ⟨wr.heap.size, 2, none⟩ = some (.int .i64 xb)) := by
        rw [← hpo]
        refine (CA2.other xb 0 (by have := hPQ.out.2; omega)).mono ?_
        rintro e W' ⟨he, o4, Q4, h1, h2, h3, K⟩
        refine ⟨he, o4, Q4, h1, by have := hPQ.out.2; omega, h3, box3 K (fun e => Nat.lt_irrefl _ (hol _ e)) ⟨RA.cell (i := 0) (by simp), RA.cell (i := 1) (by simp), RA.cell (i := 2) (by simp)⟩⟩
      have r0 : (wr.alloc (.cells #[.int .i64 xk, .int .i64 xa, .int .i64 xb] 66)).cell? ⟨wr.heap.size, 2, none⟩ = some (.int .i64 xb) := RA.cell (i := 2) (by simp)
      clear CA CA2 KA RA hx hol
      go_upto_block 2 with (go_at_call 39; refine OM.mono ?_; rintro e w4 ⟨⟨x4, rfl⟩, o4, Q4, ho4, hq4, CA4, z0, z1, z2⟩)
      clear OM r0 y0 y1 y2
      generalize hxb : wr.heap.size = bx at *
      go_cut [13] (fun v13 wx => ∃ (P' : List (Nat × Nat)) (c5 : Ks) (ev5 : Value) (lb5 : List Tm), c5.pc = c.pc ∧ Ca w B wx p nb fb (.slice aa l.length ac) l vs ev5 lb5 c5 o4 P' Q4 P' v13 ∧ Hid (P'.length ≤ k + 1))
      case first =>
        have WIN : Hid (∀ (W : World) (a : Int) (B : Bool), inB l.length a = B → Calls Try.prog 40 #[.int .i64 a, .slice aa l.length ac] W fun e w' => e = .returned (.bool B) ∧ W = w') := fun W a B hB => by
          rw [← hB]
          exact within_in W a aa l.length ac
        have hpk := hPQ.out.1
        by_cases h0 : xk = 0
        · have d0 : (xk == 0) = true := by rw [h0]; rfl
          clear h0
          have TM : Calls Try.prog 39 #[.pointer (some ⟨c.pc, 0, none⟩), .int .i64 xa, .int .i64 xb] w4 fun e W' => e = .returned (.int .i64 (mergeE l xa xb)) ∧ ∃ c5 : Ks, c5.pc = c.pc ∧ Ca w B W' p nb fb (.slice aa l.length ac) l vs ev lb c5 o4 (mergeP l P xa xb) Q4 P (.slice ta P.length tc) ∧
              (W'.cell? ⟨bx, 0, none⟩ = some (.int .i64 xk) ∧ W'.cell? ⟨bx, 1, none⟩ = some (.int .i64 xa) ∧ W'.cell? ⟨bx, 2, none⟩ = some (.int .i64 xb)) := by
            rw [← hpc]
            refine (CA4.tell xa xb (by omega)).mono ?_
            rintro e W' ⟨he, c5, h1, h2, K⟩
            exact ⟨he, c5, h1, h2, box3 K (fun e => Nat.lt_irrefl _ (hcl _ e)) ⟨z0, z1, z2⟩⟩
          cases ha : inB l.length xa
          · have WA := fun W => WIN.out W xa false ha
            have e1 : mergeE l xa xb = 7 := by simp [mergeE, ha]
            have e2 : mergeP l P xa xb = P := by simp [mergeP, ha]
            rw [e1, e2] at TM
            clear CA4 hcl hpc WIN ha e1 e2
            go_wp2_with (first | (go_at_call 39; refine TM.mono ?_; rintro e w5 ⟨rfl, c5, hc5, CA5, u0, u1, u2⟩) | (go_at_call 40; refine (WA _).mono ?_; rintro e w6 ⟨rfl, rfl⟩) | (go_at_call 41; refine (num_in _ _).mono ?_; rintro e w6 ⟨rfl, rfl⟩))
            go_meet
            case rel => exact ⟨P, c5, ev, lb, hc5, CA5, by show _ ≤ _; omega⟩
          · have WA := fun W => WIN.out W xa true ha
            cases hb : inB l.length xb
            · have WB : Hid (∀ W, Calls Try.prog 40 #[.int .i64 xb, .slice aa l.length ac] W fun e w' => e = .returned (.bool false) ∧ W = w') := fun W => WIN.out W xb false hb
              have e1 : mergeE l xa xb = 7 := by simp [mergeE, hb]
              have e2 : mergeP l P xa xb = P := by simp [mergeP, hb]
              rw [e1, e2] at TM
              clear CA4 hcl hpc WIN ha hb e1 e2
              go_wp2_with (first | (go_at_call 39; refine TM.mono ?_; rintro e w5 ⟨rfl, c5, hc5, CA5, u0, u1, u2⟩) | (go_at_call 40; refine (WB1 _).mono ?_; rintro e w6 ⟨rfl, rfl⟩) | (go_at_call 40; refine (WA _).mono ?_; rintro e w6 ⟨rfl, rfl⟩; have WB1 := WB.out; clear WA) | (go_at_call 41; refine (num_in _ _).mono ?_; rintro e w6 ⟨rfl, rfl⟩))
              go_meet
              case rel => exact ⟨P, c5, ev, lb, hc5, CA5, by show _ ≤ _; omega⟩
            · have WB : Hid (∀ W, Calls Try.prog 40 #[.int .i64 xb, .slice aa l.length ac] W fun e w' => e = .returned (.bool true) ∧ W = w') := fun W => WIN.out W xb true hb
              obtain ⟨p1, p2⟩ := inB_true ha
              obtain ⟨q1, q2⟩ := inB_true hb
              obtain ⟨na, rfl⟩ := Int.eq_ofNat_of_zero_le p1
              obtain ⟨nb', rfl⟩ := Int.eq_ofNat_of_zero_le q1
              have e1 : mergeE l (na : Int) (nb' : Int) = 0 := by simp [mergeE, ha, hb]
              have e2 : mergeP l P (na : Int) (nb' : Int) = P ++ [(na, nb')] := by simp [mergeP, ha, hb]
              rw [e1, e2] at TM
              clear CA4 hcl hpc WIN ha hb e1 e2 p1 p2 q1 q2
              go_wp2_with (first | (go_at_call 39; refine TM.mono ?_; rintro e w5 ⟨rfl, c5, hc5, CA5, u0, u1, u2⟩; have R5 := CA5.row; have wb5 : B ≤ w5.heap.size := CA5.cq.cl.un.low; replace CA5 : Hid _ := CA5) | (go_at_call 40; refine (WB1 _).mono ?_; rintro e w6 ⟨rfl, rfl⟩) | (go_at_call 40; refine (WA _).mono ?_; rintro e w6 ⟨rfl, rfl⟩; have WB1 := WB.out; clear WA) | (go_at_call 41; refine (num_in _ _).mono ?_; rintro e w6 ⟨rfl, rfl⟩) | (at_builtin; go_loud (refine wpList_append_here rfl _ _ 65 rfl B 70 i0 _ 2 16 Try.underlying65 hi0 hz0 hz1 hz2 rfl (by decide) _ _ (pairC (pInt P)) rfl (R5.alloc _) ⟨w5.heap.size, 0, none⟩ 1 1 [.int .i64 (na : Int), .int .i64 (nb' : Int)] rfl rfl (by exact cell_two_news w5 0 _ _ _) (by simp [Value.oneCell']) (by unfold maxLen; omega) (by omega) (by simp; omega) ?_; intro v6 w6 hown6 hgr6 hloc6)))
              go_meet
              case rel => exact ⟨P ++ [(na, nb')], c5, ev, lb, hc5, CA5.out.note ((Kept.refl _ w5).alloc _) hown6 hgr6 hloc6, by show _ ≤ _; simp; omega⟩
        · have d0 : (xk == 0) = false := beq_eq_false_iff_ne.2 h0
          by_cases h1 : xk = 1
          · have d1 : (xk == 1) = true := by rw [h1]; rfl
            clear h0 h1
            have UN : Calls Try.prog 42 #[.pointer (some ⟨c.pc, 0, none⟩), .int .i64 xa] w4 fun e W' => e = .returned (.bool (undoB P xa)) ∧ ∃ c5 : Ks, c5.pc = c.pc ∧ Ca w B W' p nb fb (.slice aa l.length ac) l vs ev lb c5 o4 (undoP P xa) Q4 P (.slice ta P.length tc) ∧
                (W'.cell? ⟨bx, 0, none⟩ = some (.int .i64 xk) ∧ W'.cell? ⟨bx, 1, none⟩ = some (.int .i64 xa) ∧ W'.cell? ⟨bx, 2, none⟩ = some (.int .i64 xb)) := by
              rw [← hpc]
              refine (CA4.undo xa).mono ?_
              rintro e W' ⟨he, c5, h1, h2, K⟩
              exact ⟨he, c5, h1, h2, box3 K (fun e => Nat.lt_irrefl _ (hcl _ e)) ⟨z0, z1, z2⟩⟩
            by_cases g1 : 0 ≤ xa
            · have dg1 : decide ((0 : Int) ≤ xa) = true := decide_eq_true g1
              by_cases g2 : xa ≤ (P.length : Int)
              · have dg2 : decide (xa ≤ (P.length : Int)) = true := decide_eq_true g2
                obtain ⟨m, rfl⟩ := Int.eq_ofNat_of_zero_le g1
                have hmP : m ≤ P.length := by omega
                have e1 : undoB P (m : Int) = true := by simp [undoB]; omega
                have e2 : undoP P (m : Int) = P.take m := by simp [undoP, e1]
                rw [e1, e2] at UN
                have htc : P.length ≤ tc := by
                  rcases CA4.row.2 with ⟨e3, e4⟩ | ⟨g, c9, cur, e3, _, _, h3, _⟩
                  · rw [e4]; exact Nat.zero_le _
                  · simp only [Value.slice.injEq] at e3
                    rw [e3.2.2]; exact h3
                have hta : (ta = none ∧ m = 0) ∨ ∃ g, ta = some ⟨g, 0, none⟩ := by
                  rcases CA4.row.2 with ⟨e3, e4⟩ | ⟨g, c9, cur, e3, _⟩
                  · simp only [Value.slice.injEq] at e3
                    exact .inl ⟨e3.1, by omega⟩
                  · simp only [Value.slice.injEq] at e3
                    exact .inr ⟨g, e3.1⟩
                have hmtc : m ≤ tc := by omega
                clear CA4 hcl hpc WIN g1 g2 e1 e2
                have FN : Hid (∀ (W : World) (c5 : Ks), Ca w B W p nb fb (.slice aa l.length ac) l vs ev lb c5 o4 (P.take m) Q4 P (.slice ta P.length tc) → Ca w B W p nb fb (.slice aa l.length ac) l vs ev lb c5 o4 (P.take m) Q4 (P.take m) (.slice ta m tc)) := fun W c5 h => h.cut m hmP
                have hlm : Hid ((P.take m).length ≤ k + 1) := by show _ ≤ _; rw [List.length_take]; omega
                rcases hta with ⟨rfl, rfl⟩ | ⟨g, rfl⟩
                · go_wp2_with (go_at_call 42; refine UN.mono ?_; rintro e w5 ⟨rfl, c5, hc5, CA5, u0, u1, u2⟩; replace CA5 : Hid _ := CA5)
                  go_meet
                  case rel => exact ⟨P.take 0, c5, ev, lb, hc5, FN.out w5 c5 CA5.out, hlm⟩
                · go_wp2_with (go_at_call 42; refine UN.mono ?_; rintro e w5 ⟨rfl, c5, hc5, CA5, u0, u1, u2⟩; replace CA5 : Hid _ := CA5)
                  go_meet
                  case rel => exact ⟨P.take m, c5, ev, lb, hc5, FN.out w5 c5 CA5.out, hlm⟩
              · have dg2 : decide (xa ≤ (P.length : Int)) = false := decide_eq_false g2
                have e1 : undoB P xa = false := by simp [undoB]; omega
                have e2 : undoP P xa = P := by simp [undoP, e1]
                rw [e1, e2] at UN
                clear CA4 hcl hpc WIN g1 g2 e1 e2
                go_wp2_with (go_at_call 42; refine UN.mono ?_; rintro e w5 ⟨rfl, c5, hc5, CA5, u0, u1, u2⟩; replace CA5 : Hid _ := CA5)
                go_meet
                case rel => exact ⟨P, c5, ev, lb, hc5, CA5.out, by show _ ≤ _; omega⟩
            · have dg1 : decide ((0 : Int) ≤ xa) = false := decide_eq_false g1
              have e1 : undoB P xa = false := by simp [undoB]; omega
              have e2 : undoP P xa = P := by simp [undoP, e1]
              rw [e1, e2] at UN
              clear CA4 hcl hpc WIN g1 e1 e2
              go_wp2_with (go_at_call 42; refine UN.mono ?_; rintro e w5 ⟨rfl, c5, hc5, CA5, u0, u1, u2⟩; replace CA5 : Hid _ := CA5)
              go_meet
              case rel => exact ⟨P, c5, ev, lb, hc5, CA5.out, by show _ ≤ _; omega⟩
          · have d1 : (xk == 1) = false := beq_eq_false_iff_ne.2 h1
            by_cases h2 : xk = 2
            · have d2 : (xk == 2) = true := by rw [h2]; rfl
              have RD1 := CA4.read ⟨#[110, 101, 119, 40, 97, 41]⟩
              clear CA4 hcl WIN h0 h1 h2
              go_wp2_with (first | (go_at_call 16; refine RD2.mono ?_; rintro e w6 ⟨⟨v1, v2, v3, rfl⟩, ev6, lb6, CA6⟩) | (go_at_call 16; refine RD1.mono ?_; rintro e w5 ⟨⟨v1, v2, v3, rfl⟩, ev5, lb5, CA5⟩; have RD2 := CA5.read ⟨#[102, 40, 110, 101, 119, 40, 97, 41, 41]⟩; clear RD1))
              go_meet
              case rel => exact ⟨P, c', ev6, lb6, hpc, CA6, by show _ ≤ _; omega⟩
            · have d2 : (xk == 2) = false := beq_eq_false_iff_ne.2 h2
              clear hcl WIN h0 h1 h2
              go_wp2_with fail
              go_meet
              case rel => exact ⟨P, c', ev, lb, hpc, CA4, by show _ ≤ _; omega⟩
      case rest =>
        obtain ⟨P', c5, ev5, lb5, hc5, CA5, hP5⟩ := hcut
        generalize wc = wA at *
        clear CA4 z0 z1 z2 hcl hPQ hpc hpo
        obtain ⟨ta5, tc5, htv5⟩ := CA5.forms
        subst htv5
        have hpl := hP5.out
        have CLS := CA5.closed hbd.out hlen (by omega)
        have KC : Hid (∀ W, Kept0 wA W → Calls Try.prog 44 #[.pointer (some ⟨c.pc, 0, none⟩)] W fun e w' => e = .returned (.slice (some ⟨W.heap.size, 0, none⟩) l.length l.length) ∧ w'.rowIs W.heap.size 3 l.length (fun i => .int .i64 (c5.z.g.lo i : Int)) ∧ Kept0 W w') := fun W K => by
          rw [← hc5]
          exact kClasses_in W B l c5 P' (CA5.cq.cl.kept0 K)
        have MK : Hid (∀ W, Kept0 wA W → Calls Try.prog 46 #[.pointer (some ⟨c.pc, 0, none⟩)] W fun e w' => e = .returned (.int .i64 (P'.length : Int)) ∧ W = w') := fun W K => by
          rw [← hc5]
          exact kMark_in W B l c5 P' (CA5.cq.cl.kept0 K)
        have SM : Hid (∀ W, Kept0 wA W → Calls Try.prog 47 #[.pointer (some ⟨c.pc, 0, none⟩), .int .i64 x, .int .i64 y] W fun e w' => e = .returned (.bool (sameB l.length c5.z.g x y)) ∧ ∃ m, w' = W.drewN m) := fun W K => by
          rw [← hc5]
          exact kSame_in W B l c5 P' (CA5.cq.cl.kept0 K) x y
        have HOK : Hid (Uf.Ok l.length c5.z.g c5.z.t.length) := CA5.cq.cl.un.cz.ok
        have HCA : Hid (∀ W, Kept0 wA W → Ca w B W p nb fb (.slice aa l.length ac) l vs ev5 lb5 c5 o4 P' Q4 P' (.slice ta5 P'.length tc5)) := fun W K => CA5.kept0 K
        clear CA5
        go_upto_region 34 with (first | (go_at_call 43; refine CLS.mono ?_; rintro e w6 ⟨va, vc, rfl, R6, K6⟩; have KC6 := KC.out w6 K6) | (go_at_call 44; refine KC6.mono ?_; rintro e w7 ⟨rfl, R7, K7⟩; have R67 := ownsRow_block R6 (fun j hj => K7.block j (R6.lt j hj).2 (fun e => e)); have INT := ints3_in w7 w6.heap.size wA.heap.size (some ⟨w6.heap.size, 0, none⟩) va l.length vc (lows l c5.z.g) (by rw [lows_len]; exact rowIs_owns R7 (by unfold maxLen; omega)) (by rw [lows_len]; exact R67) (by rw [lows_len]; omega); rw [lows_len] at INT; clear KC6) | (go_at_call 45; refine INT.mono ?_; rintro e w8 ⟨rfl, K8⟩))
        have K68 : Kept0 w6 w8 := K7.trans K8
        have K08 : Kept0 wA w8 := K6.trans K68
        have R68 := ownsRow_block R6 (fun j hj => K68.block j (R6.lt j hj).2 (fun e => e))
        have kb1 : wA.heap.size ≤ w6.heap.size := K6.size
        have R78 := World.rowIs.of_block R7 (K8.block _ (World.rowIs.lt R7) (fun e => e))
        clear CLS INT R6 R67 R7 K6 K7 K8 K68
        go_cut [169] (fun v wx => v = .bool false ∧ Kept0 w8 wx)
        case first =>
          have MKm := fun m => MK.out (w8.drewN m) (K08.drewN m)
          have SMm := fun m => SM.out (w8.drewN m) (K08.drewN m)
          have WIm := fun m (a : Int) => within_in (w8.drewN m) a aa l.length ac
          cases hx : inB l.length x
          · have e1 : sameB l.length c5.z.g x y = false := by simp [sameB, hx]
            rw [e1] at SMm
            clear e1 R68 R78
            have WX := fun m => WIm m x
            rw [hx] at WX
            clear WIm hx
            have dP : ((P'.length : Int) != (P'.length : Int)) = false := by simp
            go_quiet ((first | (go_at_call 46; exact Calls.quiet_of_same ((MKm _).mono fun _ _ x => ⟨x.1, x.2.symm⟩)) | (go_at_call 47; exact Calls.quiet_of (SMm _)) | (go_at_call 40; exact Calls.quiet_of_same ((WX _).mono fun _ _ x => ⟨x.1, x.2.symm⟩))))
            go_wp2_with fail
            go_meet
            case rel => exact ⟨rfl, (Kept.refl _ w8).drewN _⟩
          · cases hy : inB l.length y
            · have e1 : sameB l.length c5.z.g x y = false := by simp [sameB, hy]
              rw [e1] at SMm
              clear e1 R68 R78
              have WX : ∀ (m : Nat) (a : Int) (b : Bool), (a = x ∧ b = true ∨ a = y ∧ b = false) → Calls Try.prog 40 #[.int .i64 a, .slice aa l.length ac] (w8.drewN m) fun e w' => e = .returned (.bool b) ∧ w8.drewN m = w' := fun m a b h => by
                have h1 := WIm m a
                rcases h with ⟨rfl, rfl⟩ | ⟨rfl, rfl⟩
                · rw [hx] at h1; exact h1
                · rw [hy] at h1; exact h1
              clear WIm hx hy
              have dP : ((P'.length : Int) != (P'.length : Int)) = false := by simp
              go_quiet ((first | (go_at_call 46; exact Calls.quiet_of_same ((MKm _).mono fun _ _ x => ⟨x.1, x.2.symm⟩)) | (go_at_call 47; exact Calls.quiet_of (SMm _)) | (go_at_call 40; exact Calls.quiet_of_same ((WX _ _ _ (by first | exact .inl ⟨rfl, rfl⟩ | exact .inr ⟨rfl, rfl⟩)).mono fun _ _ x => ⟨x.1, x.2.symm⟩))))
              go_wp2_with fail
              go_meet
              case rel => exact ⟨rfl, (Kept.refl _ w8).drewN _⟩
            · obtain ⟨p1, p2⟩ := inB_true hx
              obtain ⟨q1, q2⟩ := inB_true hy
              obtain ⟨i, rfl⟩ := Int.eq_ofNat_of_zero_le p1
              obtain ⟨j, rfl⟩ := Int.eq_ofNat_of_zero_le q1
              have hi : i < l.length := by omega
              have hj : j < l.length := by omega
              obtain ⟨g, rfl⟩ : ∃ g, va = some ⟨g, 0, none⟩ := by
                rcases R68.2 with ⟨_, e2⟩ | ⟨g, c9, cur, e', _⟩
                · omega
                · simp only [Value.slice.injEq] at e'
                  exact ⟨g, e'.1⟩
              have ci := R68.cellAt i (by omega)
              have cj := R68.cellAt j (by omega)
              rw [natC_get, lows_get hi] at ci
              rw [natC_get, lows_get hj] at cj
              have ci' : w8.cell? ⟨g, i, none⟩ = some (.int .i64 (c5.z.g.lo i : Int)) := ci
              have cj' : w8.cell? ⟨g, j, none⟩ = some (.int .i64 (c5.z.g.lo j : Int)) := cj
              have e1 : ((c5.z.g.lo i : Int) == (c5.z.g.lo j : Int)) = sameB l.length c5.z.g (i : Int) (j : Int) := by
                rw [Bool.eq_iff_iff, beq_iff_eq]
                simp only [sameB, hx, hy, Bool.true_and, decide_eq_true_eq, Int.toNat_natCast]
                rw [← lo_root HOK.out hi hj]
                omega
              generalize sameB l.length c5.z.g (i : Int) (j : Int) = sb at *
              generalize c5.z.g.lo i = li at *
              generalize c5.z.g.lo j = lj at *
              clear ci cj R68 R78 p1 p2 q1 q2
              cases sb
              · have dP : ((P'.length : Int) != (P'.length : Int)) = false := by simp
                go_quiet ((first | (go_at_call 46; exact Calls.quiet_of_same ((MKm _).mono fun _ _ x => ⟨x.1, x.2.symm⟩)) | (go_at_call 47; exact Calls.quiet_of (SMm _)) | (go_at_call 40; exact Calls.quiet_of_same ((WIm _ _).mono fun _ _ x => ⟨x.1, x.2.symm⟩))))
                go_wp2_with fail
                go_meet
                case rel => exact ⟨rfl, (Kept.refl _ w8).drewN _⟩
              · have dP : ((P'.length : Int) != (P'.length : Int)) = false := by simp
                go_quiet ((first | (go_at_call 46; exact Calls.quiet_of_same ((MKm _).mono fun _ _ x => ⟨x.1, x.2.symm⟩)) | (go_at_call 47; exact Calls.quiet_of (SMm _)) | (go_at_call 40; exact Calls.quiet_of_same ((WIm _ _).mono fun _ _ x => ⟨x.1, x.2.symm⟩))))
                go_wp2_with fail
                go_meet
                case rel => exact ⟨rfl, (Kept.refl _ w8).drewN _⟩
        case rest =>
          obtain ⟨rfl, K9⟩ := hcut
          have R9 := World.rowIs.of_block R78 (K9.block _ (World.rowIs.lt R78) (fun e => e))
          have K09 : Kept0 wA wc := K08.trans K9
          clear R68 R78 K08 K9 MK SM KC HOK
          generalize w6.heap.size = kb at *
          go_wp2_with fail
          go_loopw [22] (fun t22 W => ∃ (j : Nat) (f : Nat → Value), j ≤ l.length ∧ t22 = .int .i64 (j : Int) ∧ W.rowIs kb 3 l.length f ∧ Kept0 wA W) (fun t22 _ => l.length - (intOf t22).toNat)
          case atStart => exact ⟨0, _, Nat.zero_le _, rfl, R9, K09⟩
          case round =>
            clear R9 K09
            obtain ⟨j, f, hj, rfl, R, K⟩ := hrel
            by_cases hj2 : j < l.length
            · have dj : decide ((j : Int) < (l.length : Int)) = true := decide_eq_true (by omega)
              have cj := R.cell (i := j) hj2
              have fj := R.frozen j
              have HH : Hid (_ ∧ _) := And.intro R K
              clear R K
              go_wp2_with fail
              exact ⟨⟨j + 1, _, hj2, by simp, HH.out.1.set j _, Kept.setNew HH.out.2 kb1 _⟩, by simp [intOf]; omega⟩
            · have dj : decide ((j : Int) < (l.length : Int)) = false := decide_eq_false (by omega)
              have CAW := HCA.out wr K
              clear R
              go_wp2_with fail
              exact ⟨⟨k + 1, P', Q4, c5, o4, ev5, lb5, hk2, by simp, hc5, ho4, CAW, hpl, hq4⟩, by simp [intOf]; omega⟩
    · have dk : decide ((k : Int) < (ops.length : Int)) = false := decide_eq_false (by omega)
      have hpl := hPQ.out.1
      have KC := kClasses_in wr B l c' P CA.cq.cl
      rw [hpc] at KC
      have CLS : Hid (∀ W, Kept0 wr W → Calls Try.prog 43 #[.slice aa l.length ac, .slice ta P.length tc] W fun e w' => ∃ va vc, e = .returned (.slice va l.length vc) ∧ w'.ownsRow W.heap.size 3 1 (.slice va l.length vc) l.length (natC (lows l c'.z.g)) ∧ Kept0 W w') := fun W K => (CA.kept0 K).closed hbd.out hlen (by omega)
      have BEL : Hid (Kept0 w wr) := CA.bel
      clear CA hpc hpo hPQ
      go_wp2_with (first | (go_at_call 44; refine KC.mono ?_; rintro e w5 ⟨rfl, R5, K5⟩; have CL5 := CLS.out w5 K5; clear KC) | (go_at_call 43; refine CL5.mono ?_; rintro e w6 ⟨va, vc, rfl, R6, K6⟩; have R56 := World.rowIs.of_block R5 (K6.block _ (World.rowIs.lt R5) (fun e => e)); have INT := ints3_in w6 wr.heap.size w5.heap.size (some ⟨wr.heap.size, 0, none⟩) va l.length vc (lows l c'.z.g) (by rw [lows_len]; exact rowIs_owns R56 (by unfold maxLen; omega)) (by rw [lows_len]; exact R6) (by rw [lows_len]; omega); rw [lows_len] at INT; clear CL5) | (go_at_call 45; refine INT.mono ?_; rintro e w7 ⟨rfl, K7⟩; have AL := alive3_any w7) | (go_at_call 48; refine AL.mono ?_; rintro e w8 ⟨rfl, B8⟩))
      go_ret
      have K07 : Kept0 w w7 := ((BEL.out.trans K5).trans K6).trans K7
      have b7 : Below w.heap.size w w7 := Kept.below K07 (Nat.le_refl _) (fun _ e => e.elim)
      exact ⟨rfl, b7.trans (B8.mono b7.size)⟩

end Go.Proofs.Ytinphcnknionmaa
