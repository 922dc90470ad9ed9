/- law03: alive; two closures of one bank. -/
import Derived.Test.YtpipihllofpnaaaOrdA
namespace Go.Proofs.Ytpipihllofpnaaa
open Go.RowKit Go.Maps

theorem Un.same {w : World} {base : Nat} {l : List Tm} {z : Zs} {P : List (Nat × Nat)} (h : Un w base l z P [] []) {i j : Nat} (hi : i < l.length) (hj : j < l.length) : (sameB l.length z.g (i : Int) (j : Int) = true) ↔ Cc.Cg l P i j := by
  rw [← h.inv.fin hi hj]
  simp only [sameB, inB_nat hi, inB_nat hj, Bool.true_and, Int.toNat_natCast, decide_eq_true_eq]
  exact ⟨lo_of_rt, rt_of_lo h.cz.ok hi hj⟩

theorem Un.base {w : World} {base base' : Nat} {l : List Tm} {z : Zs} {P todo : List (Nat × Nat)} {pend : List Nat} (h : Un w base l z P todo pend) (hb : base' ≤ base) : Un w base' l z P todo pend := by
  have C := h.cz
  have L := C.sets.lies
  exact ⟨⟨C.cls, ⟨⟨L.sets, L.nodes, row_base L.joins hb, L.ne, L.jp, L.jn, Nat.le_trans hb L.bp, Nat.le_trans hb L.bn, L.small⟩, C.sets.hist, Nat.le_trans hb C.sets.low⟩, C.terms, C.uses, C.known, row_base C.back hb, C.sat, fun x hx => ⟨Nat.le_trans hb (C.far x hx).1, (C.far x hx).2⟩, C.argsAt, C.usesAt, C.bd, C.oks, C.len, Nat.le_trans hb C.bp, Nat.le_trans hb C.bt, Nat.le_trans hb C.bu, Nat.le_trans hb C.bm⟩, h.inv, h.ms, h.bs, h.td, Nat.le_trans hb h.low⟩
theorem Cl.base {w : World} {base base' : Nat} {l : List Tm} {c : Ks} {P : List (Nat × Nat)} (h : Cl w base l c P) (hb : base' ≤ base) : Cl w base' l c P :=
  ⟨h.clo, row_base h.told hb, h.un.base hb, h.farP, h.farT, Nat.le_trans hb h.bp, h.num⟩

theorem l6_bd : Cc.Bd l6 ∧ Kp l6 := by
  have hK : Kp l6 := by have := Kp.nil.read tx5; rw [t5_read] at this; exact this
  have hN : Nq l6 := by have := Nq.nil.read tx5; rw [t5_read] at this; exact this
  refine ⟨⟨fun n t ht a ha => ?_, hK.good.four, hK.good.one, by decide⟩, hK⟩
  have h1 := hN.ahd n t ht a ha
  have h2 := (List.getElem?_eq_some_iff.1 ht).1
  omega

theorem Cl.foot_ge {w : World} {base : Nat} {l : List Tm} {c : Ks} {P : List (Nat × Nat)} (h : Cl w base l c P) {k : Nat} (hk : c.Foot k) : base ≤ k := h.all_ge hk.all

set_option maxHeartbeats 2000000 in
set_option maxRecDepth 100000 in
theorem alive3_any (w : World) : Calls Try.prog 48 #[] w fun e w' => e = .returned (.bool true) ∧ Below w.heap.size w w' := by
  have NEW := tNew_any w
  have hm1 : mergeP l6 [] 3 0 = [(3, 0)] := rfl
  have hm2 : mergeP l6 [(3, 0)] 5 0 = [(3, 0), (5, 0)] := rfl
  have M1 : ∀ w3 c, Cl w3 w.heap.size l6 c [] → Calls Try.prog 39 #[.pointer (some ⟨c.pc, 0, none⟩), .int .i64 3, .int .i64 0] w3 fun e w' => (∃ x, e = .returned (.int .i64 x)) ∧ ∃ c' : Ks, c'.pc = c.pc ∧ Cl w' w.heap.size l6 c' [(3, 0)] ∧ Below w.heap.size w3 w' := fun w3 c C =>
    (kMerge_in w3 w.heap.size l6 c [] C 3 0 (by decide)).mono fun e w' ⟨he, c', C', K, hp, _⟩ => ⟨⟨_, he⟩, c', hp, C', Kept.below K C.un.low (fun k hk => C.foot_ge hk)⟩
  have M2 : ∀ w3 c, Cl w3 w.heap.size l6 c [(3, 0)] → Calls Try.prog 39 #[.pointer (some ⟨c.pc, 0, none⟩), .int .i64 5, .int .i64 0] w3 fun e w' => (∃ x, e = .returned (.int .i64 x)) ∧ ∃ c' : Ks, c'.pc = c.pc ∧ Cl w' w.heap.size l6 c' [(3, 0), (5, 0)] ∧ Below w.heap.size w3 w' := fun w3 c C =>
    (kMerge_in w3 w.heap.size l6 c [(3, 0)] C 5 0 (by decide)).mono fun e w' ⟨he, c', C', K, hp, _⟩ => ⟨⟨_, he⟩, c', hp, C', Kept.below K C.un.low (fun k hk => C.foot_ge hk)⟩
  have S1 : ∀ w3 c, Cl w3 w.heap.size l6 c [(3, 0)] → Calls Try.prog 47 #[.pointer (some ⟨c.pc, 0, none⟩), .int .i64 1, .int .i64 0] w3 fun e w' => e = .returned (.bool false) ∧ ∃ m, w' = w3.drewN m := fun w3 c C => by
    have := kSame_in w3 w.heap.size l6 c _ C 1 0
    have hs : sameB l6.length c.z.g 1 0 = false := by
      cases hc : sameB l6.length c.z.g 1 0
      · rfl
      · have := l6_no 1 0 ((C.un.same (i := 1) (j := 0) (by decide) (by decide)).1 hc)
        omega
    rw [hs] at this
    exact this
  have S2 : ∀ w3 c, Cl w3 w.heap.size l6 c [(3, 0), (5, 0)] → Calls Try.prog 47 #[.pointer (some ⟨c.pc, 0, none⟩), .int .i64 1, .int .i64 0] w3 fun e w' => e = .returned (.bool true) ∧ ∃ m, w' = w3.drewN m := fun w3 c C => by
    have := kSame_in w3 w.heap.size l6 c _ C 1 0
    have hs : sameB l6.length c.z.g 1 0 = true := (C.un.same (i := 1) (j := 0) (by decide) (by decide)).2 l6_yes
    rw [hs] at this
    exact this
  have M1h : Hid _ := M1
  have M2h : Hid _ := M2
  have S1h : Hid _ := S1
  have S2h : Hid _ := S2
  clear M1 M2 S1 S2 hm1 hm2
  go_enter Try.func48, Try.ntmps48
  go_wp2_with (first | (go_at_call 15; refine NEW.mono ?_; rintro e w1 ⟨p, nb, fb, rfl, H1, B1⟩; have RD := tRead_in w1 w.heap.size p _ nb fb [] H1 (by simp) B1.size tx5; rw [t5_read] at RD; unfold tx5 at RD) | (go_at_call 16; refine RD.mono ?_; rintro e w2 ⟨rfl, ev2, H2, K2, _⟩; have NC := kNew_in w2 w.heap.size p ev2 nb fb l6 H2 l6_bd.1 (by decide)) | (go_at_call 38; refine NC.mono ?_; rintro e w3 ⟨c, rfl, C0, K3⟩; have hb2 : w.heap.size ≤ w2.heap.size := Nat.le_trans B1.size K2.size; have C1 := C0.base hb2; have MM1 := M1h.out w3 c C1; replace C0 : Hid _ := C0; replace C1 : Hid _ := C1) | (go_at_call 39; refine MM2.mono ?_; rintro e w6 ⟨⟨x6, rfl⟩, c6, hc6, C6, B6⟩; have SS2 := S2h.out w6 c6 C6; rw [hc6] at SS2; clear MM2) | (go_at_call 39; refine MM1.mono ?_; rintro e w4 ⟨⟨x4, rfl⟩, c4, hc4, C4, B4⟩; have SS1 := S1h.out w4 c4 C4; rw [hc4] at SS1; clear MM1) | (go_at_call 47; refine SS2.mono ?_; rintro e w7 ⟨rfl, m7, rfl⟩; have C7 := C6.kept0 ((Kept.refl _ w6).drewN m7); have MK := kMark_in _ _ _ _ _ C7; rw [hc6] at MK; clear SS2) | (go_at_call 47; refine SS1.mono ?_; rintro e w5 ⟨rfl, m5, rfl⟩; have C5 := C4.kept0 ((Kept.refl _ w4).drewN m5); have MM2 := M2h.out _ c4 C5; rw [hc4] at MM2; clear SS1) | (go_at_call 46; refine MK.mono ?_; rintro e w8 ⟨rfl, rfl⟩))
  go_ret
  have b2 : Below w.heap.size w1 w2 := Kept.below K2 B1.size (fun k e => by
    rcases e with e | e | e | e
    · rw [e]; exact H1.bp
    · rw [e]; exact H1.bn
    · rw [e]; exact H1.bf
    · simp [Value.ownBlock] at e)
  have b3 : Below w.heap.size w2 w3 := Kept.below K3 hb2 (fun _ e => e.elim)
  have s3 := b3.size
  have s4 := B4.size
  have s6 := B6.size
  have b5 : Below w.heap.size w4 (w4.drewN m5) := Kept.below (S := fun _ => False) ((Kept.refl _ w4).drewN m5) (by omega) (fun _ e => e.elim)
  have b7 : Below w.heap.size w6 (w6.drewN m7) := Kept.below (S := fun _ => False) ((Kept.refl _ w6).drewN m7) (by have : w4.heap.size ≤ w6.heap.size := s6; omega) (fun _ e => e.elim)
  exact ⟨rfl, (((((B1.trans b2).trans b3).trans B4).trans b5).trans B6).trans b7⟩

/-- Two closures of one list. -/
structure Cd (w W : World) (l : List Tm) (c d : Ks) (P Q : List (Nat × Nat)) : Prop where
  cl : Cl W w.heap.size l c P
  dl : Cl W w.heap.size l d Q
  dis : ∀ k, c.All k → ¬ d.All k
  bel : Below w.heap.size w W

theorem Cd.swap {w W : World} {l : List Tm} {c d : Ks} {P Q : List (Nat × Nat)} (h : Cd w W l c d P Q) : Cd w W l d c Q P := ⟨h.dl, h.cl, fun k hk hk2 => h.dis k hk2 hk, h.bel⟩
theorem Cd.kept0 {w W W' : World} {l : List Tm} {c d : Ks} {P Q : List (Nat × Nat)} (h : Cd w W l c d P Q) (K : Kept0 W W') : Cd w W' l c d P Q := ⟨h.cl.kept0 K, h.dl.kept0 K, h.dis, h.bel.trans (Kept.below K h.bel.size (fun _ e => e.elim))⟩
theorem Cd.merge {w W : World} {l : List Tm} {c d : Ks} {P Q : List (Nat × Nat)} (h : Cd w W l c d P Q) (a b : Int) (hn : (P.length + 1) * 8 ≤ 140737488355328) :
    Calls Try.prog 39 #[.pointer (some ⟨c.pc, 0, none⟩), .int .i64 a, .int .i64 b] W fun e W' => e = .returned (.int .i64 (mergeE l a b)) ∧ ∃ c' : Ks, c'.pc = c.pc ∧ Cd w W' l c' d (mergeP l P a b) Q ∧ Kept (fun k => w.heap.size ≤ k ∧ ¬ d.All k) W W' := by
  refine (kMerge_in W w.heap.size l c P h.cl a b hn).mono ?_
  rintro e W' ⟨he, c', C', K, hp, hA⟩
  refine ⟨he, c', hp, ⟨C', h.dl.keep K (fun k hk hf => h.dis k hf.all hk), fun k hk hk2 => ?_, h.bel.trans (Kept.below K h.bel.size (fun k hk => h.cl.foot_ge hk))⟩, Kept.mono K (fun k _ hk => ⟨h.cl.foot_ge hk, h.dis k hk.all⟩)⟩
  rcases hA k hk with e | e
  · exact h.dis k e hk2
  · have := h.dl.all_lt hk2; omega
