/- CloseLaws' walk. -/
import Derived.Test.YtinphcnknionmaaSLwA
import Derived.Test.YtinphcnknionmaaSOrdC
import Derived.Deep.RegionWith
namespace Go.Proofs.Ytinphcnknionmaa
open Go.RowKit Go.Maps

/-- A closure and its bank. -/
structure Cb (w W : World) (l : List Tm) (bc : Nat) (c : Ks) (P : List (Nat × Nat)) (p : Nat) (ev : Value) (nb fb : Nat) : Prop where
  cl : Cl W bc l c P
  bk : Bk W w.heap.size p ev nb fb l
  low : ∀ k, BFoot p ev nb fb k → k < bc
  bel : Below w.heap.size w W
  hb : w.heap.size ≤ bc

theorem Cb.kept0 {w W W' : World} {l : List Tm} {bc : Nat} {c : Ks} {P : List (Nat × Nat)} {p : Nat} {ev : Value} {nb fb : Nat} (h : Cb w W l bc c P p ev nb fb) (K : Kept0 W W') : Cb w W' l bc c P p ev nb fb :=
  ⟨h.cl.kept0 K, h.bk.kept0 K, h.low, h.bel.trans (Kept.below K h.bel.size (fun _ e => e.elim)), h.hb⟩
theorem Cb.merge {w W : World} {l : List Tm} {bc : Nat} {c : Ks} {P : List (Nat × Nat)} {p : Nat} {ev : Value} {nb fb : Nat} (h : Cb w W l bc c P p ev nb fb) (a b : Int) (hn : (P.length + 1) * 8 ≤ 140737488355328) :
    Calls Try.prog 39 #[.pointer (some ⟨c.pc, 0, none⟩), .int .i64 a, .int .i64 b] W fun e W' => e = .returned (.int .i64 (mergeE l a b)) ∧ ∃ c' : Ks, c'.pc = c.pc ∧ Cb w W' l bc c' (mergeP l P a b) p ev nb fb := by
  refine (kMerge_in W bc l c P h.cl a b hn).mono ?_
  rintro e W' ⟨he, c', C', K, hp, hA⟩
  refine ⟨he, c', hp, ⟨C', h.bk.stays K (fun k hk hf => ?_), h.low, h.bel.trans (Kept.below K h.bel.size (fun k hk => Nat.le_trans h.hb (h.cl.foot_ge hk))), h.hb⟩⟩
  have h1 := h.low k hk
  have h2 := h.cl.foot_ge hf
  omega

/-- All pairs of the kind that are terms' were told. -/
def ToldAll (l : List Tm) (ops : List (Int × Int × Int)) (k : Nat) (P : List (Nat × Nat)) : Prop := P.length ≤ k ∧ ∀ (m : Nat) (x : Int × Int × Int), m < k → ops[m]? = some x → x.1 = 0 → inB l.length x.2.1 = true → inB l.length x.2.2 = true → (x.2.1.toNat, x.2.2.toNat) ∈ P
theorem ToldAll.skip {l : List Tm} {ops : List (Int × Int × Int)} {k : Nat} {P : List (Nat × Nat)} (h : ToldAll l ops k P) {x : Int × Int × Int} (hx : ops[k]? = some x) (h0 : x.1 ≠ 0) : ToldAll l ops (k + 1) P := by
  refine ⟨by have := h.1; omega, fun m y hm hy y0 y1 y2 => ?_⟩
  by_cases e : m = k
  · subst e; rw [hx] at hy; cases hy; exact absurd y0 h0
  · exact h.2 m y (by omega) hy y0 y1 y2
theorem ToldAll.step {l : List Tm} {ops : List (Int × Int × Int)} {k : Nat} {P : List (Nat × Nat)} (h : ToldAll l ops k P) {x : Int × Int × Int} (hx : ops[k]? = some x) : ToldAll l ops (k + 1) (mergeP l P x.2.1 x.2.2) := by
  refine ⟨Nat.le_trans (mergeP_len l P _ _) (by have := h.1; omega), fun m y hm hy y0 y1 y2 => mergeP_mem.2 ?_⟩
  by_cases e : m = k
  · subst e; rw [hx] at hy; cases hy; exact .inr ⟨y1, y2, rfl⟩
  · exact .inl (h.2 m y (by omega) hy y0 y1 y2)

theorem sameB_symm (n : Nat) (g : Uf.G) (a b : Int) : sameB n g a b = sameB n g b a := by
  unfold sameB
  cases inB n a <;> cases inB n b <;> simp [eq_comm]

set_option maxHeartbeats 4000000 in
set_option maxRecDepth 100000 in
theorem laws_in (w : World) (a1 a2 : Option Addr) (cp1 cp2 : Nat) (ss : List ByteArray) (ops : List (Int × Int × Int)) (hT : Texts w a1 ss) (hm : ss.length ≤ maxLen) (hS : Scr w a2 ops) (hr : ops.length * 24 ≤ 140737488351232) :
    Calls Try.prog 9 #[.slice a1 ss.length cp1, .slice a2 ops.length cp2] w fun e w' => e = .returned (.bool true) ∧ Below w.heap.size w w' := by
  have LD := load_in w a1 cp1 ss hT hm
  go_enter Try.func9, Try.ntmps9
  go_wp2_with (first | (go_at_call 37; refine LD.mono ?_; rintro e w1 ⟨p, ev, nb, fb, l, q, av, vs, rfl, D⟩; have SZ := size_in w1 w.heap.size p ev nb fb l D.b; have N1 := kNew_in w1 w.heap.size p ev nb fb l D.b D.bd D.kl.len; obtain ⟨aa, ac, hav⟩ := D.r.ls.form; subst hav; have hlen := D.kl.len) | (go_at_call 21; refine SZ.mono ?_; rintro e w9 ⟨rfl, rfl⟩) | (go_at_call 38; refine N1.mono ?_; rintro e w2 ⟨c, rfl, C0, K2⟩; clear N1))
  have CD0 : Cb w w2 l w1.heap.size c [] p ev nb fb := ⟨C0, D.b.kept0 K2, fun k hk => D.b.foot_lt hk, D.bel.trans (Kept.below K2 D.bel.size (fun _ e => e.elim)), D.bel.size⟩
  clear LD C0 K2 D hT hm SZ
  generalize w1.heap.size = bc at *
  go_loopw [8] (fun t8 W => ∃ (k : Nat) (c' : Ks) (P : List (Nat × Nat)), k ≤ ops.length ∧ t8 = .int .i64 (k : Int) ∧ c'.pc = c.pc ∧ Cb w W l bc c' P p ev nb fb ∧ Hid (ToldAll l ops k P)) (fun t8 _ => ops.length - (intOf t8).toNat)
  case atStart => exact ⟨0, c, [], by omega, rfl, rfl, CD0, ⟨by simp, fun m x hm => by omega⟩⟩
  case round =>
    clear CD0
    obtain ⟨k, c', P, hk, rfl, hpc, CD, hpl⟩ := hrel
    by_cases hk2 : k < ops.length
    · have dk : decide ((k : Int) < (ops.length : Int)) = true := decide_eq_true (by omega)
      have hx : ops[k]? = some ops[k] := List.getElem?_eq_getElem hk2
      generalize hok : ops[k] = x at hx
      clear hok
      obtain ⟨b, off, rfl, hb, x0, x1, x2⟩ := hS k x hx
      have y0 := (CD.bel.cell (p := ⟨b, off + k * 3, none⟩) hb).trans x0
      have y1 := (CD.bel.cell (p := ⟨b, off + k * 3 + 1, none⟩) hb).trans x1
      have y2 := (CD.bel.cell (p := ⟨b, off + k * 3 + 2, none⟩) hb).trans x2
      have hpl' := hpl.out.1
      have MG : ∀ m, Calls Try.prog 39 #[.pointer (some ⟨c.pc, 0, none⟩), .int .i64 x.2.1, .int .i64 x.2.2] (wr.drewN m) fun e W' => e = .returned (.int .i64 (mergeE l x.2.1 x.2.2)) ∧ ∃ c2 : Ks, c2.pc = c.pc ∧ Cb w W' l bc c2 (mergeP l P x.2.1 x.2.2) p ev nb fb := fun m => by
        rw [← hpc]
        exact (CD.kept0 ((Kept.refl _ wr).drewN m)).merge x.2.1 x.2.2 (by omega)
      by_cases h0 : x.1 = 0
      · have d0 : (x.1 == 0) = true := by rw [h0]; rfl
        have hpl2 : Hid (ToldAll l ops (k + 1) (mergeP l P x.2.1 x.2.2)) := hpl.out.step hx
        clear x0 x1 x2 hS CD hpl hpl' hx hpc h0
        generalize mergeP l P x.2.1 x.2.2 = P2 at *
        generalize x.2.1 = xa at *
        generalize x.2.2 = xb at *
        generalize x.1 = xk at *
        go_wp2_with fail
        go_region_with (go_at_call 39; refine (MG 1).mono ?_; rintro e w5 ⟨rfl, c2, hc2, CD2⟩)
        all_goals
          go_wp2_with fail
          exact ⟨⟨k + 1, c2, P2, hk2, by simp, hc2, CD2, hpl2⟩, by simp [intOf]; omega⟩
      · have d0 : (x.1 == 0) = false := beq_eq_false_iff_ne.2 h0
        have hpl2 : Hid (ToldAll l ops (k + 1) P) := hpl.out.skip hx h0
        have HC : Hid (c'.pc = c.pc ∧ Cb w wr l bc c' P p ev nb fb) := ⟨hpc, CD⟩
        clear x1 x2 x0 hS CD hpl hpl' hx hpc h0 MG
        generalize x.1 = xk at *
        go_wp2_with fail
        exact ⟨⟨k + 1, c', P, hk2, by simp, HC.out.1, HC.out.2, hpl2⟩, by simp [intOf]; omega⟩
    · have dk : decide ((k : Int) < (ops.length : Int)) = false := decide_eq_false (by omega)
      obtain rfl : k = ops.length := by omega
      have HK1 := kClasses_in wr bc l c' P CD.cl
      rw [hpc] at HK1
      have HCD : Hid _ := CD
      clear CD
      go_wp2_with (go_at_call 44; refine HK1.mono ?_; rintro e w5 ⟨rfl, R5, K5⟩; clear HK1)
      have CD5 : Hid (Cb w w5 l bc c' P p ev nb fb) := HCD.out.kept0 K5
      have R6 : w5.rowIs wr.heap.size 3 l.length (fun i => .int .i64 (c'.z.g.lo i : Int)) := R5
      clear R5 K5 HCD
      generalize wr.heap.size = kb at *
      have SM : Hid (∀ W, Kept0 w5 W → ∀ a b : Int, Calls Try.prog 47 #[.pointer (some ⟨c.pc, 0, none⟩), .int .i64 a, .int .i64 b] W fun e w' => e = .returned (.bool (sameB l.length c'.z.g a b)) ∧ ∃ m, w' = W.drewN m) := fun W K a b => by
        rw [← hpc]
        exact kSame_in W bc l c' P (CD5.out.kept0 K).cl a b
      go_loopw [11] (fun t11 W => ∃ k : Nat, k ≤ ops.length ∧ t11 = .int .i64 (k : Int) ∧ Kept0 w5 W) (fun t11 _ => ops.length - (intOf t11).toNat)
      case atStart => exact ⟨0, by omega, rfl, Kept.refl _ _⟩
      case round =>
        obtain ⟨k, hk, rfl, K⟩ := hrel
        by_cases hk2 : k < ops.length
        · have dk : decide ((k : Int) < (ops.length : Int)) = true := decide_eq_true (by omega)
          have hx : ops[k]? = some ops[k] := List.getElem?_eq_getElem hk2
          generalize hok : ops[k] = x at hx
          clear hok
          obtain ⟨b, off, rfl, hb, x0, x1, x2⟩ := hS k x hx
          have belw := (CD5.out.kept0 K).bel
          have y0 := (belw.cell (p := ⟨b, off + k * 3, none⟩) hb).trans x0
          have y1 := (belw.cell (p := ⟨b, off + k * 3 + 1, none⟩) hb).trans x1
          have y2 := (belw.cell (p := ⟨b, off + k * 3 + 2, none⟩) hb).trans x2
          have SMX := fun m a b => SM.out (wr.drewN m) (K.drewN m) a b
          have WIN := fun m (a : Int) => within_in (wr.drewN m) a aa l.length ac
          have hsame : Hid (x.1 = 0 → inB l.length x.2.1 = true → inB l.length x.2.2 = true → sameB l.length c'.z.g x.2.1 x.2.2 = true) := fun h0 h1 h2 => by
            have hm := hpl.out.2 k x hk2 hx h0 h1 h2
            obtain ⟨a1, a2⟩ := inB_true h1
            obtain ⟨b1, b2⟩ := inB_true h2
            obtain ⟨xa, hxa⟩ := Int.eq_ofNat_of_zero_le a1
            obtain ⟨xb, hxb⟩ := Int.eq_ofNat_of_zero_le b1
            rw [hxa, hxb] at hm ⊢
            rw [Int.toNat_natCast, Int.toNat_natCast] at hm
            exact (CD5.out.cl.un.same (by omega) (by omega)).2 (.told hm (by omega) (by omega))
          have HK : Hid (Kept0 w5 wr) := K
          clear x0 x1 x2 hS hx K belw hpl R6 SM CD5
          generalize x.2.1 = xa at *
          generalize x.2.2 = xb at *
          generalize x.1 = xk at *
          by_cases h0 : xk = 0
          · have d0 : (xk == 0) = true := by rw [h0]; rfl
            cases hA : inB l.length xa
            · have WA := fun m => WIN m xa
              rw [hA] at WA
              clear hsame h0 SMX WIN
              go_wp2_with fail
              go_quiet ((go_at_call 40; exact Calls.quiet_of_same ((WA _).mono fun _ _ x => ⟨x.1, x.2.symm⟩)))
              go_wp2_with fail
              exact ⟨⟨k + 1, hk2, by simp, HK.out.drewN _⟩, by simp [intOf]; omega⟩
            · cases hB : inB l.length xb
              · have WA : ∀ m a, (a = xa ∨ a = xb) → Calls Try.prog 40 #[.int .i64 a, .slice aa l.length ac] (wr.drewN m) fun e w' => e = .returned (.bool (inB l.length a)) ∧ wr.drewN m = w' := fun m a _ => WIN m a
                clear hsame h0 SMX WIN
                go_wp2_with fail
                go_quiet ((go_at_call 40; exact Calls.quiet_of_same ((WA _ _ (by first | exact .inl rfl | exact .inr rfl)).mono fun _ _ x => ⟨x.1, x.2.symm⟩)))
                go_wp2_with fail
                exact ⟨⟨k + 1, hk2, by simp, HK.out.drewN _⟩, by simp [intOf]; omega⟩
              · have hs := hsame.out h0 hA hB
                have WA : ∀ m a, (a = xa ∨ a = xb) → Calls Try.prog 40 #[.int .i64 a, .slice aa l.length ac] (wr.drewN m) fun e w' => e = .returned (.bool (inB l.length a)) ∧ wr.drewN m = w' := fun m a _ => WIN m a
                have SA := fun m => SMX m xa xb
                clear hsame h0 SMX WIN
                go_wp2_with fail
                go_quiet ((first | (go_at_call 40; exact Calls.quiet_of_same ((WA _ _ (by first | exact .inl rfl | exact .inr rfl)).mono fun _ _ x => ⟨x.1, x.2.symm⟩)) | (go_at_call 47; exact Calls.quiet_of (SA _))))
                go_wp2_with fail
                exact ⟨⟨k + 1, hk2, by simp, HK.out.drewN _⟩, by simp [intOf]; omega⟩
          · have d0 : (xk == 0) = false := beq_eq_false_iff_ne.2 h0
            clear hsame h0 SMX WIN
            go_wp2_with fail
            go_quiet (fail)
            go_wp2_with fail
            exact ⟨⟨k + 1, hk2, by simp, HK.out.drewN _⟩, by simp [intOf]; omega⟩
        · have dk : decide ((k : Int) < (ops.length : Int)) = false := decide_eq_false (by omega)
          go_wp2_with fail
          clear hS hpl
          have KW : Hid (Kept0 w5 wr) := K
          go_loopw [12] (fun t12 W => ∃ i : Nat, i ≤ l.length ∧ t12 = .int .i64 (i : Int) ∧ Kept0 w5 W) (fun t12 _ => l.length - (intOf t12).toNat)
          case atStart => exact ⟨0, by omega, rfl, K⟩
          case round =>
            clear K KW
            obtain ⟨i, hi, rfl, K⟩ := hrel
            by_cases hi2 : i < l.length
            · have di : decide ((i : Int) < (l.length : Int)) = true := decide_eq_true (by omega)
              have ht : l[i]? = some l[i] := List.getElem?_eq_getElem hi2
              generalize hlt : l[i] = t at ht
              clear hlt
              have HT : Hid (l[i]? = some t) := ht
              clear ht
              go_wp2_with fail
              go_loopw [13] (fun t13 W => ∃ j : Nat, j ≤ l.length ∧ t13 = .int .i64 (j : Int) ∧ Kept0 w5 W) (fun t13 _ => l.length - (intOf t13).toNat)
              case atStart => exact ⟨0, by omega, rfl, K⟩
              case round =>
                clear K
                obtain ⟨j, hj, rfl, K⟩ := hrel
                by_cases hj2 : j < l.length
                · have dj : decide ((j : Int) < (l.length : Int)) = true := decide_eq_true (by omega)
                  have hu : l[j]? = some l[j] := List.getElem?_eq_getElem hj2
                  generalize hlu : l[j] = u at hu
                  clear hlu
                  have SM1 := SM.out wr K (i : Int) (j : Int)
                  have hsy := sameB_symm l.length c'.z.g (j : Int) (i : Int)
                  have SMH : Hid (∀ W, Kept0 w5 W → Calls Try.prog 47 #[.pointer (some ⟨c.pc, 0, none⟩), .int .i64 (j : Int), .int .i64 (i : Int)] W fun e w' => e = .returned (.bool (sameB l.length c'.z.g (i : Int) (j : Int))) ∧ ∃ m, w' = W.drewN m) := fun W KW => by
                    rw [← hsy]
                    exact SM.out W KW _ _
                  have hcg := CD5.out.cl.un.same hi2 hj2
                  have hlo := CD5.out.cl.un.inv.fin hi2 hj2
                  have CIJ : Hid (∀ W, Kept0 w5 W → W.cell? ⟨kb, i, none⟩ = some (.int .i64 (c'.z.g.lo i : Int)) ∧ W.cell? ⟨kb, j, none⟩ = some (.int .i64 (c'.z.g.lo j : Int))) := fun W KW => by
                    have RW := World.rowIs.of_block R6 (KW.block _ R6.lt (fun e => e))
                    exact ⟨RW.cell (i := i) hi2, RW.cell (i := j) hj2⟩
                  have HAR : Hid (∀ W, Kept0 w5 W → Calls Try.prog 49 #[.pointer (some ⟨c.pc, 0, none⟩), .pointer (some ⟨p, 0, none⟩), .int .i64 (i : Int), .int .i64 (j : Int)] W fun e w' => ∃ bb, e = .returned (.bool bb) ∧ (bb = true → Cc.Cg l P i j) ∧ Kept0 W w') := fun W KW => by
                    have C6 := CD5.out.kept0 KW
                    rw [← hpc]
                    exact args3_in W bc w.heap.size l c' P C6.cl p ev nb fb C6.bk i j t u HT.out hu
                  have HK : Hid (Kept0 w5 wr) := K
                  clear hsy hu K
                  cases hs : sameB l.length c'.z.g (i : Int) (j : Int)
                  · have hne : c'.z.g.lo i ≠ c'.z.g.lo j := fun e => by rw [hcg.2 (hlo.1 e)] at hs; cases hs
                    have hij : i ≠ j := fun e => hne (by rw [e])
                    have ncg : Hid (¬ Cc.Cg l P i j) := fun e => by rw [hcg.2 e] at hs; cases hs
                    have dl : ((c'.z.g.lo i : Int) == (c'.z.g.lo j : Int)) = false := beq_eq_false_iff_ne.2 (by omega)
                    have dij : ((i : Int) == (j : Int)) = false := beq_eq_false_iff_ne.2 (by omega)
                    rw [hs] at SM1 SMH
                    clear hcg hlo hne hij hs
                    generalize c'.z.g.lo i = li at *
                    generalize c'.z.g.lo j = lj at *
                    go_wp2_with (go_at_call 47; refine SM1.mono ?_; rintro e w6 ⟨rfl, m6, rfl⟩)
                    have K6 := HK.out.drewN m6
                    generalize wr.drewN m6 = w7 at *
                    obtain ⟨ci, cj⟩ := CIJ.out w7 K6
                    have SM2 := fun m => SMH.out (w7.drewN m) (K6.drewN m)
                    have HK6 : Hid (Kept0 w5 w7) := K6
                    clear SM1 K6
                    go_quiet ((go_at_call 47; exact Calls.quiet_of (SM2 _)))
                    have K8 := HK6.out.drewN nq
                    have AR := HAR.out (w7.drewN nq) K8
                    clear SM2 ci cj
                    go_wp2_with (go_at_call 49; refine AR.mono ?_; rintro e w8 ⟨bb, rfl, hbb, K9⟩; obtain rfl : bb = false := (by cases bb; exact rfl; exact absurd (hbb rfl) ncg.out); clear hbb AR)
                    exact ⟨⟨j + 1, hj2, by simp, K8.trans K9⟩, by simp [intOf]; omega⟩
                  · have hle : c'.z.g.lo i = c'.z.g.lo j := hlo.2 (hcg.1 hs)
                    rw [hs] at SM1 SMH
                    rw [← hle] at CIJ
                    clear hcg hlo hle hs HAR
                    generalize c'.z.g.lo i = li at *
                    cases dij : ((i : Int) == (j : Int))
                    · go_wp2_with (go_at_call 47; refine SM1.mono ?_; rintro e w6 ⟨rfl, m6, rfl⟩)
                      have K6 := HK.out.drewN m6
                      generalize wr.drewN m6 = w7 at *
                      obtain ⟨ci, cj⟩ := CIJ.out w7 K6
                      have SM2 := fun m => SMH.out (w7.drewN m) (K6.drewN m)
                      have HK6 : Hid (Kept0 w5 w7) := K6
                      clear SM1 K6
                      go_quiet ((go_at_call 47; exact Calls.quiet_of (SM2 _)))
                      clear SM2 ci cj
                      go_wp2_with fail
                      exact ⟨⟨j + 1, hj2, by simp, HK6.out.drewN _⟩, by simp [intOf]; omega⟩
                    · go_wp2_with (go_at_call 47; refine SM1.mono ?_; rintro e w6 ⟨rfl, m6, rfl⟩)
                      have K6 := HK.out.drewN m6
                      generalize wr.drewN m6 = w7 at *
                      obtain ⟨ci, cj⟩ := CIJ.out w7 K6
                      have SM2 := fun m => SMH.out (w7.drewN m) (K6.drewN m)
                      have HK6 : Hid (Kept0 w5 w7) := K6
                      clear SM1 K6
                      go_quiet ((go_at_call 47; exact Calls.quiet_of (SM2 _)))
                      clear SM2 ci cj
                      go_wp2_with fail
                      exact ⟨⟨j + 1, hj2, by simp, HK6.out.drewN _⟩, by simp [intOf]; omega⟩
                · have dj : decide ((j : Int) < (l.length : Int)) = false := decide_eq_false (by omega)
                  have RW := World.rowIs.of_block R6 (K.block _ R6.lt (fun e => e))
                  have hle := CD5.out.cl.un.inv.le i hi2
                  have hid := CD5.out.cl.un.inv.idem i hi2
                  have ci := RW.cell (i := i) hi2
                  have cii := RW.cell (i := c'.z.g.lo i) (by omega)
                  rw [hid] at cii
                  have HK : Hid (Kept0 w5 wr) := K
                  clear RW hid K
                  generalize c'.z.g.lo i = li at *
                  have dl1 : decide ((li : Int) < 0) = false := decide_eq_false (by omega)
                  have dl2 : decide ((i : Int) < (li : Int)) = false := decide_eq_false (by omega)
                  have dl3 : decide (i < li) = false := decide_eq_false (by omega)
                  have hll : li < l.length := by omega
                  go_wp2_with fail
                  go_quiet (fail)
                  go_wp2_with fail
                  exact ⟨⟨i + 1, hi2, by simp, HK.out.drewN _⟩, by simp [intOf]; omega⟩
            · have di : decide ((i : Int) < (l.length : Int)) = false := decide_eq_false (by omega)
              have AL := alive3_any wr
              have belw := (CD5.out.kept0 K).bel
              clear R6
              go_wp2_with (go_at_call 48; refine AL.mono ?_; rintro e w13 ⟨rfl, B13⟩)
              go_ret
              exact ⟨rfl, belw.trans (B13.mono belw.size)⟩

end Go.Proofs.Ytinphcnknionmaa
