/- law03: within, args. -/
import Derived.Test.YtinphcnknionmaaG45
namespace Go.Proofs.Ytinphcnknionmaa
open Go.RowKit Go.Maps

set_option maxHeartbeats 400000 in
theorem within_in (w : World) (a : Int) (aa : Option Addr) (n ac : Nat) :
    Calls Try.prog 40 #[.int .i64 a, .slice aa n ac] w fun e w' => e = .returned (.bool (inB n a)) ∧ w = w' := by
  go_enter Try.func40, Try.ntmps40
  go_wp2
  · go_ret
    exact ⟨ret_bool (inB_ge ‹_›), rfl⟩
  · go_ret
    exact ⟨ret_bool (inB_lt ‹_›), rfl⟩

set_option maxHeartbeats 2000000 in
set_option maxRecDepth 100000 in
theorem args3_in (W : World) (bc b0 : Nat) (l : List Tm) (c : Ks) (P : List (Nat × Nat)) (C : Cl W bc l c P) (p : Nat) (ev : Value) (nb fb : Nat) (B : Bk W b0 p ev nb fb l) (i j : Nat) (t u : Tm) (ht : l[i]? = some t) (hu : l[j]? = some u) :
    Calls Try.prog 49 #[.pointer (some ⟨c.pc, 0, none⟩), .pointer (some ⟨p, 0, none⟩), .int .i64 (i : Int), .int .i64 (j : Int)] W fun e w' => ∃ bb, e = .returned (.bool bb) ∧ (bb = true → Cc.Cg l P i j) ∧ Kept0 W w' := by
  have T1 := term_some W b0 p ev nb fb l B i t ht
  have T2 : ∀ W', Kept0 W W' → Calls Try.prog 23 #[.pointer (some ⟨p, 0, none⟩), .int .i64 (j : Int)] W' (TermAns W' u) := fun W' K => term_some W' b0 p ev nb fb l (B.kept0 K) j u hu
  have hb := C.un.cz.bd
  have h4 := hb.four t (List.mem_of_getElem? ht)
  have HT2 : Hid _ := T2
  have HH : Hid (_ ∧ _ ∧ _ ∧ _) := ⟨C, B, ht, hu⟩
  clear T2 C B ht hu
  obtain ⟨nm, xs⟩ := t
  obtain ⟨nu, ys⟩ := u
  simp only at h4
  by_cases hnm : nm = nu
  · subst hnm
    by_cases hln : xs.length = ys.length
    · have dn : ((xs.length : Int) != (ys.length : Int)) = false := by rw [hln]; simp
      have hlnh : Hid (xs.length = ys.length) := hln
      clear hln
      go_enter Try.func49, Try.ntmps49
      go_wp2_with (first | (go_at_call 23; refine TT2.mono ?_; rintro e w4 ⟨v2, rfl, O4, B4⟩; obtain ⟨ua, uc, rfl⟩ := row_form' O4; have R5 : ∀ O, (w4.alloc O).rowIs w2.heap.size 42 2 (fun j => if j = 0 then .string nm else .slice va xs.length vc) := fun O => World.rowIs.of_block (box_row w2 (.string nm) (.slice va xs.length vc) 42) (((below_kept0 B4).alloc O).block _ (World.rowIs.lt (box_row w2 (.string nm) (.slice va xs.length vc) 42)) (fun e => e)); have z0 : ∀ O, (w4.alloc O).cell? ⟨w2.heap.size, 0, none⟩ = some (.string nm) := fun O => (R5 O).cell (i := 0) (by omega); have z1 : ∀ O, (w4.alloc O).cell? ⟨w2.heap.size, 1, none⟩ = some (.slice va xs.length vc) := fun O => (R5 O).cell (i := 1) (by omega)) | (go_at_call 23; refine T1.mono ?_; rintro e w2 ⟨v1, rfl, O2, B2⟩; obtain ⟨va, vc, rfl⟩ := row_form' O2; have KB : Kept0 W (w2.alloc (.cells #[.string nm, .slice va xs.length vc] 42)) := (below_kept0 B2).alloc _; have TT2 := HT2.out _ KB; clear T1))
      clear z0 z1
      have K5 : Kept0 W (w4.alloc (.cells #[.string nm, .slice ua ys.length uc] 42)) := (KB.trans (below_kept0 B4)).alloc _
      have R9 := R5 (.cells #[.string nm, .slice ua ys.length uc] 42)
      have R11 := box_row w4 (.string nm) (.slice ua ys.length uc) 42
      have O9 : (w4.alloc (.cells #[.string nm, .slice ua ys.length uc] 42)).ownsRow W.heap.size 3 1 (.slice va xs.length vc) xs.length (argC xs) := ((O2.alloc _).kept (below_kept0 B4).grownBy (Decidable.em _)).alloc _
      have O11 := O4.alloc (.cells #[.string nm, .slice ua ys.length uc] 42)
      clear R5 O2 O4 B2 B4 KB TT2 HT2
      generalize w4.alloc (.cells #[.string nm, .slice ua ys.length uc] 42) = w5 at *
      generalize w4.heap.size = b11 at *
      generalize w2.heap.size = b9 at *
      have hl4 : xs.length ≤ 4 := h4
      go_loopw [13] (fun t13 W' => ∃ k : Nat, k ≤ xs.length ∧ t13 = .int .i64 (k : Int) ∧ Kept0 w5 W' ∧ Hid (∀ m a b, m < k → xs[m]? = some a → ys[m]? = some b → Cc.Cg l P a b)) (fun t13 _ => xs.length - (intOf t13).toNat)
      case atStart => exact ⟨0, by omega, rfl, Kept.refl _ _, fun m a b hm => by omega⟩
      case round =>
        obtain ⟨k, hk, rfl, K, hcg⟩ := hrel
        have y1 : wr.cell? ⟨b9, 1, none⟩ = some (.slice va xs.length vc) := (World.rowIs.of_block R9 (K.block _ R9.lt (fun e => e))).cell (i := 1) (by omega)
        have y2 : wr.cell? ⟨b11, 1, none⟩ = some (.slice ua ys.length uc) := (World.rowIs.of_block R11 (K.block _ R11.lt (fun e => e))).cell (i := 1) (by omega)
        by_cases hk2 : k < xs.length
        · have dk : decide ((k : Int) < (xs.length : Int)) = true := decide_eq_true (by omega)
          have hk3 : k < ys.length := by have := hlnh.out; omega
          obtain ⟨C, B, ht, hu⟩ := HH.out
          have hxa : xs[k]? = some xs[k] := List.getElem?_eq_getElem hk2
          have hyb : ys[k]? = some ys[k] := List.getElem?_eq_getElem hk3
          have ha := C.un.cz.bd.args i _ ht xs[k] (List.getElem_mem hk2)
          have hb' := C.un.cz.bd.args j _ hu ys[k] (List.getElem_mem hk3)
          obtain ⟨g1, cp1, e1, q1⟩ := arg_cell (xs := xs) (O9.kept K.grownBy (Decidable.em _)) hk2
          obtain ⟨g2, cp2, e2, q2⟩ := arg_cell (xs := ys) (O11.kept K.grownBy (Decidable.em _)) hk3
          injection e1 with r1 r2 r3
          clear r2
          injection e2 with r4 r5 r6
          clear r5
          subst r1 r3 r4 r6
          have SM : ∀ m, Calls Try.prog 47 #[.pointer (some ⟨c.pc, 0, none⟩), .int .i64 (xs[k] : Int), .int .i64 (ys[k] : Int)] (wr.drewN m) fun e w' => e = .returned (.bool (sameB l.length c.z.g (xs[k] : Int) (ys[k] : Int))) ∧ ∃ m', w' = (wr.drewN m).drewN m' := fun m => kSame_in _ bc l c P (C.kept0 ((K5.trans K).drewN m)) _ _
          have hsm := C.un.same ha hb'
          have HX : Hid (_ ∧ _ ∧ _) := ⟨hxa, hyb, hsm⟩
          have HK : Hid (Kept0 w5 wr ∧ Kept0 W wr) := ⟨K, K5.trans K⟩
          clear C B ht hu hxa hyb hsm ha hb' K O9 O11 R9 R11 hb h4 K5
          cases hs : sameB l.length c.z.g (xs[k] : Int) (ys[k] : Int)
          · rw [hs] at SM
            generalize xs[k] = xa at *
            generalize ys[k] = yb at *
            go_wp2_with fail
            go_quiet ((go_at_call 47; exact Calls.quiet_of (SM _)))
            go_wp2_with fail
            go_ret
            exact ⟨false, rfl, (fun e => by cases e), HK.out.2.drewN _⟩
          · rw [hs] at SM
            have hcg2 : Hid (∀ m a b, m < k + 1 → xs[m]? = some a → ys[m]? = some b → Cc.Cg l P a b) := fun m a b hm h1 h2 => by
              obtain ⟨x1, x2, x3⟩ := HX.out
              by_cases e : m = k
              · subst e
                rw [x1] at h1
                rw [x2] at h2
                cases h1
                cases h2
                exact x3.1 hs
              · exact hcg.out m a b (by omega) h1 h2
            clear HX
            generalize xs[k] = xa at *
            generalize ys[k] = yb at *
            go_wp2_with fail
            go_quiet ((go_at_call 47; exact Calls.quiet_of (SM _)))
            go_wp2_with fail
            exact ⟨⟨k + 1, hk2, by simp, HK.out.1.drewN _, hcg2⟩, by simp [intOf]; omega⟩
        · have dk : decide ((k : Int) < (xs.length : Int)) = false := decide_eq_false (by omega)
          obtain rfl : k = xs.length := by omega
          go_wp2_with fail
          go_ret
          obtain ⟨C, B, ht, hu⟩ := HH.out
          exact ⟨true, rfl, fun _ => .cong ht hu rfl hlnh.out (fun m a b h1 h2 => hcg.out m a b (List.getElem?_eq_some_iff.1 h1).1 h1 h2), K5.trans K⟩
    · have dn : ((xs.length : Int) != (ys.length : Int)) = true := by rw [bne_iff_ne]; omega
      clear hln
      go_enter Try.func49, Try.ntmps49
      go_wp2_with (first | (go_at_call 23; refine TT2.mono ?_; rintro e w4 ⟨v2, rfl, O4, B4⟩; obtain ⟨ua, uc, rfl⟩ := row_form' O4; have R5 : ∀ O, (w4.alloc O).rowIs w2.heap.size 42 2 (fun j => if j = 0 then .string nm else .slice va xs.length vc) := fun O => World.rowIs.of_block (box_row w2 (.string nm) (.slice va xs.length vc) 42) (((below_kept0 B4).alloc O).block _ (World.rowIs.lt (box_row w2 (.string nm) (.slice va xs.length vc) 42)) (fun e => e)); have z0 : ∀ O, (w4.alloc O).cell? ⟨w2.heap.size, 0, none⟩ = some (.string nm) := fun O => (R5 O).cell (i := 0) (by omega); have z1 : ∀ O, (w4.alloc O).cell? ⟨w2.heap.size, 1, none⟩ = some (.slice va xs.length vc) := fun O => (R5 O).cell (i := 1) (by omega)) | (go_at_call 23; refine T1.mono ?_; rintro e w2 ⟨v1, rfl, O2, B2⟩; obtain ⟨va, vc, rfl⟩ := row_form' O2; have KB : Kept0 W (w2.alloc (.cells #[.string nm, .slice va xs.length vc] 42)) := (below_kept0 B2).alloc _; have TT2 := HT2.out _ KB; clear T1))
      go_ret
      exact ⟨false, rfl, (fun e => by cases e), (KB.trans (below_kept0 B4)).alloc _⟩
  · have dn : (nm.toList == nu.toList) = false := beq_eq_false_iff_ne.2 (fun e => hnm (toList_name e))
    clear hnm
    go_enter Try.func49, Try.ntmps49
    go_wp2_with (first | (go_at_call 23; refine TT2.mono ?_; rintro e w4 ⟨v2, rfl, O4, B4⟩; obtain ⟨ua, uc, rfl⟩ := row_form' O4; have R5 : ∀ O, (w4.alloc O).rowIs w2.heap.size 42 2 (fun j => if j = 0 then .string nm else .slice va xs.length vc) := fun O => World.rowIs.of_block (box_row w2 (.string nm) (.slice va xs.length vc) 42) (((below_kept0 B4).alloc O).block _ (World.rowIs.lt (box_row w2 (.string nm) (.slice va xs.length vc) 42)) (fun e => e)); have z0 : ∀ O, (w4.alloc O).cell? ⟨w2.heap.size, 0, none⟩ = some (.string nm) := fun O => (R5 O).cell (i := 0) (by omega); have z1 : ∀ O, (w4.alloc O).cell? ⟨w2.heap.size, 1, none⟩ = some (.slice va xs.length vc) := fun O => (R5 O).cell (i := 1) (by omega)) | (go_at_call 23; refine T1.mono ?_; rintro e w2 ⟨v1, rfl, O2, B2⟩; obtain ⟨va, vc, rfl⟩ := row_form' O2; have KB : Kept0 W (w2.alloc (.cells #[.string nm, .slice va xs.length vc] 42)) := (below_kept0 B2).alloc _; have TT2 := HT2.out _ KB; clear T1))
    go_ret
    exact ⟨false, rfl, (fun e => by cases e), (KB.trans (below_kept0 B4)).alloc _⟩

end Go.Proofs.Ytinphcnknionmaa
