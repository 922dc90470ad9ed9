/- CloseOrder's walk. -/
import Derived.Test.YtinphcnknionmaaG45
import Derived.Deep.RegionWith
namespace Go.Proofs.Ytinphcnknionmaa
open Go.RowKit Go.Maps

/-- A script in memory: kind, a, b. -/
def Scr (w : World) (a : Option Addr) (ops : List (Int × Int × Int)) : Prop := ∀ (k : Nat) (x : Int × Int × Int), ops[k]? = some x → ∃ b off, a = some ⟨b, off, none⟩ ∧ b < w.heap.size ∧ w.cell? ⟨b, off + k * 3, none⟩ = some (.int .i64 x.1) ∧
  w.cell? ⟨b, off + k * 3 + 1, none⟩ = some (.int .i64 x.2.1) ∧ w.cell? ⟨b, off + k * 3 + 2, none⟩ = some (.int .i64 x.2.2)

/-- All pairs of a script are told. -/
def tellAll (l : List Tm) (P : List (Nat × Nat)) (xs : List (Int × Int)) : List (Nat × Nat) := xs.foldl (fun P x => mergeP l P x.1 x.2) P
theorem tellAll_snoc (l : List Tm) (P : List (Nat × Nat)) (xs : List (Int × Int)) (x : Int × Int) : tellAll l P (xs ++ [x]) = mergeP l (tellAll l P xs) x.1 x.2 := by simp [tellAll]
theorem mergeP_mem {l : List Tm} {P : List (Nat × Nat)} {a b : Int} {p : Nat × Nat} : p ∈ mergeP l P a b ↔ p ∈ P ∨ (inB l.length a = true ∧ inB l.length b = true ∧ p = (a.toNat, b.toNat)) := by
  unfold mergeP
  cases h : inB l.length a && inB l.length b
  · have : ¬ (inB l.length a = true ∧ inB l.length b = true) := by rw [← Bool.and_eq_true, h]; decide
    simp only [Bool.false_eq_true, if_false]
    constructor
    · exact .inl
    · rintro (x | ⟨x1, x2, _⟩)
      · exact x
      · exact absurd ⟨x1, x2⟩ this
  · rw [Bool.and_eq_true] at h
    simp [h.1, h.2]
theorem tellAll_mem {l : List Tm} {xs : List (Int × Int)} : ∀ {P : List (Nat × Nat)} {p : Nat × Nat}, p ∈ tellAll l P xs ↔ p ∈ P ∨ ∃ x ∈ xs, inB l.length x.1 = true ∧ inB l.length x.2 = true ∧ p = (x.1.toNat, x.2.toNat) := by
  induction xs with
  | nil => intro P p; simp [tellAll]
  | cons x xs ih =>
    intro P p
    have h1 : tellAll l P (x :: xs) = tellAll l (mergeP l P x.1 x.2) xs := rfl
    rw [h1, ih, mergeP_mem]
    constructor
    · rintro ((h | h) | ⟨y, hy, h⟩)
      · exact .inl h
      · exact .inr ⟨x, by simp, h⟩
      · exact .inr ⟨y, by simp [hy], h⟩
    · rintro (h | ⟨y, hy, h⟩)
      · exact .inl (.inl h)
      · rcases List.mem_cons.1 hy with rfl | hy
        · exact .inl (.inr h)
        · exact .inr ⟨y, hy, h⟩
theorem mergeP_len (l : List Tm) (P : List (Nat × Nat)) (a b : Int) : (mergeP l P a b).length ≤ P.length + 1 := by
  unfold mergeP
  split <;> simp
def prs (ops : List (Int × Int × Int)) : List (Int × Int) := ops.map fun x => (x.2.1, x.2.2)
/-- Both ways, from the last on. -/
def rvs (ops : List (Int × Int × Int)) : List (Int × Int) := ops.reverse.flatMap fun x => [(x.2.2, x.2.1), (x.2.1, x.2.2)]

theorem order_cg (l : List Tm) (ops : List (Int × Int × Int)) (i j : Nat) : Cc.Cg l (tellAll l [] (prs ops)) i j ↔ Cc.Cg l (tellAll l [] (rvs ops)) i j := by
  constructor
  · refine Cc.Cg.mono (fun a b hm ha hb => ?_)
    refine .told ?_ ha hb
    rw [tellAll_mem] at hm ⊢
    rcases hm with hm | ⟨x, hx, h1, h2, h3⟩
    · cases hm
    · obtain ⟨y, hy, rfl⟩ := List.mem_map.1 hx
      exact .inr ⟨_, List.mem_flatMap.2 ⟨y, by simpa using hy, by simp⟩, h1, h2, h3⟩
  · refine Cc.Cg.mono (fun a b hm ha hb => ?_)
    rw [tellAll_mem] at hm
    rcases hm with hm | ⟨x, hx, h1, h2, h3⟩
    · cases hm
    · obtain ⟨y, hy, hx⟩ := List.mem_flatMap.1 hx
      simp at hy hx
      obtain ⟨ea, eb⟩ := Prod.mk.inj h3
      rcases hx with rfl | rfl
      · refine .symm (.told ?_ hb ha)
        rw [tellAll_mem]
        exact .inr ⟨(y.2.1, y.2.2), List.mem_map.2 ⟨y, hy, rfl⟩, h2, h1, by rw [ea, eb]⟩
      · refine .told ?_ ha hb
        rw [tellAll_mem]
        exact .inr ⟨(y.2.1, y.2.2), List.mem_map.2 ⟨y, hy, rfl⟩, h1, h2, by rw [ea, eb]⟩

theorem rvs_step (ops : List (Int × Int × Int)) {k : Nat} {x : Int × Int × Int} (hx : ops[k]? = some x) : rvs (ops.drop k) = rvs (ops.drop (k + 1)) ++ [(x.2.2, x.2.1), (x.2.1, x.2.2)] := by
  have hk := (List.getElem?_eq_some_iff.1 hx)
  have : ops.drop k = x :: ops.drop (k + 1) := by rw [List.drop_eq_getElem_cons hk.1, hk.2]
  rw [this]
  simp [rvs]
theorem prs_step (ops : List (Int × Int × Int)) {k : Nat} {x : Int × Int × Int} (hx : ops[k]? = some x) : prs (ops.take (k + 1)) = prs (ops.take k) ++ [(x.2.1, x.2.2)] := by
  unfold prs
  rw [List.take_add_one, hx]
  simp

set_option maxHeartbeats 4000000 in
set_option maxRecDepth 100000 in
theorem order_in (w : World) (a1 a2 : Option Addr) (cp1 cp2 : Nat) (ss : List ByteArray) (ops : List (Int × Int × Int)) (hT : Texts w a1 ss) (hm : ss.length ≤ maxLen) (hS : Scr w a2 ops) (hr : ops.length * 24 ≤ 140737488351232) :
    Calls Try.prog 10 #[.slice a1 ss.length cp1, .slice a2 ops.length cp2] w fun e w' => e = .returned (.bool true) ∧ Below w.heap.size w w' := by
  have LD := load_in w a1 cp1 ss hT hm
  go_enter Try.func10, Try.ntmps10
  go_wp2_with (first | (go_at_call 37; refine LD.mono ?_; rintro e w1 ⟨p, ev, nb, fb, l, q, av, vs, rfl, D⟩; have N1 := kNew_in w1 w.heap.size p ev nb fb l D.b D.bd D.kl.len; obtain ⟨aa, ac, hav⟩ := D.r.ls.form; subst hav) | (go_at_call 38; refine N2.mono ?_; rintro e w3 ⟨d, rfl, D0, K3⟩) | (go_at_call 38; refine N1.mono ?_; rintro e w2 ⟨c, rfl, C0, K2⟩; have N2 := kNew_in w2 w.heap.size p ev nb fb l (D.b.kept0 K2) D.bd D.kl.len; clear N1))
  have CD0 : Cd w w3 l c d [] [] := ⟨(C0.kept0 K3).base D.bel.size, D0.base (Nat.le_trans D.bel.size K2.size), fun k hk hk2 => by have h1 := C0.all_lt hk; have h2 := D0.all_ge hk2; omega, (D.bel.trans (Kept.below K2 D.bel.size (fun _ e => e.elim))).trans (Kept.below K3 (Nat.le_trans D.bel.size K2.size) (fun _ e => e.elim))⟩
  have hlen : l.length ≤ 150 := D.kl.len
  have hbd : Hid (Cc.Bd l) := D.bd
  clear LD N2 C0 D0 K2 K3 D hT hm
  go_loopw [9] (fun t9 W => ∃ (k : Nat) (c' : Ks), k ≤ ops.length ∧ t9 = .int .i64 (k : Int) ∧ c'.pc = c.pc ∧ Cd w W l c' d (tellAll l [] (prs (ops.take k))) [] ∧ Hid ((tellAll l [] (prs (ops.take k))).length ≤ k)) (fun t9 _ => ops.length - (intOf t9).toNat)
  case atStart => exact ⟨0, c, by omega, rfl, rfl, CD0, by show (tellAll l [] (prs (ops.take 0))).length ≤ 0; simp [prs, tellAll]⟩
  case round =>
    clear CD0
    obtain ⟨k, c', hk, rfl, hpc, CD, hpl⟩ := hrel
    by_cases hk2 : k < ops.length
    · have dk : decide ((k : Int) < (ops.length : Int)) = true := decide_eq_true (by omega)
      have hx : ops[k]? = some ops[k] := List.getElem?_eq_getElem hk2
      generalize hok : ops[k] = x at hx
      clear hok
      obtain ⟨b, off, rfl, hb, _, x1, x2⟩ := hS k x hx
      have y1 := (CD.bel.cell (p := ⟨b, off + k * 3 + 1, none⟩) hb).trans x1
      have y2 := (CD.bel.cell (p := ⟨b, off + k * 3 + 2, none⟩) hb).trans x2
      have hpl' := hpl.out
      have MG : ∀ m, Calls Try.prog 39 #[.pointer (some ⟨c.pc, 0, none⟩), .int .i64 x.2.1, .int .i64 x.2.2] (wr.drewN m) fun e W' => e = .returned (.int .i64 (mergeE l x.2.1 x.2.2)) ∧ ∃ c2 : Ks, c2.pc = c.pc ∧ Cd w W' l c2 d (tellAll l [] (prs (ops.take (k + 1)))) [] := fun m => by
        rw [← hpc, prs_step ops hx, tellAll_snoc]
        exact ((CD.kept0 ((Kept.refl _ wr).drewN m)).merge x.2.1 x.2.2 (by omega)).mono fun e W' ⟨h1, c2, h2, h3, _⟩ => ⟨h1, c2, h2, h3⟩
      have hpl2 : Hid ((tellAll l [] (prs (ops.take (k + 1)))).length ≤ k + 1) := by
        show _ ≤ _
        rw [prs_step ops hx, tellAll_snoc]
        exact Nat.le_trans (mergeP_len l _ _ _) (by omega)
      obtain ⟨P2, hP2⟩ : ∃ P2, P2 = tellAll l [] (prs (ops.take (k + 1))) := ⟨_, rfl⟩
      rw [← hP2] at MG hpl2
      have HP2 : Hid (P2 = tellAll l [] (prs (ops.take (k + 1)))) := hP2
      clear x1 x2 hS CD hpl hpl' hx hpc hP2
      generalize x.2.1 = xa at *
      generalize x.2.2 = xb at *
      go_wp2_with fail
      go_region_with (go_at_call 39; refine (MG 1).mono ?_; rintro e w5 ⟨rfl, c2, hc2, CD2⟩)
      all_goals
        go_wp2_with fail
        have e := HP2.out
        subst e
        exact ⟨⟨k + 1, c2, hk2, by simp, hc2, CD2, hpl2⟩, by simp [intOf]; omega⟩
    · have dk : decide ((k : Int) < (ops.length : Int)) = false := decide_eq_false (by omega)
      obtain rfl : k = ops.length := by omega
      rw [List.take_length] at CD hpl
      obtain ⟨P1, hP1⟩ : ∃ P1, P1 = tellAll l [] (prs ops) := ⟨_, rfl⟩
      rw [← hP1] at CD hpl
      have HP1 : Hid (P1 = tellAll l [] (prs ops)) := hP1
      clear hP1
      go_wp2_with fail
      go_loopw [10] (fun t10 W => ∃ (k : Nat) (d' : Ks), k ≤ ops.length ∧ t10 = .int .i64 ((k : Int) - 1) ∧ d'.pc = d.pc ∧ Cd w W l c' d' P1 (tellAll l [] (rvs (ops.drop k))) ∧ Hid ((tellAll l [] (rvs (ops.drop k))).length ≤ 2 * (ops.length - k))) (fun t10 _ => (intOf t10 + 1).toNat)
      case atStart => exact ⟨ops.length, d, Nat.le_refl _, rfl, rfl, by rw [List.drop_length]; exact CD, by show _ ≤ _; rw [List.drop_length]; simp [rvs, tellAll]⟩
      case round =>
        clear CD
        obtain ⟨k, d', hk, rfl, hpd, CD, hql⟩ := hrel
        cases k with
        | zero =>
          rw [List.drop_zero] at CD hql
          have HK1 := kClasses_in wr w.heap.size l c' P1 CD.cl
          rw [hpc] at HK1
          have HK2 : ∀ W, Kept0 wr W → Calls Try.prog 44 #[.pointer (some ⟨d.pc, 0, none⟩)] W fun e w' => e = .returned (.slice (some ⟨W.heap.size, 0, none⟩) l.length l.length) ∧ w'.rowIs W.heap.size 3 l.length (fun i => .int .i64 (d'.z.g.lo i : Int)) ∧ Kept0 W w' := fun W KW => by
            have := kClasses_in W w.heap.size l d' _ (CD.dl.kept0 KW)
            rw [hpd] at this
            exact this
          have hlo : ∀ i, i < l.length → d'.z.g.lo i = c'.z.g.lo i := fun i hi => by
            have e1 := HP1.out
            have I1 := CD.cl.un.inv
            rw [e1] at I1
            exact (I1.unique CD.dl.un.inv (fun i j h => (order_cg l ops i j).1 h) (fun i j h => (order_cg l ops i j).2 h) hi).symm
          have hle : Hid (∀ i, i < l.length → c'.z.g.lo i ≤ i) := CD.cl.un.inv.le
          have hcg : Hid (∀ i, i < l.length → Cc.Cg l P1 i (c'.z.g.lo i)) := fun i hi => by
            have h1 := CD.cl.un.inv.le i hi
            exact (CD.cl.un.inv.fin hi (by omega)).1 (CD.cl.un.inv.idem i hi).symm
          have hpn := hpl.out
          clear hS hql hpl
          have H0 : Hid _ := HP1
          clear HP1
          have H1 : Hid (∀ i, i < l.length → d'.z.g.lo i = c'.z.g.lo i) := hlo
          have H2 : Hid (∀ W, Kept0 wr W → Calls Try.prog 44 #[.pointer (some ⟨d.pc, 0, none⟩)] W fun e w' => e = .returned (.slice (some ⟨W.heap.size, 0, none⟩) l.length l.length) ∧ w'.rowIs W.heap.size 3 l.length (fun i => .int .i64 (d'.z.g.lo i : Int)) ∧ Kept0 W w') := HK2
          clear hlo HK2
          have MRG : Hid (∀ W, Kept0 wr W → Calls Try.prog 39 #[.pointer (some ⟨c.pc, 0, none⟩), .int .i64 0, .int .i64 ((l.length : Int) - 1)] W fun e w' => (∃ x, e = .returned (.int .i64 x)) ∧ ∃ (c3 : Ks) (P3 : List (Nat × Nat)), c3.pc = c.pc ∧ Cl w' w.heap.size l c3 P3 ∧ Kept c'.Foot W w' ∧ ∀ i j, Cc.Cg l P1 i j → Cc.Cg l P3 i j) := fun W KW => by
            rw [← hpc]
            refine (kMerge_in W w.heap.size l c' P1 (CD.cl.kept0 KW) 0 ((l.length : Int) - 1) (by omega)).mono ?_
            rintro e w' ⟨he, c3, C3, K3, hp3, _⟩
            exact ⟨⟨_, he⟩, c3, _, hp3, C3, K3, fun i j h => h.mono (fun a b hm ha hb => .told (mergeP_mem.2 (.inl hm)) ha hb)⟩
          have hnf : Hid (∀ k, c'.Foot k → w.heap.size ≤ k ∧ k < wr.heap.size) := fun k hk => ⟨CD.cl.foot_ge hk, CD.cl.all_lt hk.all⟩
          have belr : Hid (Below w.heap.size w wr) := CD.bel
          have CC : Hid (Cl wr w.heap.size l c' P1) := CD.cl
          clear CD
          by_cases h1 : 1 < l.length
          · have d1 : decide ((1 : Int) < (l.length : Int)) = true := decide_eq_true (by omega)
            go_wp2_with (first | (go_at_call 44; refine HK3.mono ?_; rintro e w8 ⟨rfl, R8, K8⟩; have R78 := World.rowIs.of_block R7 (K8.block _ R7.lt (fun e => e)); have IN := ints_in w8 _ _ l.length c'.z.g.lo R78 (R8.congr (fun i hi => by rw [H1.out i hi])) (by omega); clear HK3) | (go_at_call 44; refine HK1.mono ?_; rintro e w7 ⟨rfl, R7, K7⟩; have HK3 := H2.out w7 K7; clear HK1) | (go_at_call 45; refine IN.mono ?_; rintro e w9 ⟨rfl, K9⟩; have K79 : Kept0 wr w9 := (K7.trans K8).trans K9; clear IN) | (go_at_call 39; refine (MRG.out w9 K79).mono ?_; rintro e w10 ⟨⟨x10, rfl⟩, c3, P3, hpc3, C3, K10, hPP0⟩))
            have hPP : Hid (∀ i j, Cc.Cg l P1 i j → Cc.Cg l P3 i j) := hPP0
            have R10 : w10.rowIs wr.heap.size 3 l.length (fun i => .int .i64 (c'.z.g.lo i : Int)) := by
              have R79 := World.rowIs.of_block R78 (K9.block _ R78.lt (fun e => e))
              exact R79.of_block (K10.block _ R79.lt (fun e => Nat.lt_irrefl _ (hnf.out _ e).2))
            have bel10 : Hid (Below w.heap.size w w10) := (belr.out.trans (Kept.below K79 belr.out.size (fun _ e => e.elim))).trans (Kept.below K10 (Nat.le_trans belr.out.size K79.size) (fun k hk => (hnf.out k hk).1))
            clear R7 R8 R78 K7 K8 K9 K79 K10 MRG hPP0 H2 H1 CC hnf belr
            have SMX : Hid (∀ W, Kept0 w10 W → ∀ i, i < l.length → Calls Try.prog 47 #[.pointer (some ⟨c.pc, 0, none⟩), .int .i64 (i : Int), .int .i64 (c'.z.g.lo i : Int)] W fun e w' => e = .returned (.bool true) ∧ ∃ m, w' = W.drewN m) := fun W KW i hi => by
              have := kSame_in W w.heap.size l c3 P3 (C3.kept0 KW) (i : Int) (c'.z.g.lo i : Int)
              have hli : c'.z.g.lo i < l.length := by have := hle.out i hi; omega
              rw [(C3.un.same hi hli).2 (hPP.out i _ (hcg.out i hi)), hpc3] at this
              exact this
            clear C3 hPP hcg
            go_wp2_with fail
            go_loopw [14] (fun t14 W => ∃ i : Nat, i ≤ l.length ∧ t14 = .int .i64 (i : Int) ∧ Kept0 w10 W) (fun t14 _ => l.length - (intOf t14).toNat)
            case atStart => exact ⟨0, by omega, rfl, Kept.refl _ _⟩
            case round =>
              obtain ⟨i, hi, rfl, KW⟩ := hrel
              by_cases hi2 : i < l.length
              · have di : decide ((i : Int) < (l.length : Int)) = true := decide_eq_true (by omega)
                have SM := SMX.out wr KW i hi2
                have ck := (World.rowIs.of_block R10 (KW.block _ R10.lt (fun e => e))).cell (i := i) hi2
                have hli := hle.out i hi2
                generalize c'.z.g.lo i = li at *
                have dl1 : decide ((li : Int) < 0) = false := decide_eq_false (by omega)
                have dl2 : decide ((l.length : Int) ≤ (li : Int)) = false := decide_eq_false (by omega)
                have dl3 : decide (l.length ≤ li) = false := decide_eq_false (by omega)
                have HK : Hid _ := KW
                clear KW R10
                go_wp2_with (go_at_call 47; refine SM.mono ?_; rintro e w12 ⟨rfl, m12, rfl⟩)
                exact ⟨⟨i + 1, by omega, by simp, HK.out.drewN _⟩, by simp [intOf]; omega⟩
              · have di : decide ((i : Int) < (l.length : Int)) = false := decide_eq_false (by omega)
                have AL := alive3_any wr
                clear R10
                go_wp2_with (go_at_call 48; refine AL.mono ?_; rintro e w13 ⟨rfl, B13⟩)
                go_ret
                have b11 := bel10.out.trans (Kept.below KW bel10.out.size (fun _ e => e.elim))
                exact ⟨rfl, b11.trans (B13.mono b11.size)⟩
          · have d1 : decide ((1 : Int) < (l.length : Int)) = false := decide_eq_false (by omega)
            go_wp2_with (first | (go_at_call 44; refine HK3.mono ?_; rintro e w8 ⟨rfl, R8, K8⟩; have R78 := World.rowIs.of_block R7 (K8.block _ R7.lt (fun e => e)); have IN := ints_in w8 _ _ l.length c'.z.g.lo R78 (R8.congr (fun i hi => by rw [H1.out i hi])) (by omega); clear HK3) | (go_at_call 44; refine HK1.mono ?_; rintro e w7 ⟨rfl, R7, K7⟩; have HK3 := H2.out w7 K7; clear HK1) | (go_at_call 45; refine IN.mono ?_; rintro e w9 ⟨rfl, K9⟩; have K79 : Kept0 wr w9 := (K7.trans K8).trans K9; clear IN))
            obtain ⟨c3, hc3⟩ : ∃ c3, c3 = c' := ⟨_, rfl⟩
            obtain ⟨P3, hP3⟩ : ∃ P3, P3 = P1 := ⟨_, rfl⟩
            have hPP : Hid (∀ i j, Cc.Cg l P1 i j → Cc.Cg l P3 i j) := fun i j h => by rw [hP3]; exact h
            have C3 : Cl w9 w.heap.size l c3 P3 := by rw [hc3, hP3]; exact CC.out.kept0 K79
            have hpc3 : c3.pc = c.pc := by rw [hc3]; exact hpc
            have R10 : w9.rowIs wr.heap.size 3 l.length (fun i => .int .i64 (c'.z.g.lo i : Int)) := World.rowIs.of_block R78 (K9.block _ R78.lt (fun e => e))
            have bel10 : Hid (Below w.heap.size w w9) := belr.out.trans (Kept.below K79 belr.out.size (fun _ e => e.elim))
            clear R7 R8 R78 K7 K8 K9 K79 MRG H2 H1 CC hnf belr hc3 hP3
            generalize w9 = w10 at *
            have SMX : Hid (∀ W, Kept0 w10 W → ∀ i, i < l.length → Calls Try.prog 47 #[.pointer (some ⟨c.pc, 0, none⟩), .int .i64 (i : Int), .int .i64 (c'.z.g.lo i : Int)] W fun e w' => e = .returned (.bool true) ∧ ∃ m, w' = W.drewN m) := fun W KW i hi => by
              have := kSame_in W w.heap.size l c3 P3 (C3.kept0 KW) (i : Int) (c'.z.g.lo i : Int)
              have hli : c'.z.g.lo i < l.length := by have := hle.out i hi; omega
              rw [(C3.un.same hi hli).2 (hPP.out i _ (hcg.out i hi)), hpc3] at this
              exact this
            clear C3 hPP hcg
            go_wp2_with fail
            go_loopw [14] (fun t14 W => ∃ i : Nat, i ≤ l.length ∧ t14 = .int .i64 (i : Int) ∧ Kept0 w10 W) (fun t14 _ => l.length - (intOf t14).toNat)
            case atStart => exact ⟨0, by omega, rfl, Kept.refl _ _⟩
            case round =>
              obtain ⟨i, hi, rfl, KW⟩ := hrel
              by_cases hi2 : i < l.length
              · have di : decide ((i : Int) < (l.length : Int)) = true := decide_eq_true (by omega)
                have SM := SMX.out wr KW i hi2
                have ck := (World.rowIs.of_block R10 (KW.block _ R10.lt (fun e => e))).cell (i := i) hi2
                have hli := hle.out i hi2
                generalize c'.z.g.lo i = li at *
                have dl1 : decide ((li : Int) < 0) = false := decide_eq_false (by omega)
                have dl2 : decide ((l.length : Int) ≤ (li : Int)) = false := decide_eq_false (by omega)
                have dl3 : decide (l.length ≤ li) = false := decide_eq_false (by omega)
                have HK : Hid _ := KW
                clear KW R10
                go_wp2_with (go_at_call 47; refine SM.mono ?_; rintro e w12 ⟨rfl, m12, rfl⟩)
                exact ⟨⟨i + 1, by omega, by simp, HK.out.drewN _⟩, by simp [intOf]; omega⟩
              · have di : decide ((i : Int) < (l.length : Int)) = false := decide_eq_false (by omega)
                have AL := alive3_any wr
                clear R10
                go_wp2_with (go_at_call 48; refine AL.mono ?_; rintro e w13 ⟨rfl, B13⟩)
                go_ret
                have b11 := bel10.out.trans (Kept.below KW bel10.out.size (fun _ e => e.elim))
                exact ⟨rfl, b11.trans (B13.mono b11.size)⟩
        | succ k =>
          have dk : decide ((0 : Int) ≤ (k : Int)) = true := decide_eq_true (by omega)
          have e0 : (((k + 1 : Nat) : Int) - 1) = (k : Int) := by omega
          rw [e0]
          have hx : ops[k]? = some ops[k] := List.getElem?_eq_getElem (by omega)
          generalize hok : ops[k] = x at hx
          clear hok
          obtain ⟨b, off, rfl, hb, _, x1, x2⟩ := hS k x hx
          have Y1 : ∀ W, Below w.heap.size w W → W.cell? ⟨b, off + k * 3 + 1, none⟩ = some (.int .i64 x.2.1) := fun W B => (B.cell (p := ⟨b, off + k * 3 + 1, none⟩) hb).trans x1
          have Y2 : ∀ W, Below w.heap.size w W → W.cell? ⟨b, off + k * 3 + 2, none⟩ = some (.int .i64 x.2.2) := fun W B => (B.cell (p := ⟨b, off + k * 3 + 2, none⟩) hb).trans x2
          have y1 := Y1 wr CD.bel
          have y2 := Y2 wr CD.bel
          have hql' := hql.out
          have hq1 := mergeP_len l (tellAll l [] (rvs (ops.drop (k + 1)))) x.2.2 x.2.1
          have MG : ∀ m, Calls Try.prog 39 #[.pointer (some ⟨d.pc, 0, none⟩), .int .i64 x.2.2, .int .i64 x.2.1] (wr.drewN m) fun e W' => e = .returned (.int .i64 (mergeE l x.2.2 x.2.1)) ∧ ∃ d2 : Ks, d2.pc = d.pc ∧ Cd w W' l c' d2 P1 (mergeP l (tellAll l [] (rvs (ops.drop (k + 1)))) x.2.2 x.2.1) := fun m => by
            rw [← hpd]
            exact ((CD.kept0 ((Kept.refl _ wr).drewN m)).swap.merge x.2.2 x.2.1 (by omega)).mono fun e W' ⟨h1, c2, h2, h3, _⟩ => ⟨h1, c2, h2, h3.swap⟩
          have MG2 : ∀ W (d2 : Ks), d2.pc = d.pc → Cd w W l c' d2 P1 (mergeP l (tellAll l [] (rvs (ops.drop (k + 1)))) x.2.2 x.2.1) → ∀ m, Calls Try.prog 39 #[.pointer (some ⟨d.pc, 0, none⟩), .int .i64 x.2.1, .int .i64 x.2.2] (W.drewN m) fun e W' => e = .returned (.int .i64 (mergeE l x.2.1 x.2.2)) ∧ ∃ d3 : Ks, d3.pc = d.pc ∧ Cd w W' l c' d3 P1 (tellAll l [] (rvs (ops.drop k))) := fun W d2 hd2 CD2 m => by
            have e : tellAll l [] (rvs (ops.drop k)) = mergeP l (mergeP l (tellAll l [] (rvs (ops.drop (k + 1)))) x.2.2 x.2.1) x.2.1 x.2.2 := by
              rw [rvs_step ops hx, show [(x.2.2, x.2.1), (x.2.1, x.2.2)] = [(x.2.2, x.2.1)] ++ [(x.2.1, x.2.2)] from rfl, ← List.append_assoc, tellAll_snoc, tellAll_snoc]
            rw [← hd2, e]
            exact ((CD2.kept0 ((Kept.refl _ W).drewN m)).swap.merge x.2.1 x.2.2 (by omega)).mono fun e W' ⟨h1, c2, h2, h3, _⟩ => ⟨h1, c2, h2, h3.swap⟩
          have hql2 : Hid ((tellAll l [] (rvs (ops.drop k))).length ≤ 2 * (ops.length - k)) := by
            show _ ≤ _
            rw [rvs_step ops hx, show [(x.2.2, x.2.1), (x.2.1, x.2.2)] = [(x.2.2, x.2.1)] ++ [(x.2.1, x.2.2)] from rfl, ← List.append_assoc, tellAll_snoc, tellAll_snoc]
            have h2 := mergeP_len l (mergeP l (tellAll l [] (rvs (ops.drop (k + 1)))) x.2.2 x.2.1) x.2.1 x.2.2
            exact Nat.le_trans h2 (by omega)
          have MH : Hid (_ ∧ _ ∧ _) := ⟨MG2, Y1, Y2⟩
          have hkl : k < ops.length := by omega
          clear x1 x2 hS CD hql hql' hx hpd MG2 Y1 Y2 hpl hq1
          generalize x.2.1 = xa at *
          generalize x.2.2 = xb at *
          go_wp2_with fail
          go_region_with (go_at_call 39; refine (MG 1).mono ?_; rintro e w5 ⟨rfl, d2, hd2, CD2⟩)
          all_goals
            have MG5 := MH.out.1 w5 d2 hd2 CD2
            have y1 := MH.out.2.1 w5 CD2.bel
            have y2 := MH.out.2.2 w5 CD2.bel
            clear MG
            go_wp2_with fail
            go_region_with (go_at_call 39; refine (MG5 1).mono ?_; rintro e w6 ⟨rfl, d3, hd3, CD3⟩)
            all_goals
              go_wp2_with fail
              exact ⟨⟨k, d3, by omega, by simp, hd3, CD3, hql2⟩, by simp [intOf]⟩

end Go.Proofs.Ytinphcnknionmaa
