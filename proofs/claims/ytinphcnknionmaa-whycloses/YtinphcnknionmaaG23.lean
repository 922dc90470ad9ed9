/- Package term: whole, Read. Package term: how high terms are, and what they show, plainly. -/
import Derived.Test.YtinphcnknionmaaSTermP
namespace Go.Proofs.Ytinphcnknionmaa
open Go.RowKit Go.Maps

/-- What a text says: number, error, place, the list behind it. -/
def pWhole (s : ByteArray) (l : List Tm) : Nat × Nat × Nat × List Tm := match pTerm s (2 * s.size + 1) 0 (bl s 0) l with
  | .bad c q _ => (0, c, q, l)
  | .ok n k l' => if k < s.size then (0, 2, k, l) else if 150 < l'.length then (0, 6, 0, l) else (n, 0, 0, l')
def pRead (s : ByteArray) (l : List Tm) : Nat × Nat × Nat × List Tm := if 400 < s.size then (0, 1, 0, l) else pWhole s l

/-- Fuel beyond what is wanted says the same. -/
theorem p_fuel (s : ByteArray) : ∀ f : Nat, (∀ above i l, i ≤ s.size → 2 * (s.size - i) + 1 ≤ f → pTerm s (f + 1) above i l = pTerm s f above i l) ∧
    (∀ above i l xs, i ≤ s.size → 2 * (s.size - i) + 2 ≤ f → pArgs s (f + 1) above i l xs = pArgs s f above i l xs)
  | 0 => ⟨fun _ _ _ _ h => absurd h (by omega), fun _ _ _ _ _ h => absurd h (by omega)⟩
  | f + 1 => by
    obtain ⟨IT, IA⟩ := p_fuel s f
    obtain ⟨GT, _⟩ := p_grows s f
    constructor
    · intro above i l hi hf
      rw [pTerm, pTerm]
      cases hb : badNm s i with
      | true => rfl
      | false =>
        have h1 := nm_lt hb
        have h2 := nmE_le hi
        have h3 := bl_ge s (nmE s i)
        have h4 := bl_le h2
        by_cases ha : 12 < above
        · simp [ha]
        · cases hs : stands s (bl s (nmE s i)) 40 with
          | false => simp [ha]
          | true =>
            have h5 := behind_lt hs
            have h6 := behind_le (c := 40) h4
            rw [IA (above + 1) _ l [] h6 (by omega)]
    · intro above i l xs hi hf
      rw [pArgs, pArgs]
      by_cases h1 : i = s.size
      · simp [h1]
      · by_cases h4 : xs.length = 4
        · simp [h4]
        · rw [if_neg h1, if_neg h1, if_neg h4, if_neg h4, IT above i l hi (by omega)]
          cases hx : pTerm s f above i l with
          | bad c q l' => rfl
          | ok n k l' =>
            obtain ⟨B2, B3⟩ := (GT above i l hi).2 n k l' hx
            simp only
            cases h41 : stands s k 41 with
            | true => rfl
            | false =>
              cases h44 : stands s k 44 with
              | false => rfl
              | true =>
                have h5 := behind_lt h44
                have h6 := behind_le (c := 44) B3
                simp only [Bool.false_eq_true, if_false, if_true]
                exact IA above _ l' (xs ++ [n]) h6 (by omega)

/-- The world with whole's boxes. -/
theorem boxes_made (w : World) (r n0 : Nat) : Boxes (((((w.alloc (.cells #[.pointer (some ⟨r, 0, none⟩)] 179)).alloc (.cells #[.int .i64 0] 3)).alloc (.cells #[.int .i64 0] 29)).alloc (.cells #[.int .i64 0] 3)).alloc (.cells #[.int .i64 (n0 : Int)] 3)) w.heap.size r n0 (.int .i64 0) (.int .i64 0) (.int .i64 0) := by
  have one : ∀ (w : World) (v : Value) (ty : TypeId), Box (w.alloc (.cells #[v] ty)) w.heap.size ty v := fun w v ty => World.rowIs.congr (made_row w #[v] ty) (fun j hj => by
    have : j = 0 := by simp at hj; omega
    subst this; rfl)
  have keep : ∀ {w : World} {b : Nat} {v : Value} {ty : TypeId} (o : Obj), Box w b ty v → Box (w.alloc o) b ty v := fun {w b v ty} o h => h.of_block ((Kept.alloc (Kept.refl (fun _ => False) w) o).block b (World.rowIs.lt h) (fun e => e))
  have s1 : (w.alloc (.cells #[.pointer (some ⟨r, 0, none⟩)] 179)).heap.size = w.heap.size + 1 := by simp
  have s2 : ((w.alloc (.cells #[.pointer (some ⟨r, 0, none⟩)] 179)).alloc (.cells #[.int .i64 0] 3)).heap.size = w.heap.size + 2 := by simp
  have s3 : (((w.alloc (.cells #[.pointer (some ⟨r, 0, none⟩)] 179)).alloc (.cells #[.int .i64 0] 3)).alloc (.cells #[.int .i64 0] 29)).heap.size = w.heap.size + 3 := by simp
  have s4 : ((((w.alloc (.cells #[.pointer (some ⟨r, 0, none⟩)] 179)).alloc (.cells #[.int .i64 0] 3)).alloc (.cells #[.int .i64 0] 29)).alloc (.cells #[.int .i64 0] 3)).heap.size = w.heap.size + 4 := by simp
  exact ⟨keep _ (keep _ (keep _ (keep _ (one w _ _)))), keep _ (keep _ (keep _ (s1 ▸ one _ (.int .i64 0) 3))), keep _ (keep _ (s2 ▸ one _ (.int .i64 0) 29)), keep _ (s3 ▸ one _ (.int .i64 0) 3), s4 ▸ one _ (.int .i64 (n0 : Int)) 3⟩

theorem Boxes.grew {w5 w' : World} {b r p nb fb n0 : Nat} {ev ev' v2 v3 v4 : Value} (B : Boxes w5 b r n0 v2 v3 v4) (A : Apart b r p nb fb ev) (hs : w5.heap.size = b + 5) (G : Grew (fun k => k = r) p nb fb w5 ev w' ev') : Boxes w' b r n0 v2 v3 v4 ∧ Apart b r p nb fb ev' := by
  refine ⟨B.kept G.kept ?_, ⟨A.r, A.p, A.n, A.f, fun k e => ?_⟩⟩
  · rintro k h1 h2 (e | e)
    · have := A.r; omega
    · exact A.foot k h1 h2 e
  · rcases G.row with e2 | e2
    · exact A.e k (e2 ▸ e)
    · have := e2 k e; omega

theorem Boxes.put1 {w : World} {b r n0 : Nat} {v2 v3 v4 : Value} (h : Boxes w b r n0 v2 v3 v4) (u2 : Value) : Boxes (w.setCell ⟨b + 1, 0, none⟩ u2) b r n0 u2 v3 v4 :=
  ⟨h.b1.other (by omega) _ _, h.b2.set u2, h.b3.other (by omega) _ _, h.b4.other (by omega) _ _, h.b5.other (by omega) _ _⟩

set_option maxHeartbeats 2000000 in
theorem whole_in (w : World) (base r p : Nat) (ev : Value) (nb fb : Nat) (s : ByteArray) (l : List Tm) (h : RB w base r p ev nb fb s 0 l) (hl : l.length ≤ 150) :
    Calls Try.prog 66 #[.pointer (some ⟨r, 0, none⟩)] w fun e w' => e = .returned (.tuple #[.int .i64 ((pWhole s l).1 : Int), .int .i64 ((pWhole s l).2.1 : Int), .int .i64 ((pWhole s l).2.2.1 : Int)]) ∧
      ∃ ev', Bk w' base p ev' nb fb (pWhole s l).2.2.2 ∧ Grew (fun k => k = r) p nb fb w ev w' ev' := by
  have hmf : ∀ (fn : Fn) (first cap : Array Value) (w : World), (Instr.makeFunc fn first cap).run Try.prog w = .ok (.func fn first cap) w := fun _ _ _ _ => rfl
  have hsm := h.rd.small
  have BM := boxes_made w r l.length
  have K4 : Kept0 w ((((w.alloc (.cells #[.pointer (some ⟨r, 0, none⟩)] 179)).alloc (.cells #[.int .i64 0] 3)).alloc (.cells #[.int .i64 0] 29)).alloc (.cells #[.int .i64 0] 3)) := (((Kept.refl _ w).alloc _ |>.alloc _).alloc _).alloc _
  have K5 : Kept0 w (((((w.alloc (.cells #[.pointer (some ⟨r, 0, none⟩)] 179)).alloc (.cells #[.int .i64 0] 3)).alloc (.cells #[.int .i64 0] 29)).alloc (.cells #[.int .i64 0] 3)).alloc (.cells #[.int .i64 (l.length : Int)] 3)) := K4.alloc _
  have R4 := (h.kept0 K4).1
  have P5 := h.kept0 K5
  have S5 : (((((w.alloc (.cells #[.pointer (some ⟨r, 0, none⟩)] 179)).alloc (.cells #[.int .i64 0] 3)).alloc (.cells #[.int .i64 0] 29)).alloc (.cells #[.int .i64 0] 3)).alloc (.cells #[.int .i64 (l.length : Int)] 3)).heap.size = w.heap.size + 5 := by simp
  have SIZE := size_in _ base p ev nb fb l R4.bk
  have rc4 := R4.rd.c0
  have Ap : Apart w.heap.size r p nb fb ev := by
    obtain ⟨Dn, n1, _, _⟩ := h.bk.nums
    obtain ⟨Df, f1, _, _⟩ := h.bk.fsts
    refine ⟨h.rd.row.lt, h.bk.bank.lt, World.ownsMap.lt n1, World.ownsMap.lt f1, fun k e => Or.inl ?_⟩
    rcases h.bk.rows.2 with ⟨e2, h0⟩ | ⟨b, cap, cur, e2, hb, e2h⟩
    · rw [e2] at e; simp [Value.ownBlock] at e
    · rw [e2] at e
      simp [Value.ownBlock] at e
      have := right_lt e2h.1
      omega
  go_enter_defers Try.func66, Try.ntmps66
  go_wp2_with (first | (go_at_call 21; refine SIZE.mono ?_; rintro e w2 ⟨rfl, rfl⟩))
  clear rc4 R4 SIZE K4
  rw [show w.heap.size + 1 + 1 + 1 + 1 = w.heap.size + 4 from rfl, show w.heap.size + 1 + 1 + 1 = w.heap.size + 3 from rfl, show w.heap.size + 1 + 1 = w.heap.size + 2 from rfl]
  generalize (((((w.alloc (.cells #[.pointer (some ⟨r, 0, none⟩)] 179)).alloc (.cells #[.int .i64 0] 3)).alloc (.cells #[.int .i64 0] 29)).alloc (.cells #[.int .i64 0] 3)).alloc (.cells #[.int .i64 (l.length : Int)] 3)) = w5 at BM P5 S5 K5 ⊢
  obtain ⟨R5, G5⟩ := P5
  have hbs := G5.kept.size
  generalize hb : w.heap.size = b at *
  have BL := blanks_in w5 r _ s 0 R5.rd
  have hbl := bl_le (s := s) (i := 0) (by omega)
  cases hx : pTerm s (2 * s.size + 1) 0 (bl s 0) l with
  | bad c q l' =>
    have hpre := ((p_grows s (2 * s.size + 1)).1 0 (bl s 0) l hbl).1
    rw [hx] at hpre
    obtain ⟨rest, hrest⟩ := hpre
    have hrest' : l ++ rest = l' := hrest
    go_wp2_with (first | (go_at_call 110; refine BL.mono ?_; rintro e w6 ⟨rfl, R6, K6⟩; have P6 := R5.read K6 R6; have B6 := BM.grew Ap S5 P6.2; have bc6 := B6.1.b1.cell; have T6 := at_all (2 * s.size + 1) w6 base r p ev nb fb s (bl s 0) l 0 P6.1 (by omega) (by omega) (by omega); rw [hx] at T6) | (go_at_call 111; refine T6.mono ?_; rintro e w7 ⟨rfl, ev7, k7, R7, G7⟩))
    have hpw : pWhole s l = (0, c, q, l) := by simp [pWhole, hx]
    have B7 := BM.grew Ap S5 (P6.2.trans G7)
    have GA : Grew (fun k => k = r ∨ (b ≤ k ∧ k ≤ b + 4)) p nb fb w ev w7 ev7 := ((G5.trans P6.2).trans G7).mono (fun _ _ e => Or.inl e)
    refine leaves_cons (f := 108) (args := #[.pointer (some ⟨b, 0, none⟩), .pointer (some ⟨b + 4, 0, none⟩), .pointer (some ⟨b + 1, 0, none⟩), .pointer (some ⟨b + 2, 0, none⟩), .pointer (some ⟨b + 3, 0, none⟩)]) (by simp) (by simp [go_sem]) ?_
    refine (catch_bad _ base b r p ev7 nb fb s _ l rest (hrest'.symm ▸ R7) _ _ _ B7.1 B7.2 c q).mono ?_
    rintro e u' w9 ⟨rfl, rfl, ev9, Bk9, E9, Bx9, K9⟩
    have z2 := Bx9.b2.cell
    have z3 := Bx9.b3.cell
    have z4 := Bx9.b4.cell
    have GG : Grew (fun k => k = r) p nb fb w ev w9 ev9 := Grew.mono (X := fun k => k = r ∨ (b ≤ k ∧ k ≤ b + 4)) (Grew.trans GA ⟨Kept.mono K9 (fun k _ e => e.elim Or.inr (fun e => Or.inl (Or.inr e))), Or.inl E9⟩) (fun k hk e => e.elim id (fun e => by omega))
    clear K9 Bx9
    refine ⟨.tuple #[.int .i64 0, .int .i64 (c : Int), .int .i64 (q : Int)], ?_, ?_⟩
    · simp [results, Try.results66, go_sem, z2, z3, z4]
    · rw [hpw]
      exact ⟨rfl, ev9, Bk9, GG⟩
  | ok n k l' =>
    obtain ⟨hpre, hgr⟩ := (p_grows s (2 * s.size + 1)).1 0 (bl s 0) l hbl
    obtain ⟨hk0, hk⟩ := hgr n k l' hx
    rw [hx] at hpre
    obtain ⟨rest, hrest⟩ := hpre
    have hrest' : l ++ rest = l' := hrest
    clear hrest
    obtain ⟨hcn, hcl⟩ := (p_count s (2 * s.size + 1)).1 0 (bl s 0) l n k l' hbl hx
    go_wp2_with (first | (go_at_call 110; refine BL.mono ?_; rintro e w6 ⟨rfl, R6, K6⟩; have P6 := R5.read K6 R6; have B6 := BM.grew Ap S5 P6.2; have bc6 := B6.1.b1.cell; have T6 := at_all (2 * s.size + 1) w6 base r p ev nb fb s (bl s 0) l 0 P6.1 (by omega) (by omega) (by omega); rw [hx] at T6) | (go_at_call 111; refine T6.mono ?_; rintro e w7 ⟨rfl, ev7, R7, G7⟩; have B7 := BM.grew Ap S5 (P6.2.trans G7); have n1 := B7.1.b2.cell; have n2 := B7.1.b2.frozen))
    have hAp := B7.2
    have hr := hAp.r
    have hp := hAp.p
    have hn := hAp.n
    have hf := hAp.f
    have R8 := R7.setOther (x := b + 1) (by omega) (by omega) (by omega) (by omega) (fun e => by have := hAp.e _ e; omega) 0 (.int .i64 (n : Int))
    have B8 := B7.1.put1 (.int .i64 (n : Int))
    have GA : Grew (fun k => k = r ∨ (b ≤ k ∧ k ≤ b + 4)) p nb fb w ev (w7.setCell ⟨b + 1, 0, none⟩ (.int .i64 (n : Int))) ev7 := (((G5.trans P6.2).trans G7).mono (fun _ _ e => Or.inl e)).setCell (Or.inr ⟨by omega, by omega⟩) _
    clear n1 n2 B7 R7 G7 T6 bc6 B6 P6 R6 K6 BL hgr G5 R5 K5
    generalize w7.setCell ⟨b + 1, 0, none⟩ (.int .i64 (n : Int)) = w8 at R8 B8 GA ⊢
    have b1c := B8.b1.cell
    have rd1 := R8.rd.c1
    have rd2 := R8.rd.c2
    have rd0 := R8.rd.c0
    have sm7 := R8.bk.small
    by_cases hks : k < s.size
    · have hpw : pWhole s l = (0, 2, k, l) := by simp [pWhole, hx, hks]
      have d1 : decide ((k : Int) < s.size) = true := decide_eq_true (by omega)
      have b1d := fun m => ((B8.kept (Kept.drewN (Kept.refl (fun _ => False) w8) m) (fun _ _ _ e => e)).b1.cell)
      go_quiet (fail)
      go_wp2_with (go_at_call 112; refine (refuse_any _ _ _).mono ?_; rintro e w2 ⟨rfl, rfl⟩)
      have R9 := R8.drewN nq
      have B9 : Boxes (w8.drewN nq) b r l.length (.int .i64 (n : Int)) (.int .i64 0) (.int .i64 0) ∧ Apart b r p nb fb ev7 := ⟨B8.kept (Kept.drewN (Kept.refl (fun _ => False) w8) nq) (fun _ _ _ e => e), hAp⟩
      have GB := GA.drewN nq
      refine leaves_cons (f := 108) (args := #[.pointer (some ⟨b, 0, none⟩), .pointer (some ⟨b + 4, 0, none⟩), .pointer (some ⟨b + 1, 0, none⟩), .pointer (some ⟨b + 2, 0, none⟩), .pointer (some ⟨b + 3, 0, none⟩)]) (by simp) (by simp [go_sem]) ?_
      refine (catch_bad _ base b r p ev7 nb fb s _ l rest (hrest'.symm ▸ R9) _ _ _ B9.1 B9.2 2 k).mono ?_
      rintro e u' w9 ⟨rfl, rfl, ev9, Bk9, E9, Bx9, K9⟩
      have z2 := Bx9.b2.cell
      have z3 := Bx9.b3.cell
      have z4 := Bx9.b4.cell
      have GG : Grew (fun k => k = r) p nb fb w ev w9 ev9 := Grew.mono (X := fun k => k = r ∨ (b ≤ k ∧ k ≤ b + 4)) (Grew.trans GB ⟨Kept.mono K9 (fun k _ e => e.elim Or.inr (fun e => Or.inl (Or.inr e))), Or.inl E9⟩) (fun k hk e => e.elim id (fun e => by omega))
      clear K9 Bx9
      refine ⟨.tuple #[.int .i64 0, .int .i64 (2 : Int), .int .i64 (k : Int)], ?_, ?_⟩
      · simp [results, Try.results66, go_sem, z2, z3, z4]
      · rw [hpw]
        exact ⟨rfl, ev9, Bk9, GG⟩
    · have d1 : decide ((k : Int) < s.size) = false := decide_eq_false (by omega)
      by_cases hm : 150 < l'.length
      · have hpw : pWhole s l = (0, 6, 0, l) := by simp [pWhole, hx, hks, hm]
        have d2 : (150 : Int) < (l'.length : Int) := by omega
        go_quiet (fail)
        have R9 := R8.drewN nq
        have SZ := size_in _ base p ev7 nb fb l' R9.bk
        have B9 : Boxes (w8.drewN nq) b r l.length (.int .i64 (n : Int)) (.int .i64 0) (.int .i64 0) ∧ Apart b r p nb fb ev7 := ⟨B8.kept (Kept.drewN (Kept.refl (fun _ => False) w8) nq) (fun _ _ _ e => e), hAp⟩
        have GB := GA.drewN nq
        have b9c := B9.1.b1.cell
        have r9c := R9.rd.c0
        go_wp2_with (first | (go_at_call 21; refine SZ.mono ?_; rintro e w2 ⟨rfl, rfl⟩) | (go_at_call 112; refine (refuse_any _ _ _).mono ?_; rintro e w2 ⟨rfl, rfl⟩))
        refine leaves_cons (f := 108) (args := #[.pointer (some ⟨b, 0, none⟩), .pointer (some ⟨b + 4, 0, none⟩), .pointer (some ⟨b + 1, 0, none⟩), .pointer (some ⟨b + 2, 0, none⟩), .pointer (some ⟨b + 3, 0, none⟩)]) (by simp) (by simp [go_sem]) ?_
        refine (catch_bad _ base b r p ev7 nb fb s _ l rest (hrest'.symm ▸ R9) _ _ _ B9.1 B9.2 6 0).mono ?_
        rintro e u' w9 ⟨rfl, rfl, ev9, Bk9, E9, Bx9, K9⟩
        have z2 := Bx9.b2.cell
        have z3 := Bx9.b3.cell
        have z4 := Bx9.b4.cell
        have GG : Grew (fun k => k = r) p nb fb w ev w9 ev9 := Grew.mono (X := fun k => k = r ∨ (b ≤ k ∧ k ≤ b + 4)) (Grew.trans GB ⟨Kept.mono K9 (fun k _ e => e.elim Or.inr (fun e => Or.inl (Or.inr e))), Or.inl E9⟩) (fun k hk e => e.elim id (fun e => by omega))
        clear K9 Bx9
        refine ⟨.tuple #[.int .i64 0, .int .i64 (6 : Int), .int .i64 (0 : Int)], ?_, ?_⟩
        · simp [results, Try.results66, go_sem, z2, z3, z4]
        · rw [hpw]
          exact ⟨rfl, ev9, Bk9, GG⟩
      · have hpw : pWhole s l = (n, 0, 0, l') := by simp [pWhole, hx, hks, hm]
        have d2 : ¬ (150 : Int) < (l'.length : Int) := by omega
        go_quiet (fail)
        have R9 := R8.drewN nq
        have SZ := size_in _ base p ev7 nb fb l' R9.bk
        have B9 : Boxes (w8.drewN nq) b r l.length (.int .i64 (n : Int)) (.int .i64 0) (.int .i64 0) := B8.kept (Kept.drewN (Kept.refl (fun _ => False) w8) nq) (fun _ _ _ e => e)
        have GB := GA.drewN nq
        have b9c := B9.b1.cell
        have r9c := R9.rd.c0
        have c2 := B9.b2.cell
        have c3 := B9.b3.cell
        have c4 := B9.b4.cell
        have f2 := B9.b2.frozen
        have f3 := B9.b3.frozen
        have f4 := B9.b4.frozen
        go_wp2_with (first | (go_at_call 21; refine SZ.mono ?_; rintro e w2 ⟨rfl, rfl⟩))
        have B10 := B9.put (.int .i64 (n : Int)) (.int .i64 0) (.int .i64 0)
        have R10 := ((R9.setOther (x := b + 1) (by omega) (by omega) (by omega) (by omega) (fun e => by have := hAp.e _ e; omega) 0 (.int .i64 (n : Int))).setOther (x := b + 2) (by omega) (by omega) (by omega) (by omega) (fun e => by have := hAp.e _ e; omega) 0 (.int .i64 0)).setOther (x := b + 3) (by omega) (by omega) (by omega) (by omega) (fun e => by have := hAp.e _ e; omega) 0 (.int .i64 0)
        have GC := ((GB.setCell (x := b + 1) (o := 0) (Or.inr ⟨by omega, by omega⟩) (.int .i64 (n : Int))).setCell (x := b + 2) (o := 0) (Or.inr ⟨by omega, by omega⟩) (.int .i64 0)).setCell (x := b + 3) (o := 0) (Or.inr ⟨by omega, by omega⟩) (.int .i64 0)
        clear c2 c3 c4 f2 f3 f4 b9c r9c SZ
        generalize ((((w8.drewN nq).setCell ⟨b + 1, 0, none⟩ (.int .i64 (n : Int))).setCell ⟨b + 2, 0, none⟩ (.int .i64 0)).setCell ⟨b + 3, 0, none⟩ (.int .i64 0)) = w10 at B10 R10 GC ⊢
        refine leaves_cons (f := 108) (args := #[.pointer (some ⟨b, 0, none⟩), .pointer (some ⟨b + 4, 0, none⟩), .pointer (some ⟨b + 1, 0, none⟩), .pointer (some ⟨b + 2, 0, none⟩), .pointer (some ⟨b + 3, 0, none⟩)]) (by simp) (by simp [go_sem]) ?_
        refine (catch_idle _ _ _ _ _ w10).mono ?_
        rintro e u' w11 ⟨rfl, rfl, rfl⟩
        have K11 : Kept0 w10 (w10.alloc (.cells #[.int .i64 0, .int .i64 0] 181)) := Kept.alloc (Kept.refl _ w10) _
        have P11 := R10.kept0 K11
        have Bx9 := B10.kept K11 (fun _ _ _ e => e)
        have GD : Grew (fun k => k = r) p nb fb w ev _ ev7 := (GC.trans (P11.2.mono (fun _ _ e => Or.inl e))).mono (fun k hk e => e.elim id (fun e => by omega))
        generalize w10.alloc (.cells #[.int .i64 0, .int .i64 0] 181) = w11 at P11 Bx9 GD ⊢
        have z2 := Bx9.b2.cell
        have z3 := Bx9.b3.cell
        have z4 := Bx9.b4.cell
        refine ⟨.tuple #[.int .i64 (n : Int), .int .i64 0, .int .i64 0], ?_, ?_⟩
        · simp [results, Try.results66, go_sem, z2, z3, z4]
        · rw [hpw]
          exact ⟨rfl, ev7, P11.1.bk, GD⟩

theorem made_reader (w : World) (base p : Nat) (ev : Value) (nb fb : Nat) (l : List Tm) (h : Bk w base p ev nb fb l) (s : ByteArray) (hs : s.size ≤ 400) (hbase : base ≤ w.heap.size) :
    RB (w.alloc (.cells #[.pointer (some ⟨p, 0, none⟩), .string s, .int .i64 0] 107)) base w.heap.size p ev nb fb s 0 l := by
  have K : Kept0 w (w.alloc (.cells #[.pointer (some ⟨p, 0, none⟩), .string s, .int .i64 0] 107)) := Kept.alloc (Kept.refl _ w) _
  obtain ⟨Dn, n1, _, _⟩ := h.nums
  obtain ⟨Df, f1, _, _⟩ := h.fsts
  have h2 := h.bank.lt
  have h3 := World.ownsMap.lt n1
  have h4 := World.ownsMap.lt f1
  refine ⟨⟨World.rowIs.congr (made_row w #[.pointer (some ⟨p, 0, none⟩), .string s, .int .i64 0] 107) ?_, by omega, hs⟩, h.kept0 K, by omega, by omega, by omega, ?_, Nat.le_trans hbase K.size⟩
  · intro j hj
    have hj' : j < 3 := hj
    rcases (by omega : j = 0 ∨ j = 1 ∨ j = 2) with rfl | rfl | rfl <;> rfl
  · intro e
    rcases h.rows.2 with ⟨e2, h0⟩ | ⟨b, cap, cur, e2, hb, e2h⟩
    · rw [e2] at e; simp [Value.ownBlock] at e
    · rw [e2] at e
      simp [Value.ownBlock] at e
      have := right_lt e2h.1
      omega

set_option maxHeartbeats 1000000 in
theorem tRead_in (w : World) (base p : Nat) (ev : Value) (nb fb : Nat) (l : List Tm) (h : Bk w base p ev nb fb l) (hl : l.length ≤ 150) (hbase : base ≤ w.heap.size) (s : ByteArray) :
    Calls Try.prog 16 #[.pointer (some ⟨p, 0, none⟩), .string s] w fun e w' => e = .returned (.tuple #[.int .i64 ((pRead s l).1 : Int), .int .i64 ((pRead s l).2.1 : Int), .int .i64 ((pRead s l).2.2.1 : Int)]) ∧
      ∃ ev', Bk w' base p ev' nb fb (pRead s l).2.2.2 ∧ Kept (BFoot p ev nb fb) w w' ∧ (ev'.ownBlock = ev.ownBlock ∨ ∀ k, ev'.ownBlock = some k → w.heap.size ≤ k) := by
  by_cases hs : 400 < s.size
  · have hp : pRead s l = (0, 1, 0, l) := by simp [pRead, hs]
    have d : (400 : Int) < (s.size : Int) := by omega
    go_enter Try.func16, Try.ntmps16
    go_wp2
    refine ⟨rfl, .tuple #[.int .i64 0, .int .i64 1, .int .i64 0], by simp [results, Try.results16], ?_⟩
    rw [hp]
    exact ⟨rfl, ev, h, Kept.refl _ w, Or.inl rfl⟩
  · have hp : pRead s l = pWhole s l := by simp [pRead, hs]
    have d : ¬ (400 : Int) < (s.size : Int) := by omega
    have R := made_reader w base p ev nb fb l h s (by omega) hbase
    have W := whole_in _ base w.heap.size p ev nb fb s l R hl
    go_enter Try.func16, Try.ntmps16
    go_wp2_with (go_at_call 66; refine W.mono ?_; rintro e w2 ⟨rfl, ev2, B2, G2⟩)
    refine ⟨rfl, .tuple #[.int .i64 ((pWhole s l).1 : Int), .int .i64 ((pWhole s l).2.1 : Int), .int .i64 ((pWhole s l).2.2.1 : Int)], by simp [results, Try.results16], ?_⟩
    rw [hp]
    refine ⟨rfl, ev2, B2, ?_, ?_⟩
    · have K1 : Kept (BFoot p ev nb fb) w (w.alloc (.cells #[.pointer (some ⟨p, 0, none⟩), .string s, .int .i64 0] 107)) := Kept.alloc (Kept.refl _ w) _
      have h1 := G2.kept
      refine ⟨h1.os.trans K1.os, h1.tape.trans K1.tape, h1.output.trans K1.output, Nat.le_trans K1.size h1.size, fun k hk hs => (h1.block k (Nat.lt_of_lt_of_le hk K1.size) ?_).trans (K1.block k hk hs)⟩
      rintro (e | e)
      · omega
      · exact hs e
    · rcases G2.row with e | e
      · exact Or.inl e
      · refine Or.inr fun k hk => ?_
        have := e k hk
        simp at this
        omega

end Go.Proofs.Ytinphcnknionmaa

namespace Go.Proofs.Ytinphcnknionmaa
open Go.RowKit Go.Maps

/-- A term that is at most f high. -/
def Hgt (l : List Tm) : Nat → Nat → Prop
  | 0, _ => False
  | f + 1, n => ∃ t, l[n]? = some t ∧ ∀ a ∈ t.args, Hgt l f a

theorem Hgt.lt {l : List Tm} {f n : Nat} (h : Hgt l f n) : n < l.length := by
  cases f with
  | zero => exact h.elim
  | succ f =>
    obtain ⟨t, ht, _⟩ := h
    exact (List.getElem?_eq_some_iff.1 ht).1
theorem Hgt.up {l : List Tm} : ∀ {f n : Nat}, Hgt l f n → Hgt l (f + 1) n
  | 0, _, h => h.elim
  | _ + 1, _, ⟨t, ht, ha⟩ => ⟨t, ht, fun a h => (ha a h).up⟩
theorem Hgt.mono {l : List Tm} {f g n : Nat} (h : Hgt l f n) (hfg : f ≤ g) : Hgt l g n := by
  induction hfg with
  | refl => exact h
  | step _ ih => exact ih.up
theorem Hgt.prefix {l l' : List Tm} (hl : l <+: l') : ∀ {f n : Nat}, Hgt l f n → Hgt l' f n
  | 0, _, h => h.elim
  | _ + 1, _, ⟨t, ht, ha⟩ => ⟨t, by
      obtain ⟨r, rfl⟩ := hl
      rw [List.getElem?_append_left (List.getElem?_eq_some_iff.1 ht).1]
      exact ht, fun a h => (ha a h).prefix hl⟩

/-- All are at most 13 high. -/
def Hs (l : List Tm) : Prop := ∀ n, n < l.length → Hgt l 13 n

theorem nix_get {l : List Tm} {t : Tm} {i : Nat} (h : nix l t = some i) : l[i]? = some t := by
  obtain ⟨hi, hp, _⟩ := List.findIdx?_eq_some_iff_getElem.1 h
  rw [List.getElem?_eq_getElem hi, of_decide_eq_true hp]
theorem addN_at (l : List Tm) (t : Tm) : (addL l t)[addN l t]? = some t := by
  unfold addL addN
  cases h : nix l t with
  | some i => simpa using nix_get h
  | none => simp

theorem Hs.add {l : List Tm} (h : Hs l) {t : Tm} {g : Nat} (hg : g ≤ 12) (ha : ∀ a ∈ t.args, Hgt l g a) : Hs (addL l t) ∧ Hgt (addL l t) (g + 1) (addN l t) := by
  have h1 : Hgt (addL l t) (g + 1) (addN l t) := ⟨t, addN_at l t, fun a x => (ha a x).prefix (addL_prefix l t)⟩
  refine ⟨fun n hn => ?_, h1⟩
  by_cases hl : n < l.length
  · exact (h n hl).prefix (addL_prefix l t)
  · have : n = addN l t := by
      unfold addL at hn
      cases hx : nix l t with
      | some i => simp [hx] at hn; omega
      | none => simp [hx] at hn; simp [addN, hx]; omega
    rw [this]
    exact h1.mono (by omega)

theorem p_hs (s : ByteArray) : ∀ f : Nat,
    (∀ above i l n k l', i ≤ s.size → Hs l → pTerm s f above i l = .ok n k l' → Hs l' ∧ above ≤ 12 ∧ Hgt l' (13 - above) n) ∧
    (∀ above i l xs x k l', i ≤ s.size → Hs l → (∀ a ∈ xs, Hgt l (13 - above) a) → pArgs s f above i l xs = .ok x k l' → Hs l' ∧ ∀ a ∈ x, Hgt l' (13 - above) a)
  | 0 => ⟨fun _ _ _ _ _ _ _ _ e => (by rw [pTerm] at e; cases e), fun _ _ _ _ _ _ _ _ _ _ e => (by rw [pArgs] at e; cases e)⟩
  | f + 1 => by
    obtain ⟨IT, IA⟩ := p_hs s f
    obtain ⟨GT, GA⟩ := p_grows s f
    constructor
    · intro above i l n k l' hi hs e
      rw [pTerm] at e
      split at e
      · cases e
      · have h4 := bl_le (nmE_le hi)
        split at e
        · cases e
        · next ha =>
          split at e
          · next hst =>
            have h6 := behind_le (c := 40) h4
            split at e
            · cases e
            · next xs k2 l2 hx =>
              obtain ⟨A1, A2⟩ := IA _ _ _ _ _ _ _ h6 hs (by simp) hx
              unfold pEnd at e
              split at e
              · injection e with e1 e2 e3
                subst e1 e2 e3
                obtain ⟨B1, B2⟩ := A1.add (t := ⟨s.extract i (nmE s i), xs⟩) (g := 13 - (above + 1)) (by omega) A2
                exact ⟨B1, by omega, by rw [show 13 - above = 13 - (above + 1) + 1 from by omega]; exact B2⟩
              · cases e
          · unfold pEnd at e
            split at e
            · injection e with e1 e2 e3
              subst e1 e2 e3
              obtain ⟨B1, B2⟩ := hs.add (t := ⟨s.extract i (nmE s i), []⟩) (g := 13 - (above + 1)) (by omega) (by simp)
              exact ⟨B1, by omega, by rw [show 13 - above = 13 - (above + 1) + 1 from by omega]; exact B2⟩
            · cases e
    · intro above i l xs x k l' hi hs hxs e
      rw [pArgs] at e
      split at e
      · cases e
      · split at e
        · cases e
        · split at e
          · cases e
          · next n k2 l2 hx =>
            obtain ⟨A1, _, A2⟩ := IT _ _ _ _ _ _ hi hs hx
            obtain ⟨B0, B1⟩ := GT above i l hi
            obtain ⟨B2, B3⟩ := B1 n k2 l2 hx
            rw [hx] at B0
            have hxs2 : ∀ a ∈ xs ++ [n], Hgt l2 (13 - above) a := by
              intro a ha
              rcases List.mem_append.1 ha with ha | ha
              · exact (hxs a ha).prefix B0
              · rw [List.mem_singleton.1 ha]; exact A2
            split at e
            · injection e with e1 e2 e3
              subst e1 e2 e3
              exact ⟨A1, hxs2⟩
            · split at e
              · exact IA _ _ _ _ _ _ _ (behind_le B3) A1 hxs2 e
              · cases e

/-- f 0, f 1 .. with commas between, up to k. -/
def joinTo (f : Nat → List UInt8) : Nat → List UInt8
  | 0 => []
  | k + 1 => joinTo f k ++ ((if k = 0 then [] else [44]) ++ f k)
theorem joinTo_congr {f g : Nat → List UInt8} : ∀ {k : Nat}, (∀ j, j < k → f j = g j) → joinTo f k = joinTo g k
  | 0, _ => rfl
  | k + 1, h => by rw [joinTo, joinTo, joinTo_congr (fun j hj => h j (by omega)), h k (by omega)]

/-- What a term shows. -/
def shw (l : List Tm) : Nat → Nat → List UInt8
  | 0, _ => []
  | f + 1, n => match l[n]? with
    | none => []
    | some t => t.name.data.toList ++ (if t.args.length = 0 then [] else 40 :: (joinTo (fun j => shw l f (t.arg j)) t.args.length ++ [41]))

theorem arg_mem {t : Tm} {j : Nat} (h : j < t.args.length) : t.arg j ∈ t.args := by
  unfold Tm.arg
  rw [List.getD_eq_getElem?_getD, List.getElem?_eq_getElem h]
  simp

theorem shw_up {l : List Tm} : ∀ {f n : Nat}, Hgt l f n → shw l (f + 1) n = shw l f n
  | 0, _, h => h.elim
  | f + 1, n, ⟨t, ht, ha⟩ => by
    rw [shw, shw, ht]
    simp only
    rw [joinTo_congr (fun j hj => shw_up (ha _ (arg_mem hj)))]
theorem shw_mono {l : List Tm} {f g n : Nat} (h : Hgt l f n) (hfg : f ≤ g) : shw l g n = shw l f n := by
  induction hfg with
  | refl => rfl
  | step hle ih => rw [shw_up (h.mono hle), ih]
theorem shw_prefix {l l' : List Tm} (hl : l <+: l') : ∀ {f n : Nat}, Hgt l f n → shw l' f n = shw l f n
  | 0, _, h => h.elim
  | f + 1, n, ⟨t, ht, ha⟩ => by
    have ht' : l'[n]? = some t := by
      obtain ⟨r, rfl⟩ := hl
      rw [List.getElem?_append_left (List.getElem?_eq_some_iff.1 ht).1]
      exact ht
    rw [shw, shw, ht, ht']
    simp only
    rw [joinTo_congr (fun j hj => shw_prefix hl (ha _ (arg_mem hj)))]

theorem joinTo_len {f : Nat → List UInt8} {M : Nat} : ∀ {k : Nat}, (∀ j, j < k → (f j).length ≤ M) → (joinTo f k).length ≤ k * (M + 1)
  | 0, _ => by simp [joinTo]
  | k + 1, h => by
    rw [joinTo]
    have h1 := joinTo_len (k := k) (fun j hj => h j (by omega))
    have h2 := h k (by omega)
    rw [List.length_append, List.length_append, Nat.succ_mul]
    have h3 : (if k = 0 then ([] : List UInt8) else [44]).length ≤ 1 := by split <;> simp
    omega

theorem shw_len {l : List Tm} (hok : ∀ t ∈ l, t.ok) : ∀ (f n : Nat), (shw l f n).length ≤ 12 * 5 ^ f
  | 0, n => by simp [shw]
  | f + 1, n => by
    rw [shw]
    cases ht : l[n]? with
    | none => simp
    | some t =>
      simp only
      have hk := hok t (List.mem_of_getElem? ht)
      have h1 : t.name.data.toList.length ≤ 6 := by simpa using hk.name
      have hp : 1 ≤ 5 ^ f := Nat.one_le_pow _ _ (by omega)
      rw [List.length_append, Nat.pow_succ]
      split
      · rw [List.length_nil]; omega
      · have h2 := joinTo_len (f := fun j => shw l f (t.arg j)) (k := t.args.length) (fun j _ => shw_len hok f (t.arg j))
        have h3 : t.args.length * (12 * 5 ^ f + 1) ≤ 4 * (12 * 5 ^ f + 1) := Nat.mul_le_mul_right _ hk.args
        rw [List.length_cons, List.length_append]
        simp only [List.length_cons, List.length_nil]
        omega

/-- While the program writes: k args are written. -/
def accW (f : Nat → List UInt8) (k : Nat) : List UInt8 := if k = 0 then [] else 40 :: joinTo f k
def signW (k : Nat) : Nat := if k = 0 then 40 else 44
theorem accW_step (f : Nat → List UInt8) (k : Nat) : accW f (k + 1) = accW f k ++ (UInt8.ofNat (signW k) :: f k) := by
  unfold accW signW
  by_cases h : k = 0
  · subst h; simp [joinTo]
  · simp [h, joinTo]

end Go.Proofs.Ytinphcnknionmaa
