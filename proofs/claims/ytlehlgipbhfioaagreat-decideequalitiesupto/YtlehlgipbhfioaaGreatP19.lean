/- Package term: whole, Read. Package term: how high terms are, and what they show, plainly. strings.Builder at this program: copyCheck, WriteByte, WriteString. strings.Builder's String at this program, laid by the kit's own tool, in plain words. Package term: write, Show. Package term: Term. Package close: termsOf. The plain mathematics of package close: the first uses. No Go here. The document's reader: its small functions. The document's lists of terms: same, clashes. The document's lists of terms: clashes, put. -/
import Derived.Test.YtlehlgipbhfioaaGreatTermP
import Derived.Test.YtlehlgipbhfioaaGreatP00
import Derived.Lib.FrozenHead2
import Derived.Lib.OthersKept
import Derived.Lib.Builder
import Derived.Shelf.Strings.BuilderK
import Derived.Test.YtlehlgipbhfioaaGreatProg
import Derived.Test.YtlehlgipbhfioaaGreatP01
import Derived.Test.YtlehlgipbhfioaaGreatP15
import Derived.Test.YtlehlgipbhfioaaGreatP09
import Derived.Deep.RegionWith
namespace Go.Proofs.YtlehlgipbhfioaaGreat
open Go.RowKit Go.Maps

/-- What a text says: number, error, place, the list behind it. -/
def pWhole (s : ByteArray) (l : List Tm) : Nat × Nat × Nat × List Tm := match pTerm s (2 * s.size + 1) 0 (bl s 0) l with
  | .bad c q _ => (0, c, q, l)
  | .ok n k l' => if k < s.size then (0, 2, k, l) else if 150 < l'.length then (0, 6, 0, l) else (n, 0, 0, l')
def pRead (s : ByteArray) (l : List Tm) : Nat × Nat × Nat × List Tm := if 400 < s.size then (0, 1, 0, l) else pWhole s l

/-- Fuel beyond what is wanted says the same. -/
theorem p_fuel (s : ByteArray) : ∀ f : Nat, (∀ above i l, i ≤ s.size → 2 * (s.size - i) + 1 ≤ f → pTerm s (f + 1) above i l = pTerm s f above i l) ∧
    (∀ above i l xs, i ≤ s.size → 2 * (s.size - i) + 2 ≤ f → pArgs s (f + 1) above i l xs = pArgs s f above i l xs)
  | 0 => ⟨fun _ _ _ _ h => absurd h (by omega), fun _ _ _ _ _ h => absurd h (by omega)⟩
  | f + 1 => by
    obtain ⟨IT, IA⟩ := p_fuel s f
    obtain ⟨GT, _⟩ := p_grows s f
    constructor
    · intro above i l hi hf
      rw [pTerm, pTerm]
      cases hb : badNm s i with
      | true => rfl
      | false =>
        have h1 := nm_lt hb
        have h2 := nmE_le hi
        have h3 := bl_ge s (nmE s i)
        have h4 := bl_le h2
        by_cases ha : 12 < above
        · simp [ha]
        · cases hs : stands s (bl s (nmE s i)) 40 with
          | false => simp [ha]
          | true =>
            have h5 := behind_lt hs
            have h6 := behind_le (c := 40) h4
            rw [IA (above + 1) _ l [] h6 (by omega)]
    · intro above i l xs hi hf
      rw [pArgs, pArgs]
      by_cases h1 : i = s.size
      · simp [h1]
      · by_cases h4 : xs.length = 4
        · simp [h4]
        · rw [if_neg h1, if_neg h1, if_neg h4, if_neg h4, IT above i l hi (by omega)]
          cases hx : pTerm s f above i l with
          | bad c q l' => rfl
          | ok n k l' =>
            obtain ⟨B2, B3⟩ := (GT above i l hi).2 n k l' hx
            simp only
            cases h41 : stands s k 41 with
            | true => rfl
            | false =>
              cases h44 : stands s k 44 with
              | false => rfl
              | true =>
                have h5 := behind_lt h44
                have h6 := behind_le (c := 44) B3
                simp only [Bool.false_eq_true, if_false, if_true]
                exact IA above _ l' (xs ++ [n]) h6 (by omega)

/-- The world with whole's boxes. -/
theorem boxes_made (w : World) (r n0 : Nat) : Boxes (((((w.alloc (.cells #[.pointer (some ⟨r, 0, none⟩)] 132)).alloc (.cells #[.int .i64 0] 3)).alloc (.cells #[.int .i64 0] 37)).alloc (.cells #[.int .i64 0] 3)).alloc (.cells #[.int .i64 (n0 : Int)] 3)) w.heap.size r n0 (.int .i64 0) (.int .i64 0) (.int .i64 0) := by
  have one : ∀ (w : World) (v : Value) (ty : TypeId), Box (w.alloc (.cells #[v] ty)) w.heap.size ty v := fun w v ty => World.rowIs.congr (made_row w #[v] ty) (fun j hj => by
    have : j = 0 := by simp at hj; omega
    subst this; rfl)
  have keep : ∀ {w : World} {b : Nat} {v : Value} {ty : TypeId} (o : Obj), Box w b ty v → Box (w.alloc o) b ty v := fun {w b v ty} o h => h.of_block ((Kept.alloc (Kept.refl (fun _ => False) w) o).block b (World.rowIs.lt h) (fun e => e))
  have s1 : (w.alloc (.cells #[.pointer (some ⟨r, 0, none⟩)] 132)).heap.size = w.heap.size + 1 := by simp
  have s2 : ((w.alloc (.cells #[.pointer (some ⟨r, 0, none⟩)] 132)).alloc (.cells #[.int .i64 0] 3)).heap.size = w.heap.size + 2 := by simp
  have s3 : (((w.alloc (.cells #[.pointer (some ⟨r, 0, none⟩)] 132)).alloc (.cells #[.int .i64 0] 3)).alloc (.cells #[.int .i64 0] 37)).heap.size = w.heap.size + 3 := by simp
  have s4 : ((((w.alloc (.cells #[.pointer (some ⟨r, 0, none⟩)] 132)).alloc (.cells #[.int .i64 0] 3)).alloc (.cells #[.int .i64 0] 37)).alloc (.cells #[.int .i64 0] 3)).heap.size = w.heap.size + 4 := by simp
  exact ⟨keep _ (keep _ (keep _ (keep _ (one w _ _)))), keep _ (keep _ (keep _ (s1 ▸ one _ (.int .i64 0) 3))), keep _ (keep _ (s2 ▸ one _ (.int .i64 0) 37)), keep _ (s3 ▸ one _ (.int .i64 0) 3), s4 ▸ one _ (.int .i64 (n0 : Int)) 3⟩

theorem Boxes.grew {w5 w' : World} {b r p nb fb n0 : Nat} {ev ev' v2 v3 v4 : Value} (B : Boxes w5 b r n0 v2 v3 v4) (A : Apart b r p nb fb ev) (hs : w5.heap.size = b + 5) (G : Grew (fun k => k = r) p nb fb w5 ev w' ev') : Boxes w' b r n0 v2 v3 v4 ∧ Apart b r p nb fb ev' := by
  refine ⟨B.kept G.kept ?_, ⟨A.r, A.p, A.n, A.f, fun k e => ?_⟩⟩
  · rintro k h1 h2 (e | e)
    · have := A.r; omega
    · exact A.foot k h1 h2 e
  · rcases G.row with e2 | e2
    · exact A.e k (e2 ▸ e)
    · have := e2 k e; omega

theorem Boxes.put1 {w : World} {b r n0 : Nat} {v2 v3 v4 : Value} (h : Boxes w b r n0 v2 v3 v4) (u2 : Value) : Boxes (w.setCell ⟨b + 1, 0, none⟩ u2) b r n0 u2 v3 v4 :=
  ⟨h.b1.other (by omega) _ _, h.b2.set u2, h.b3.other (by omega) _ _, h.b4.other (by omega) _ _, h.b5.other (by omega) _ _⟩

set_option maxHeartbeats 2000000 in
theorem whole_in (w : World) (base r p : Nat) (ev : Value) (nb fb : Nat) (s : ByteArray) (l : List Tm) (h : RB w base r p ev nb fb s 0 l) (hl : l.length ≤ 150) :
    Calls Tryz.prog 27 #[.pointer (some ⟨r, 0, none⟩)] w fun e w' => e = .returned (.tuple #[.int .i64 ((pWhole s l).1 : Int), .int .i64 ((pWhole s l).2.1 : Int), .int .i64 ((pWhole s l).2.2.1 : Int)]) ∧
      ∃ ev', Bk w' base p ev' nb fb (pWhole s l).2.2.2 ∧ Grew (fun k => k = r) p nb fb w ev w' ev' := by
  have hmf : ∀ (fn : Fn) (first cap : Array Value) (w : World), (Instr.makeFunc fn first cap).run Tryz.prog w = .ok (.func fn first cap) w := fun _ _ _ _ => rfl
  have hsm := h.rd.small
  have BM := boxes_made w r l.length
  have K4 : Kept0 w ((((w.alloc (.cells #[.pointer (some ⟨r, 0, none⟩)] 132)).alloc (.cells #[.int .i64 0] 3)).alloc (.cells #[.int .i64 0] 37)).alloc (.cells #[.int .i64 0] 3)) := (((Kept.refl _ w).alloc _ |>.alloc _).alloc _).alloc _
  have K5 : Kept0 w (((((w.alloc (.cells #[.pointer (some ⟨r, 0, none⟩)] 132)).alloc (.cells #[.int .i64 0] 3)).alloc (.cells #[.int .i64 0] 37)).alloc (.cells #[.int .i64 0] 3)).alloc (.cells #[.int .i64 (l.length : Int)] 3)) := K4.alloc _
  have R4 := (h.kept0 K4).1
  have P5 := h.kept0 K5
  have S5 : (((((w.alloc (.cells #[.pointer (some ⟨r, 0, none⟩)] 132)).alloc (.cells #[.int .i64 0] 3)).alloc (.cells #[.int .i64 0] 37)).alloc (.cells #[.int .i64 0] 3)).alloc (.cells #[.int .i64 (l.length : Int)] 3)).heap.size = w.heap.size + 5 := by simp
  have SIZE := size_in _ base p ev nb fb l R4.bk
  have rc4 := R4.rd.c0
  have Ap : Apart w.heap.size r p nb fb ev := by
    obtain ⟨Dn, n1, _, _⟩ := h.bk.nums
    obtain ⟨Df, f1, _, _⟩ := h.bk.fsts
    refine ⟨h.rd.row.lt, h.bk.bank.lt, World.ownsMap.lt n1, World.ownsMap.lt f1, fun k e => Or.inl ?_⟩
    rcases h.bk.rows.2 with ⟨e2, h0⟩ | ⟨b, cap, cur, e2, hb, e2h⟩
    · rw [e2] at e; simp [Value.ownBlock] at e
    · rw [e2] at e
      simp [Value.ownBlock] at e
      have := right_lt e2h.1
      omega
  go_enter_defers Tryz.func27, Tryz.ntmps27
  go_wp2_with (first | (go_at_call 35; refine SIZE.mono ?_; rintro e w2 ⟨rfl, rfl⟩))
  clear rc4 R4 SIZE K4
  rw [show w.heap.size + 1 + 1 + 1 + 1 = w.heap.size + 4 from rfl, show w.heap.size + 1 + 1 + 1 = w.heap.size + 3 from rfl, show w.heap.size + 1 + 1 = w.heap.size + 2 from rfl]
  generalize (((((w.alloc (.cells #[.pointer (some ⟨r, 0, none⟩)] 132)).alloc (.cells #[.int .i64 0] 3)).alloc (.cells #[.int .i64 0] 37)).alloc (.cells #[.int .i64 0] 3)).alloc (.cells #[.int .i64 (l.length : Int)] 3)) = w5 at BM P5 S5 K5 ⊢
  obtain ⟨R5, G5⟩ := P5
  have hbs := G5.kept.size
  generalize hb : w.heap.size = b at *
  have BL := blanks_in w5 r _ s 0 R5.rd
  have hbl := bl_le (s := s) (i := 0) (by omega)
  cases hx : pTerm s (2 * s.size + 1) 0 (bl s 0) l with
  | bad c q l' =>
    have hpre := ((p_grows s (2 * s.size + 1)).1 0 (bl s 0) l hbl).1
    rw [hx] at hpre
    obtain ⟨rest, hrest⟩ := hpre
    have hrest' : l ++ rest = l' := hrest
    go_wp2_with (first | (go_at_call 58; refine BL.mono ?_; rintro e w6 ⟨rfl, R6, K6⟩; have P6 := R5.read K6 R6; have B6 := BM.grew Ap S5 P6.2; have bc6 := B6.1.b1.cell; have T6 := at_all (2 * s.size + 1) w6 base r p ev nb fb s (bl s 0) l 0 P6.1 (by omega) (by omega) (by omega); rw [hx] at T6) | (go_at_call 59; refine T6.mono ?_; rintro e w7 ⟨rfl, ev7, k7, R7, G7⟩))
    have hpw : pWhole s l = (0, c, q, l) := by simp [pWhole, hx]
    have B7 := BM.grew Ap S5 (P6.2.trans G7)
    have GA : Grew (fun k => k = r ∨ (b ≤ k ∧ k ≤ b + 4)) p nb fb w ev w7 ev7 := ((G5.trans P6.2).trans G7).mono (fun _ _ e => Or.inl e)
    refine leaves_cons (f := 56) (args := #[.pointer (some ⟨b, 0, none⟩), .pointer (some ⟨b + 4, 0, none⟩), .pointer (some ⟨b + 1, 0, none⟩), .pointer (some ⟨b + 2, 0, none⟩), .pointer (some ⟨b + 3, 0, none⟩)]) (by simp) (by simp [go_sem]) ?_
    refine (catch_bad _ base b r p ev7 nb fb s _ l rest (hrest'.symm ▸ R7) _ _ _ B7.1 B7.2 c q).mono ?_
    rintro e u' w9 ⟨rfl, rfl, ev9, Bk9, E9, Bx9, K9⟩
    have z2 := Bx9.b2.cell
    have z3 := Bx9.b3.cell
    have z4 := Bx9.b4.cell
    have GG : Grew (fun k => k = r) p nb fb w ev w9 ev9 := Grew.mono (X := fun k => k = r ∨ (b ≤ k ∧ k ≤ b + 4)) (Grew.trans GA ⟨Kept.mono K9 (fun k _ e => e.elim Or.inr (fun e => Or.inl (Or.inr e))), Or.inl E9⟩) (fun k hk e => e.elim id (fun e => by omega))
    clear K9 Bx9
    refine ⟨.tuple #[.int .i64 0, .int .i64 (c : Int), .int .i64 (q : Int)], ?_, ?_⟩
    · simp [results, Tryz.results27, go_sem, z2, z3, z4]
    · rw [hpw]
      exact ⟨rfl, ev9, Bk9, GG⟩
  | ok n k l' =>
    obtain ⟨hpre, hgr⟩ := (p_grows s (2 * s.size + 1)).1 0 (bl s 0) l hbl
    obtain ⟨hk0, hk⟩ := hgr n k l' hx
    rw [hx] at hpre
    obtain ⟨rest, hrest⟩ := hpre
    have hrest' : l ++ rest = l' := hrest
    clear hrest
    obtain ⟨hcn, hcl⟩ := (p_count s (2 * s.size + 1)).1 0 (bl s 0) l n k l' hbl hx
    go_wp2_with (first | (go_at_call 58; refine BL.mono ?_; rintro e w6 ⟨rfl, R6, K6⟩; have P6 := R5.read K6 R6; have B6 := BM.grew Ap S5 P6.2; have bc6 := B6.1.b1.cell; have T6 := at_all (2 * s.size + 1) w6 base r p ev nb fb s (bl s 0) l 0 P6.1 (by omega) (by omega) (by omega); rw [hx] at T6) | (go_at_call 59; refine T6.mono ?_; rintro e w7 ⟨rfl, ev7, R7, G7⟩; have B7 := BM.grew Ap S5 (P6.2.trans G7); have n1 := B7.1.b2.cell; have n2 := B7.1.b2.frozen))
    have hAp := B7.2
    have hr := hAp.r
    have hp := hAp.p
    have hn := hAp.n
    have hf := hAp.f
    have R8 := R7.setOther (x := b + 1) (by omega) (by omega) (by omega) (by omega) (fun e => by have := hAp.e _ e; omega) 0 (.int .i64 (n : Int))
    have B8 := B7.1.put1 (.int .i64 (n : Int))
    have GA : Grew (fun k => k = r ∨ (b ≤ k ∧ k ≤ b + 4)) p nb fb w ev (w7.setCell ⟨b + 1, 0, none⟩ (.int .i64 (n : Int))) ev7 := (((G5.trans P6.2).trans G7).mono (fun _ _ e => Or.inl e)).setCell (Or.inr ⟨by omega, by omega⟩) _
    clear n1 n2 B7 R7 G7 T6 bc6 B6 P6 R6 K6 BL hgr G5 R5 K5
    generalize w7.setCell ⟨b + 1, 0, none⟩ (.int .i64 (n : Int)) = w8 at R8 B8 GA ⊢
    have b1c := B8.b1.cell
    have rd1 := R8.rd.c1
    have rd2 := R8.rd.c2
    have rd0 := R8.rd.c0
    have sm7 := R8.bk.small
    by_cases hks : k < s.size
    · have hpw : pWhole s l = (0, 2, k, l) := by simp [pWhole, hx, hks]
      have d1 : decide ((k : Int) < s.size) = true := decide_eq_true (by omega)
      have b1d := fun m => ((B8.kept (Kept.drewN (Kept.refl (fun _ => False) w8) m) (fun _ _ _ e => e)).b1.cell)
      go_quiet (fail)
      go_wp2_with (go_at_call 60; refine (refuse_any _ _ _).mono ?_; rintro e w2 ⟨rfl, rfl⟩)
      have R9 := R8.drewN nq
      have B9 : Boxes (w8.drewN nq) b r l.length (.int .i64 (n : Int)) (.int .i64 0) (.int .i64 0) ∧ Apart b r p nb fb ev7 := ⟨B8.kept (Kept.drewN (Kept.refl (fun _ => False) w8) nq) (fun _ _ _ e => e), hAp⟩
      have GB := GA.drewN nq
      refine leaves_cons (f := 56) (args := #[.pointer (some ⟨b, 0, none⟩), .pointer (some ⟨b + 4, 0, none⟩), .pointer (some ⟨b + 1, 0, none⟩), .pointer (some ⟨b + 2, 0, none⟩), .pointer (some ⟨b + 3, 0, none⟩)]) (by simp) (by simp [go_sem]) ?_
      refine (catch_bad _ base b r p ev7 nb fb s _ l rest (hrest'.symm ▸ R9) _ _ _ B9.1 B9.2 2 k).mono ?_
      rintro e u' w9 ⟨rfl, rfl, ev9, Bk9, E9, Bx9, K9⟩
      have z2 := Bx9.b2.cell
      have z3 := Bx9.b3.cell
      have z4 := Bx9.b4.cell
      have GG : Grew (fun k => k = r) p nb fb w ev w9 ev9 := Grew.mono (X := fun k => k = r ∨ (b ≤ k ∧ k ≤ b + 4)) (Grew.trans GB ⟨Kept.mono K9 (fun k _ e => e.elim Or.inr (fun e => Or.inl (Or.inr e))), Or.inl E9⟩) (fun k hk e => e.elim id (fun e => by omega))
      clear K9 Bx9
      refine ⟨.tuple #[.int .i64 0, .int .i64 (2 : Int), .int .i64 (k : Int)], ?_, ?_⟩
      · simp [results, Tryz.results27, go_sem, z2, z3, z4]
      · rw [hpw]
        exact ⟨rfl, ev9, Bk9, GG⟩
    · have d1 : decide ((k : Int) < s.size) = false := decide_eq_false (by omega)
      by_cases hm : 150 < l'.length
      · have hpw : pWhole s l = (0, 6, 0, l) := by simp [pWhole, hx, hks, hm]
        have d2 : (150 : Int) < (l'.length : Int) := by omega
        go_quiet (fail)
        have R9 := R8.drewN nq
        have SZ := size_in _ base p ev7 nb fb l' R9.bk
        have B9 : Boxes (w8.drewN nq) b r l.length (.int .i64 (n : Int)) (.int .i64 0) (.int .i64 0) ∧ Apart b r p nb fb ev7 := ⟨B8.kept (Kept.drewN (Kept.refl (fun _ => False) w8) nq) (fun _ _ _ e => e), hAp⟩
        have GB := GA.drewN nq
        have b9c := B9.1.b1.cell
        have r9c := R9.rd.c0
        go_wp2_with (first | (go_at_call 35; refine SZ.mono ?_; rintro e w2 ⟨rfl, rfl⟩) | (go_at_call 60; refine (refuse_any _ _ _).mono ?_; rintro e w2 ⟨rfl, rfl⟩))
        refine leaves_cons (f := 56) (args := #[.pointer (some ⟨b, 0, none⟩), .pointer (some ⟨b + 4, 0, none⟩), .pointer (some ⟨b + 1, 0, none⟩), .pointer (some ⟨b + 2, 0, none⟩), .pointer (some ⟨b + 3, 0, none⟩)]) (by simp) (by simp [go_sem]) ?_
        refine (catch_bad _ base b r p ev7 nb fb s _ l rest (hrest'.symm ▸ R9) _ _ _ B9.1 B9.2 6 0).mono ?_
        rintro e u' w9 ⟨rfl, rfl, ev9, Bk9, E9, Bx9, K9⟩
        have z2 := Bx9.b2.cell
        have z3 := Bx9.b3.cell
        have z4 := Bx9.b4.cell
        have GG : Grew (fun k => k = r) p nb fb w ev w9 ev9 := Grew.mono (X := fun k => k = r ∨ (b ≤ k ∧ k ≤ b + 4)) (Grew.trans GB ⟨Kept.mono K9 (fun k _ e => e.elim Or.inr (fun e => Or.inl (Or.inr e))), Or.inl E9⟩) (fun k hk e => e.elim id (fun e => by omega))
        clear K9 Bx9
        refine ⟨.tuple #[.int .i64 0, .int .i64 (6 : Int), .int .i64 (0 : Int)], ?_, ?_⟩
        · simp [results, Tryz.results27, go_sem, z2, z3, z4]
        · rw [hpw]
          exact ⟨rfl, ev9, Bk9, GG⟩
      · have hpw : pWhole s l = (n, 0, 0, l') := by simp [pWhole, hx, hks, hm]
        have d2 : ¬ (150 : Int) < (l'.length : Int) := by omega
        go_quiet (fail)
        have R9 := R8.drewN nq
        have SZ := size_in _ base p ev7 nb fb l' R9.bk
        have B9 : Boxes (w8.drewN nq) b r l.length (.int .i64 (n : Int)) (.int .i64 0) (.int .i64 0) := B8.kept (Kept.drewN (Kept.refl (fun _ => False) w8) nq) (fun _ _ _ e => e)
        have GB := GA.drewN nq
        have b9c := B9.b1.cell
        have r9c := R9.rd.c0
        have c2 := B9.b2.cell
        have c3 := B9.b3.cell
        have c4 := B9.b4.cell
        have f2 := B9.b2.frozen
        have f3 := B9.b3.frozen
        have f4 := B9.b4.frozen
        go_wp2_with (first | (go_at_call 35; refine SZ.mono ?_; rintro e w2 ⟨rfl, rfl⟩))
        have B10 := B9.put (.int .i64 (n : Int)) (.int .i64 0) (.int .i64 0)
        have R10 := ((R9.setOther (x := b + 1) (by omega) (by omega) (by omega) (by omega) (fun e => by have := hAp.e _ e; omega) 0 (.int .i64 (n : Int))).setOther (x := b + 2) (by omega) (by omega) (by omega) (by omega) (fun e => by have := hAp.e _ e; omega) 0 (.int .i64 0)).setOther (x := b + 3) (by omega) (by omega) (by omega) (by omega) (fun e => by have := hAp.e _ e; omega) 0 (.int .i64 0)
        have GC := ((GB.setCell (x := b + 1) (o := 0) (Or.inr ⟨by omega, by omega⟩) (.int .i64 (n : Int))).setCell (x := b + 2) (o := 0) (Or.inr ⟨by omega, by omega⟩) (.int .i64 0)).setCell (x := b + 3) (o := 0) (Or.inr ⟨by omega, by omega⟩) (.int .i64 0)
        clear c2 c3 c4 f2 f3 f4 b9c r9c SZ
        generalize ((((w8.drewN nq).setCell ⟨b + 1, 0, none⟩ (.int .i64 (n : Int))).setCell ⟨b + 2, 0, none⟩ (.int .i64 0)).setCell ⟨b + 3, 0, none⟩ (.int .i64 0)) = w10 at B10 R10 GC ⊢
        refine leaves_cons (f := 56) (args := #[.pointer (some ⟨b, 0, none⟩), .pointer (some ⟨b + 4, 0, none⟩), .pointer (some ⟨b + 1, 0, none⟩), .pointer (some ⟨b + 2, 0, none⟩), .pointer (some ⟨b + 3, 0, none⟩)]) (by simp) (by simp [go_sem]) ?_
        refine (catch_idle _ _ _ _ _ w10).mono ?_
        rintro e u' w11 ⟨rfl, rfl, rfl⟩
        have K11 : Kept0 w10 (w10.alloc (.cells #[.int .i64 0, .int .i64 0] 134)) := Kept.alloc (Kept.refl _ w10) _
        have P11 := R10.kept0 K11
        have Bx9 := B10.kept K11 (fun _ _ _ e => e)
        have GD : Grew (fun k => k = r) p nb fb w ev _ ev7 := (GC.trans (P11.2.mono (fun _ _ e => Or.inl e))).mono (fun k hk e => e.elim id (fun e => by omega))
        generalize w10.alloc (.cells #[.int .i64 0, .int .i64 0] 134) = w11 at P11 Bx9 GD ⊢
        have z2 := Bx9.b2.cell
        have z3 := Bx9.b3.cell
        have z4 := Bx9.b4.cell
        refine ⟨.tuple #[.int .i64 (n : Int), .int .i64 0, .int .i64 0], ?_, ?_⟩
        · simp [results, Tryz.results27, go_sem, z2, z3, z4]
        · rw [hpw]
          exact ⟨rfl, ev7, P11.1.bk, GD⟩

theorem made_reader (w : World) (base p : Nat) (ev : Value) (nb fb : Nat) (l : List Tm) (h : Bk w base p ev nb fb l) (s : ByteArray) (hs : s.size ≤ 400) (hbase : base ≤ w.heap.size) :
    RB (w.alloc (.cells #[.pointer (some ⟨p, 0, none⟩), .string s, .int .i64 0] 86)) base w.heap.size p ev nb fb s 0 l := by
  have K : Kept0 w (w.alloc (.cells #[.pointer (some ⟨p, 0, none⟩), .string s, .int .i64 0] 86)) := Kept.alloc (Kept.refl _ w) _
  obtain ⟨Dn, n1, _, _⟩ := h.nums
  obtain ⟨Df, f1, _, _⟩ := h.fsts
  have h2 := h.bank.lt
  have h3 := World.ownsMap.lt n1
  have h4 := World.ownsMap.lt f1
  refine ⟨⟨World.rowIs.congr (made_row w #[.pointer (some ⟨p, 0, none⟩), .string s, .int .i64 0] 86) ?_, by omega, hs⟩, h.kept0 K, by omega, by omega, by omega, ?_, Nat.le_trans hbase K.size⟩
  · intro j hj
    have hj' : j < 3 := hj
    rcases (by omega : j = 0 ∨ j = 1 ∨ j = 2) with rfl | rfl | rfl <;> rfl
  · intro e
    rcases h.rows.2 with ⟨e2, h0⟩ | ⟨b, cap, cur, e2, hb, e2h⟩
    · rw [e2] at e; simp [Value.ownBlock] at e
    · rw [e2] at e
      simp [Value.ownBlock] at e
      have := right_lt e2h.1
      omega

set_option maxHeartbeats 1000000 in
theorem tRead_in (w : World) (base p : Nat) (ev : Value) (nb fb : Nat) (l : List Tm) (h : Bk w base p ev nb fb l) (hl : l.length ≤ 150) (hbase : base ≤ w.heap.size) (s : ByteArray) :
    Calls Tryz.prog 13 #[.pointer (some ⟨p, 0, none⟩), .string s] w fun e w' => e = .returned (.tuple #[.int .i64 ((pRead s l).1 : Int), .int .i64 ((pRead s l).2.1 : Int), .int .i64 ((pRead s l).2.2.1 : Int)]) ∧
      ∃ ev', Bk w' base p ev' nb fb (pRead s l).2.2.2 ∧ Kept (BFoot p ev nb fb) w w' ∧ (ev'.ownBlock = ev.ownBlock ∨ ∀ k, ev'.ownBlock = some k → w.heap.size ≤ k) := by
  by_cases hs : 400 < s.size
  · have hp : pRead s l = (0, 1, 0, l) := by simp [pRead, hs]
    have d : (400 : Int) < (s.size : Int) := by omega
    go_enter Tryz.func13, Tryz.ntmps13
    go_wp2
    refine ⟨rfl, .tuple #[.int .i64 0, .int .i64 1, .int .i64 0], by simp [results, Tryz.results13], ?_⟩
    rw [hp]
    exact ⟨rfl, ev, h, Kept.refl _ w, Or.inl rfl⟩
  · have hp : pRead s l = pWhole s l := by simp [pRead, hs]
    have d : ¬ (400 : Int) < (s.size : Int) := by omega
    have R := made_reader w base p ev nb fb l h s (by omega) hbase
    have W := whole_in _ base w.heap.size p ev nb fb s l R hl
    go_enter Tryz.func13, Tryz.ntmps13
    go_wp2_with (go_at_call 27; refine W.mono ?_; rintro e w2 ⟨rfl, ev2, B2, G2⟩)
    refine ⟨rfl, .tuple #[.int .i64 ((pWhole s l).1 : Int), .int .i64 ((pWhole s l).2.1 : Int), .int .i64 ((pWhole s l).2.2.1 : Int)], by simp [results, Tryz.results13], ?_⟩
    rw [hp]
    refine ⟨rfl, ev2, B2, ?_, ?_⟩
    · have K1 : Kept (BFoot p ev nb fb) w (w.alloc (.cells #[.pointer (some ⟨p, 0, none⟩), .string s, .int .i64 0] 86)) := Kept.alloc (Kept.refl _ w) _
      have h1 := G2.kept
      refine ⟨h1.os.trans K1.os, h1.tape.trans K1.tape, h1.output.trans K1.output, Nat.le_trans K1.size h1.size, fun k hk hs => (h1.block k (Nat.lt_of_lt_of_le hk K1.size) ?_).trans (K1.block k hk hs)⟩
      rintro (e | e)
      · omega
      · exact hs e
    · rcases G2.row with e | e
      · exact Or.inl e
      · refine Or.inr fun k hk => ?_
        have := e k hk
        simp at this
        omega

end Go.Proofs.YtlehlgipbhfioaaGreat

namespace Go.Proofs.YtlehlgipbhfioaaGreat
open Go.RowKit Go.Maps

/-- A term that is at most f high. -/
def Hgt (l : List Tm) : Nat → Nat → Prop
  | 0, _ => False
  | f + 1, n => ∃ t, l[n]? = some t ∧ ∀ a ∈ t.args, Hgt l f a

theorem Hgt.lt {l : List Tm} {f n : Nat} (h : Hgt l f n) : n < l.length := by
  cases f with
  | zero => exact h.elim
  | succ f =>
    obtain ⟨t, ht, _⟩ := h
    exact (List.getElem?_eq_some_iff.1 ht).1
theorem Hgt.up {l : List Tm} : ∀ {f n : Nat}, Hgt l f n → Hgt l (f + 1) n
  | 0, _, h => h.elim
  | _ + 1, _, ⟨t, ht, ha⟩ => ⟨t, ht, fun a h => (ha a h).up⟩
theorem Hgt.mono {l : List Tm} {f g n : Nat} (h : Hgt l f n) (hfg : f ≤ g) : Hgt l g n := by
  induction hfg with
  | refl => exact h
  | step _ ih => exact ih.up
theorem Hgt.prefix {l l' : List Tm} (hl : l <+: l') : ∀ {f n : Nat}, Hgt l f n → Hgt l' f n
  | 0, _, h => h.elim
  | _ + 1, _, ⟨t, ht, ha⟩ => ⟨t, by
      obtain ⟨r, rfl⟩ := hl
      rw [List.getElem?_append_left (List.getElem?_eq_some_iff.1 ht).1]
      exact ht, fun a h => (ha a h).prefix hl⟩

/-- All are at most 13 high. -/
def Hs (l : List Tm) : Prop := ∀ n, n < l.length → Hgt l 13 n

theorem nix_get {l : List Tm} {t : Tm} {i : Nat} (h : nix l t = some i) : l[i]? = some t := by
  obtain ⟨hi, hp, _⟩ := List.findIdx?_eq_some_iff_getElem.1 h
  rw [List.getElem?_eq_getElem hi, of_decide_eq_true hp]
theorem addN_at (l : List Tm) (t : Tm) : (addL l t)[addN l t]? = some t := by
  unfold addL addN
  cases h : nix l t with
  | some i => simpa using nix_get h
  | none => simp

theorem Hs.add {l : List Tm} (h : Hs l) {t : Tm} {g : Nat} (hg : g ≤ 12) (ha : ∀ a ∈ t.args, Hgt l g a) : Hs (addL l t) ∧ Hgt (addL l t) (g + 1) (addN l t) := by
  have h1 : Hgt (addL l t) (g + 1) (addN l t) := ⟨t, addN_at l t, fun a x => (ha a x).prefix (addL_prefix l t)⟩
  refine ⟨fun n hn => ?_, h1⟩
  by_cases hl : n < l.length
  · exact (h n hl).prefix (addL_prefix l t)
  · have : n = addN l t := by
      unfold addL at hn
      cases hx : nix l t with
      | some i => simp [hx] at hn; omega
      | none => simp [hx] at hn; simp [addN, hx]; omega
    rw [this]
    exact h1.mono (by omega)

theorem p_hs (s : ByteArray) : ∀ f : Nat,
    (∀ above i l n k l', i ≤ s.size → Hs l → pTerm s f above i l = .ok n k l' → Hs l' ∧ above ≤ 12 ∧ Hgt l' (13 - above) n) ∧
    (∀ above i l xs x k l', i ≤ s.size → Hs l → (∀ a ∈ xs, Hgt l (13 - above) a) → pArgs s f above i l xs = .ok x k l' → Hs l' ∧ ∀ a ∈ x, Hgt l' (13 - above) a)
  | 0 => ⟨fun _ _ _ _ _ _ _ _ e => (by rw [pTerm] at e; cases e), fun _ _ _ _ _ _ _ _ _ _ e => (by rw [pArgs] at e; cases e)⟩
  | f + 1 => by
    obtain ⟨IT, IA⟩ := p_hs s f
    obtain ⟨GT, GA⟩ := p_grows s f
    constructor
    · intro above i l n k l' hi hs e
      rw [pTerm] at e
      split at e
      · cases e
      · have h4 := bl_le (nmE_le hi)
        split at e
        · cases e
        · next ha =>
          split at e
          · next hst =>
            have h6 := behind_le (c := 40) h4
            split at e
            · cases e
            · next xs k2 l2 hx =>
              obtain ⟨A1, A2⟩ := IA _ _ _ _ _ _ _ h6 hs (by simp) hx
              unfold pEnd at e
              split at e
              · injection e with e1 e2 e3
                subst e1 e2 e3
                obtain ⟨B1, B2⟩ := A1.add (t := ⟨s.extract i (nmE s i), xs⟩) (g := 13 - (above + 1)) (by omega) A2
                exact ⟨B1, by omega, by rw [show 13 - above = 13 - (above + 1) + 1 from by omega]; exact B2⟩
              · cases e
          · unfold pEnd at e
            split at e
            · injection e with e1 e2 e3
              subst e1 e2 e3
              obtain ⟨B1, B2⟩ := hs.add (t := ⟨s.extract i (nmE s i), []⟩) (g := 13 - (above + 1)) (by omega) (by simp)
              exact ⟨B1, by omega, by rw [show 13 - above = 13 - (above + 1) + 1 from by omega]; exact B2⟩
            · cases e
    · intro above i l xs x k l' hi hs hxs e
      rw [pArgs] at e
      split at e
      · cases e
      · split at e
        · cases e
        · split at e
          · cases e
          · next n k2 l2 hx =>
            obtain ⟨A1, _, A2⟩ := IT _ _ _ _ _ _ hi hs hx
            obtain ⟨B0, B1⟩ := GT above i l hi
            obtain ⟨B2, B3⟩ := B1 n k2 l2 hx
            rw [hx] at B0
            have hxs2 : ∀ a ∈ xs ++ [n], Hgt l2 (13 - above) a := by
              intro a ha
              rcases List.mem_append.1 ha with ha | ha
              · exact (hxs a ha).prefix B0
              · rw [List.mem_singleton.1 ha]; exact A2
            split at e
            · injection e with e1 e2 e3
              subst e1 e2 e3
              exact ⟨A1, hxs2⟩
            · split at e
              · exact IA _ _ _ _ _ _ _ (behind_le B3) A1 hxs2 e
              · cases e

/-- f 0, f 1 .. with commas between, up to k. -/
def joinTo (f : Nat → List UInt8) : Nat → List UInt8
  | 0 => []
  | k + 1 => joinTo f k ++ ((if k = 0 then [] else [44]) ++ f k)
theorem joinTo_congr {f g : Nat → List UInt8} : ∀ {k : Nat}, (∀ j, j < k → f j = g j) → joinTo f k = joinTo g k
  | 0, _ => rfl
  | k + 1, h => by rw [joinTo, joinTo, joinTo_congr (fun j hj => h j (by omega)), h k (by omega)]

/-- What a term shows. -/
def shw (l : List Tm) : Nat → Nat → List UInt8
  | 0, _ => []
  | f + 1, n => match l[n]? with
    | none => []
    | some t => t.name.data.toList ++ (if t.args.length = 0 then [] else 40 :: (joinTo (fun j => shw l f (t.arg j)) t.args.length ++ [41]))

theorem arg_mem {t : Tm} {j : Nat} (h : j < t.args.length) : t.arg j ∈ t.args := by
  unfold Tm.arg
  rw [List.getD_eq_getElem?_getD, List.getElem?_eq_getElem h]
  simp

theorem shw_up {l : List Tm} : ∀ {f n : Nat}, Hgt l f n → shw l (f + 1) n = shw l f n
  | 0, _, h => h.elim
  | f + 1, n, ⟨t, ht, ha⟩ => by
    rw [shw, shw, ht]
    simp only
    rw [joinTo_congr (fun j hj => shw_up (ha _ (arg_mem hj)))]
theorem shw_mono {l : List Tm} {f g n : Nat} (h : Hgt l f n) (hfg : f ≤ g) : shw l g n = shw l f n := by
  induction hfg with
  | refl => rfl
  | step hle ih => rw [shw_up (h.mono hle), ih]
theorem shw_prefix {l l' : List Tm} (hl : l <+: l') : ∀ {f n : Nat}, Hgt l f n → shw l' f n = shw l f n
  | 0, _, h => h.elim
  | f + 1, n, ⟨t, ht, ha⟩ => by
    have ht' : l'[n]? = some t := by
      obtain ⟨r, rfl⟩ := hl
      rw [List.getElem?_append_left (List.getElem?_eq_some_iff.1 ht).1]
      exact ht
    rw [shw, shw, ht, ht']
    simp only
    rw [joinTo_congr (fun j hj => shw_prefix hl (ha _ (arg_mem hj)))]

theorem joinTo_len {f : Nat → List UInt8} {M : Nat} : ∀ {k : Nat}, (∀ j, j < k → (f j).length ≤ M) → (joinTo f k).length ≤ k * (M + 1)
  | 0, _ => by simp [joinTo]
  | k + 1, h => by
    rw [joinTo]
    have h1 := joinTo_len (k := k) (fun j hj => h j (by omega))
    have h2 := h k (by omega)
    rw [List.length_append, List.length_append, Nat.succ_mul]
    have h3 : (if k = 0 then ([] : List UInt8) else [44]).length ≤ 1 := by split <;> simp
    omega

theorem shw_len {l : List Tm} (hok : ∀ t ∈ l, t.ok) : ∀ (f n : Nat), (shw l f n).length ≤ 12 * 5 ^ f
  | 0, n => by simp [shw]
  | f + 1, n => by
    rw [shw]
    cases ht : l[n]? with
    | none => simp
    | some t =>
      simp only
      have hk := hok t (List.mem_of_getElem? ht)
      have h1 : t.name.data.toList.length ≤ 6 := by simpa using hk.name
      have hp : 1 ≤ 5 ^ f := Nat.one_le_pow _ _ (by omega)
      rw [List.length_append, Nat.pow_succ]
      split
      · rw [List.length_nil]; omega
      · have h2 := joinTo_len (f := fun j => shw l f (t.arg j)) (k := t.args.length) (fun j _ => shw_len hok f (t.arg j))
        have h3 : t.args.length * (12 * 5 ^ f + 1) ≤ 4 * (12 * 5 ^ f + 1) := Nat.mul_le_mul_right _ hk.args
        rw [List.length_cons, List.length_append]
        simp only [List.length_cons, List.length_nil]
        omega

/-- While the program writes: k args are written. -/
def accW (f : Nat → List UInt8) (k : Nat) : List UInt8 := if k = 0 then [] else 40 :: joinTo f k
def signW (k : Nat) : Nat := if k = 0 then 40 else 44
theorem accW_step (f : Nat → List UInt8) (k : Nat) : accW f (k + 1) = accW f k ++ (UInt8.ofNat (signW k) :: f k) := by
  unfold accW signW
  by_cases h : k = 0
  · subst h; simp [joinTo]
  · simp [h, joinTo]

end Go.Proofs.YtlehlgipbhfioaaGreat

namespace Go.Proofs.YtlehlgipbhfioaaGreat
open Go.RowKit

theorem infoByte : (Tryz.prog.info? 5).map (fun i => (i.zero, i.size, i.bytes)) = some (some (.int .u8 0), 1, 1) := by kernel_rfl

/-- What a builder leaves alone. -/
def BKept (B b : Nat) (w w' : World) : Prop := Below B w w' ∧ Lib.OthersKept 5 (some b) w w'

end Go.Proofs.YtlehlgipbhfioaaGreat

namespace Go.Proofs
open Go.Shelf
end Go.Proofs

namespace Go.Proofs.YtlehlgipbhfioaaGreat
open Go.RowKit Go.Maps

theorem Bk.blocks {w w' : World} {base p : Nat} {ev : Value} {nb fb : Nat} {l : List Tm} (h : Bk w base p ev nb fb l) (hp : w'.heap[p]? = w.heap[p]?) (hn : w'.heap[nb]? = w.heap[nb]?) (hf : w'.heap[fb]? = w.heap[fb]?) (he : ∀ k, ev.ownBlock = some k → w'.heap[k]? = w.heap[k]?) : Bk w' base p ev nb fb l := by
  obtain ⟨Dn, ⟨es, ck, n1, n2, n3, n4⟩, n5, n6⟩ := h.nums
  obtain ⟨Df, ⟨es', ck', f1, f2, f3, f4⟩, f5, f6⟩ := h.fsts
  refine ⟨h.bank.of_block hp, ⟨h.rows.1, ?_⟩, ⟨Dn, ⟨es, ck, hn.trans n1, n2, n3, n4⟩, n5, n6⟩, ⟨Df, ⟨es', ck', hf.trans f1, f2, f3, f4⟩, f5, f6⟩, h.oks, h.nodup, h.pn, h.pf, h.nf, h.ep, h.en, h.ef, h.bp, h.bn, h.bf, h.small⟩
  rcases h.rows.2 with e | ⟨b, cap, cur, e, e1, e2, e3⟩
  · exact Or.inl e
  · exact Or.inr ⟨b, cap, cur, e, e1, (he b (by rw [e]; rfl)).trans e2, e3⟩

/-- The bank lies below B. -/
structure Low (B p : Nat) (ev : Value) (nb fb : Nat) : Prop where
  p : p < B
  n : nb < B
  f : fb < B
  e : ∀ k, ev.ownBlock = some k → k < B

theorem Bk.low {w : World} {base p : Nat} {ev : Value} {nb fb : Nat} {l : List Tm} (h : Bk w base p ev nb fb l) : Low w.heap.size p ev nb fb := by
  obtain ⟨Dn, n1, _, _⟩ := h.nums
  obtain ⟨Df, f1, _, _⟩ := h.fsts
  refine ⟨h.bank.lt, World.ownsMap.lt n1, World.ownsMap.lt f1, fun k e => ?_⟩
  rcases h.rows.2 with ⟨e2, h0⟩ | ⟨b, cap, cur, e2, hb, e2h⟩
  · rw [e2] at e; simp [Value.ownBlock] at e
  · rw [e2] at e
    simp [Value.ownBlock] at e
    have := right_lt e2h.1
    omega
theorem Bk.below {w w' : World} {B base p : Nat} {ev : Value} {nb fb : Nat} {l : List Tm} (h : Bk w base p ev nb fb l) (L : Low B p ev nb fb) (hb : Below B w w') : Bk w' base p ev nb fb l :=
  h.blocks (hb.block _ L.p) (hb.block _ L.n) (hb.block _ L.f) (fun k e => hb.block k (L.e k e))

theorem BKept.refl (B b : Nat) (w : World) : BKept B b w w := ⟨Below.refl B w, Lib.OthersKept.refl _ _ w⟩
theorem BKept.trans {B b : Nat} {a c d : World} (h : BKept B b a c) (k : BKept B b c d) : BKept B b a d := ⟨h.1.trans k.1, h.2.trans k.2⟩
theorem BKept.alloc {B b : Nat} {a w : World} (h : BKept B b a w) (hB : B ≤ a.heap.size) (o : Obj) : BKept B b a (w.alloc o) := ⟨h.1.alloc (by have := h.1.size; omega) o, h.2.alloc o⟩
/-- A row that is no bytes stays. -/
theorem BKept.row {B b x : Nat} {w w' : World} {t : Tm} (h : BKept B b w w') (hx : x ≠ b) (R : Boxed w x t) : Boxed w' x t := by
  obtain ⟨cur, h1, h2, h3⟩ := R
  exact ⟨cur, h.2 x _ h1 (fun e => hx (by injection e)) (fun c fz e => by injection e with _ e; exact absurd e (by decide)), h2, h3⟩

theorem bytesN (c : Nat) (h : c < 256) : Lib.byteCells [UInt8.ofNat c] = [.int .u8 (c : Int)] := by
  simp [Lib.byteCells, Nat.mod_eq_of_lt h]
theorem bytes_app (a b : List UInt8) : Lib.byteCells (a ++ b) = Lib.byteCells a ++ Lib.byteCells b := by simp [Lib.byteCells]

theorem slice4 (x k : Nat) (h : k ≤ 4) (w : World) : (Instr.sliceAt 96 (.pointer (some ⟨x, 2, none⟩)) none (some (.int .i64 (k : Int))) none).run Tryz.prog w = .ok (.slice (some ⟨x, 2, none⟩) k 4) w := by
  rcases (by omega : k = 0 ∨ k = 1 ∨ k = 2 ∨ k = 3 ∨ k = 4) with rfl | rfl | rfl | rfl | rfl <;> kernel_rfl

theorem Boxed.arg {w : World} {b : Nat} {t : Tm} (h : Boxed w b t) {k : Nat} (hk : k < 4) : w.cell? ⟨b, 2 + k, none⟩ = some (.int .i64 (t.arg k : Int)) := by
  rw [World.rowIs.cell h (i := 2 + k) (by omega)]
  rcases (by omega : k = 0 ∨ k = 1 ∨ k = 2 ∨ k = 3) with rfl | rfl | rfl | rfl <;> rfl

theorem accW_len {f : Nat → List UInt8} {M k : Nat} (h : ∀ j, j < k → (f j).length ≤ M) : (accW f k).length ≤ 1 + k * (M + 1) := by
  unfold accW
  split
  · simp
  · have := joinTo_len h
    rw [List.length_cons]
    omega

/-- What Show answers. -/
def shwB (l : List Tm) (n : Int) : ByteArray := if inB l.length n then ⟨(shw l 13 n.toNat).toArray⟩ else ⟨#[]⟩

end Go.Proofs.YtlehlgipbhfioaaGreat

namespace Go.Proofs.YtlehlgipbhfioaaGreat
open Go.RowKit Go.Maps

def argC (l : List Nat) : List Value := l.map fun x : Nat => Value.int .i64 (x : Int)
theorem argC_len (l : List Nat) : (argC l).length = l.length := by simp [argC]
theorem argC_one (l : List Nat) : ∀ u ∈ argC l, u.oneCell' = true := by
  intro u hu
  simp [argC] at hu
  obtain ⟨a, _, rfl⟩ := hu
  rfl
theorem infoI : (Tryz.prog.info? 3).map (fun i => (i.zero, i.size, i.bytes)) = some (some (.int .i64 0), 1, 8) := by kernel_rfl

theorem argC_cells {w : World} {x : Nat} {t : Tm} (h : Boxed w x t) (h4 : t.args.length ≤ 4) : ∀ j u, (argC t.args)[j]? = some u → w.cell? ((⟨x, 2, none⟩ : Addr).add j) = some u := by
  intro j u hj
  have hlt : j < t.args.length := by
    have := (List.getElem?_eq_some_iff.1 hj).1
    rwa [argC_len] at this
  have := h.arg (k := j) (by omega)
  have e : u = .int .i64 (t.arg j : Int) := by
    simp [argC, List.getElem?_eq_getElem hlt] at hj
    rw [← hj]
    unfold Tm.arg
    rw [List.getD_eq_getElem?_getD, List.getElem?_eq_getElem hlt]
    rfl
  rw [e]
  simp only [Addr.add]
  by_cases hj0 : j = 0
  · subst hj0; simpa using this
  · simpa [hj0] using this

theorem row_form {w : World} {base : Nat} {e : TypeId} {size : Nat} {v : Value} {n : Nat} {xs : List Value} (h : w.ownsRow base e size v n xs) : ∃ a c, v = .slice a n c := by
  rcases h.2 with ⟨rfl, h0⟩ | ⟨b, cap, cur, rfl, _⟩
  · rw [h0]; exact ⟨none, 0, rfl⟩
  · exact ⟨_, cap, rfl⟩

/-- What Term answers for a term of the bank. -/
def TermAns (w : World) (t : Tm) (e : Ending) (w' : World) : Prop := ∃ v, e = .returned (.tuple #[.agg #[.string t.name, v], .bool true]) ∧ w'.ownsRow w.heap.size 3 1 v t.args.length (argC t.args) ∧ Below w.heap.size w w'

set_option maxHeartbeats 1000000 in
set_option maxRecDepth 100000 in
theorem term_out (w : World) (base p : Nat) (ev : Value) (nb fb : Nat) (l : List Tm) (h : Bk w base p ev nb fb l) (n : Int) (hi : inB l.length n = false) :
    Calls Tryz.prog 36 #[.pointer (some ⟨p, 0, none⟩), .int .i64 n] w fun e w' => e = .returned (.tuple #[.agg #[.string ⟨#[]⟩, .slice none 0 0], .bool false]) ∧ Below w.heap.size w w' := by
  have K1 : Below w.heap.size w (w.alloc (.cells #[.string ⟨#[]⟩, .slice none 0 0] 102)) := (Below.refl _ w).alloc (Nat.le_refl _) _
  have HAS := thas_in _ base p ev nb fb l (h.below h.low K1) n
  rw [hi] at HAS
  go_enter Tryz.func36, Tryz.ntmps36
  go_wp2_with (go_at_call 65; refine HAS.mono ?_; rintro e w2 ⟨rfl, rfl⟩)
  have R1 := made_row w #[.string ⟨#[]⟩, .slice none 0 0] 102
  generalize w.alloc (.cells #[.string ⟨#[]⟩, .slice none 0 0] 102) = w1 at *
  have z0 : w1.cell? ⟨w.heap.size, 0, none⟩ = some (.string ⟨#[]⟩) := World.rowIs.cell R1 (i := 0) (by simp)
  have z1 : w1.cell? ⟨w.heap.size, 1, none⟩ = some (.slice none 0 0) := World.rowIs.cell R1 (i := 1) (by simp)
  refine ⟨rfl, .tuple #[.agg #[.string ⟨#[]⟩, .slice none 0 0], .bool false], by simp [results, Tryz.results36, go_sem, z0, z1], rfl, K1⟩

set_option maxHeartbeats 1000000 in
set_option maxRecDepth 100000 in
theorem term_some (w : World) (base p : Nat) (ev : Value) (nb fb : Nat) (l : List Tm) (h : Bk w base p ev nb fb l) (n : Nat) (t : Tm) (ht : l[n]? = some t) :
    Calls Tryz.prog 36 #[.pointer (some ⟨p, 0, none⟩), .int .i64 (n : Int)] w (TermAns w t) := by
  have hnl : n < l.length := (List.getElem?_eq_some_iff.1 ht).1
  have hsm := h.small
  have hok := h.oks t (List.mem_of_getElem? ht)
  have K1 : Below w.heap.size w (w.alloc (.cells #[.string ⟨#[]⟩, .slice none 0 0] 102)) := (Below.refl _ w).alloc (Nat.le_refl _) _
  have H1 := h.below h.low K1
  have HAS := thas_in _ base p ev nb fb l H1 n
  rw [inB_nat hnl] at HAS
  have R1 := made_row w #[.string ⟨#[]⟩, .slice none 0 0] 102
  have hs1 : (w.alloc (.cells #[.string ⟨#[]⟩, .slice none 0 0] 102)).heap.size = w.heap.size + 1 := by simp
  generalize hw1 : w.alloc (.cells #[.string ⟨#[]⟩, .slice none 0 0] 102) = w1 at *
  have c0 := H1.c0
  obtain ⟨g, cap, rfl, hgc⟩ := H1.at ht
  have g0 : w1.cell? ⟨g, n * 6, none⟩ = some (.string t.name) := hgc 0 _ rfl
  have g1 := hgc 1 _ rfl
  have g2 := hgc 2 _ rfl
  have g3 := hgc 3 _ rfl
  have g4 := hgc 4 _ rfl
  have g5 := hgc 5 _ rfl
  clear hgc
  have ha4 := hok.args
  go_enter Tryz.func36, Tryz.ntmps36
  go_wp2_with (go_at_call 65; refine HAS.mono ?_; rintro e w2 ⟨rfl, rfl⟩)
  clear HAS c0 g0 g1 g2 g3 g4 g5 hw1
  have bR := boxed_row w1 t
  have hEL : (entryL t).toArray = #[.string t.name, .int .i64 (t.args.length : Int), .int .i64 (t.arg 0 : Int), .int .i64 (t.arg 1 : Int), .int .i64 (t.arg 2 : Int), .int .i64 (t.arg 3 : Int)] := rfl
  have K2 : Kept0 w1 (w1.alloc (.cells (entryL t).toArray 152)) := Kept.alloc (Kept.refl _ w1) _
  rw [hEL] at bR K2
  generalize w1.alloc (Obj.cells #[.string t.name, .int .i64 (t.args.length : Int), .int .i64 (t.arg 0 : Int), .int .i64 (t.arg 1 : Int), .int .i64 (t.arg 2 : Int), .int .i64 (t.arg 3 : Int)] 152) = w2 at *
  have R2 := World.rowIs.of_block R1 (K2.block w.heap.size (World.rowIs.lt R1) (fun e => e))
  rw [hs1] at bR
  have hs2 := K2.size
  rw [hs1] at hs2
  have y0 := bR.c0
  have y1 := bR.c1
  have SL := slice4 (w.heap.size + 1) t.args.length ha4
  have NEWS : ∀ j u, (argC t.args)[j]? = some u → w2.drew.cell? ((⟨w.heap.size + 1, 2, none⟩ : Addr).add j) = some u := argC_cells (World.rowIs.of_block bR rfl : Boxed w2.drew (w.heap.size + 1) t) ha4
  obtain ⟨i0, hi0, hz0, hz1, hz2⟩ := info_parts infoI
  go_region_law (refine step_append_here rfl (.const (.slice none 0 0)) (.tmp 24) 39 rfl w.heap.size 3 i0 _ 1 8 Tryz.underlying39 hi0 hz0 hz1 hz2 rfl (by decide) (.slice none 0 0) 0 [] (by simp [Act.eval]) (by exact World.ownsRow_nil _ _ _ _) ⟨w.heap.size + 1, 2, none⟩ t.args.length 4 (argC t.args) (by simp [Act.eval, Act.put]) (by simp [argC_len]) (by exact NEWS) (argC_one _) (by unfold maxLen; omega) (by omega) (by exact (by omega : w.heap.size ≤ w2.heap.size)) ?_; intro v' w4 hown hgrow hloc; obtain ⟨va, vc, rfl⟩ := row_form hown; have R4 := World.rowIs.of_block (World.rowIs.of_block R2 rfl : w2.drew.rowIs w.heap.size 102 _ _) (hgrow.block w.heap.size (World.rowIs.lt R2) (by simp [Value.ownBlock])); have b4 : Boxed w4 (w.heap.size + 1) t := World.rowIs.of_block (World.rowIs.of_block bR rfl : Boxed w2.drew (w.heap.size + 1) t) (hgrow.block (w.heap.size + 1) (World.rowIs.lt bR) (by simp [Value.ownBlock])); have y04 := b4.c0; have q0 := World.rowIs.cell R4 (i := 0) (by simp); have q1 := World.rowIs.cell R4 (i := 1) (by simp); have p0 := World.rowIs.frozen R4 0; have p1 := World.rowIs.frozen R4 1)
  all_goals
    have KB : Below w.heap.size w w4 := (K1.trans (Kept.below K2 (by omega) (fun _ e => e.elim))).drew.grown hgrow (by exact (by omega : w.heap.size ≤ w2.heap.size)) (by simp [Value.ownBlock])
    have hvb : (Value.slice va (0 + t.args.length) vc).ownBlock ≠ some w.heap.size := by
      rcases hloc with e | e
      · rw [e]; simp [Value.ownBlock]
      · intro e2
        have h1 : w2.heap.size ≤ w.heap.size := e _ e2
        omega
    clear NEWS y0 y1 SL y04 hloc hgrow
    go_wp2_with fail
    rw [Nat.zero_add] at hown hvb
    have R5 := World.rowIs.set (World.rowIs.set R4 0 (.string t.name)) 1 (.slice va t.args.length vc)
    have O5 := ownsRow_setCell_other (a := ⟨w.heap.size, 1, none⟩) (ownsRow_setCell_other (a := ⟨w.heap.size, 0, none⟩) hown hvb (.string t.name)) hvb (.slice va t.args.length vc)
    have KC := (KB.setCell (p := ⟨w.heap.size, 0, none⟩) (Nat.le_refl _) (.string t.name)).setCell (p := ⟨w.heap.size, 1, none⟩) (Nat.le_refl _) (.slice va t.args.length vc)
    generalize (w4.setCell ⟨w.heap.size, 0, none⟩ (.string t.name)).setCell ⟨w.heap.size, 1, none⟩ (.slice va t.args.length vc) = w5 at *
    have z0 : w5.cell? ⟨w.heap.size, 0, none⟩ = some (.string t.name) := World.rowIs.cell R5 (i := 0) (by simp)
    have z1 : w5.cell? ⟨w.heap.size, 1, none⟩ = some (.slice va t.args.length vc) := World.rowIs.cell R5 (i := 1) (by simp)
    refine ⟨rfl, .tuple #[.agg #[.string t.name, .slice va t.args.length vc], .bool true], by simp [results, Tryz.results36, go_sem, z0, z1], _, rfl, ?_, KC⟩
    simpa using O5

end Go.Proofs.YtlehlgipbhfioaaGreat

namespace Go.Proofs.YtlehlgipbhfioaaGreat
open Go.RowKit Go.Maps

theorem infoTerm : (Tryz.prog.info? 102).map (fun i => (i.zero, i.size, i.bytes)) = some (some (.agg #[.string ⟨#[]⟩, .slice none 0 0]), 2, 40) := by kernel_rfl

theorem UseIs.of_row {w : World} {base : Nat} {v : Value} {xs : List Nat} (h : w.ownsRow base 3 1 v xs.length (natC xs)) :
    ∃ st : List (Nat × Obj), UseIs st v xs ∧ Sat st w ∧ ∀ x ∈ st, v.ownBlock = some x.1 := by
  by_cases hx : xs = []
  · subst hx
    rcases h.2 with ⟨rfl, _⟩ | ⟨g, cap, cur, rfl, _⟩
    · exact ⟨[], ⟨none, 0, rfl, by simp, .inl rfl⟩, fun x hx => by simp at hx, fun x hx => by simp at hx⟩
    · exact ⟨[], ⟨_, cap, rfl, by simp, .inl rfl⟩, fun x hx => by simp at hx, fun x hx => by simp at hx⟩
  · obtain ⟨x, h1, h2, h3⟩ := UseIs.own h hx
    exact ⟨[x], h1, fun y hy => by simp at hy; subst hy; exact h2, fun y hy => by simp at hy; subst hy; exact h3⟩

/-- The first k terms are filled in. -/
structure Tf (w W : World) (tb : Nat) (l : List Tm) (k : Nat) (av : Nat → Value) (st : List (Nat × Obj)) : Prop where
  row : ∃ f, W.rowIs tb 102 (l.length * 2) f ∧ ∀ j, j < k * 2 → f j = termC l av j
  sat : Sat st W
  far : ∀ x ∈ st, w.heap.size ≤ x.1 ∧ x.1 ≠ tb
  args : ∀ (i : Nat) (t : Tm), i < k → l[i]? = some t → UseIs st (av i) t.args
  kept : Kept0 w W
  tb : w.heap.size ≤ tb

theorem below_kept0 {w w' : World} (h : Below w.heap.size w w') : Kept0 w w' := ⟨h.os, h.tape, h.output, h.size, fun k hk _ => h.block k hk⟩

theorem Tf.step {w wr w2 : World} {tb : Nat} {l : List Tm} {k : Nat} {av : Nat → Value} {st : List (Nat × Obj)} {t : Tm} {v : Value} (T : Tf w wr tb l k av st) (ht : l[k]? = some t) (O2 : w2.ownsRow wr.heap.size 3 1 v t.args.length (argC t.args)) (B2 : Below wr.heap.size wr w2) :
    ∃ st', Tf w ((w2.setCell ⟨tb, k * 2, none⟩ (.string t.name)).setCell ⟨tb, k * 2 + 1, none⟩ v) tb l (k + 1) (fun i => if i = k then v else av i) st' := by
  obtain ⟨st2, u1, u2, u3⟩ := UseIs.of_row (xs := t.args) O2
  obtain ⟨f, R, hf⟩ := T.row
  have hlt := R.lt
  have R2 : w2.rowIs tb 102 (l.length * 2) f := R.of_block (B2.block _ hlt)
  have far2 : ∀ x ∈ st2, wr.heap.size ≤ x.1 := fun x hx => (O2.lt _ (u3 x hx)).1
  have blk : ∀ b, b ≠ tb → ((w2.setCell ⟨tb, k * 2, none⟩ (.string t.name)).setCell ⟨tb, k * 2 + 1, none⟩ v).heap[b]? = w2.heap[b]? := fun b hb => (Below.heap_setCell _ _ _ _ hb).trans (Below.heap_setCell _ _ _ _ hb)
  refine ⟨st ++ st2, ⟨⟨_, (R2.set (k * 2) (.string t.name)).set (k * 2 + 1) v, fun j hj => ?_⟩, fun x hx => ?_, fun x hx => ?_, fun i u hi hu => ?_, ?_, T.tb⟩⟩
  · show (if j = k * 2 + 1 then v else if j = k * 2 then .string t.name else f j) = termC l (fun i => if i = k then v else av i) j
    unfold termC
    by_cases e1 : j = k * 2 + 1
    · subst e1
      have h1 : (k * 2 + 1) % 2 = 1 := by omega
      have h2 : (k * 2 + 1) / 2 = k := by omega
      simp [h1, h2]
    · by_cases e0 : j = k * 2
      · subst e0
        have h1 : k * 2 % 2 = 0 := by omega
        have h2 : k * 2 / 2 = k := by omega
        simp [h2, ht]
      · rw [if_neg e1, if_neg e0, hf j (by omega)]
        unfold termC
        have h3 : j / 2 ≠ k := by omega
        simp [h3]
  · rcases List.mem_append.1 hx with hx | hx
    · have hlx : x.1 < wr.heap.size := (Array.getElem?_eq_some_iff.1 (T.sat x hx)).1
      exact (blk _ (T.far x hx).2).trans ((B2.block _ hlx).trans (T.sat x hx))
    · have := far2 x hx
      exact (blk _ (by omega)).trans (u2 x hx)
  · rcases List.mem_append.1 hx with hx | hx
    · exact T.far x hx
    · have := far2 x hx
      have := T.kept.size
      exact ⟨by omega, by omega⟩
  · by_cases e : i = k
    · subst e
      rw [ht] at hu
      cases hu
      show UseIs _ (if i = i then v else av i) t.args
      rw [if_pos rfl]
      exact u1.mono (fun y hy => List.mem_append_right _ hy)
    · show UseIs _ (if i = k then v else av i) u.args
      rw [if_neg e]
      exact (T.args i u (by omega) hu).mono (fun y hy => List.mem_append_left _ hy)
  · exact Kept.setNew (Kept.setNew (T.kept.trans (below_kept0 B2)) T.tb _) T.tb _

set_option maxHeartbeats 2000000 in
set_option maxRecDepth 100000 in
theorem termsOf_in (w : World) (base p : Nat) (ev : Value) (nb fb : Nat) (l : List Tm) (h : Bk w base p ev nb fb l) :
    Calls Tryz.prog 16 #[.pointer (some ⟨p, 0, none⟩)] w fun e w' => ∃ tb av st, e = .returned (.slice (some ⟨tb, 0, none⟩) l.length l.length) ∧ Tf w w' tb l l.length av st := by
  have SZ := size_in w base p ev nb fb l h
  have hsm := h.small
  obtain ⟨i0, hi0, hz0, hz1, hz2⟩ := info_parts infoTerm
  obtain ⟨C, hC, hm1⟩ : ∃ C : Array Value, C.size = l.length * 2 ∧ (Instr.makeSlice 59 (.int .i64 (l.length : Int)) (.int .i64 (l.length : Int))).run Tryz.prog w = .ok (.slice (some ⟨w.heap.size, 0, none⟩) l.length l.length) (w.alloc (.cells C 102)) := by
    have hmk := run_make (P := Tryz.prog) w 59 102 i0 _ Tryz.underlying59 hi0 hz0 .i64 .i64 (l.length : Int) (l.length : Int) (by omega) (Int.le_refl _) (by rw [hz2]; omega) (by omega)
    simp only [Int.toNat_natCast] at hmk
    exact ⟨_, by rw [size_madeCells, hz1], hmk⟩
  have R0 := made_row w C 102
  rw [hC] at R0
  have K0 : Kept0 w (w.alloc (.cells C 102)) := Kept.alloc (Kept.refl _ w) _
  clear hi0 hz0 hz1 hz2 hC
  go_enter Tryz.func16, Tryz.ntmps16
  go_wp2_with (go_at_call 35; refine SZ.mono ?_; rintro e w9 ⟨rfl, rfl⟩)
  clear hm1 SZ
  generalize w.alloc (.cells C 102) = w1 at *
  go_loopw [10] (fun t10 W => ∃ (k : Nat) (av : Nat → Value) (st : List (Nat × Obj)), k ≤ l.length ∧ t10 = .int .i64 (k : Int) ∧ Tf w W w.heap.size l k av st) (fun t10 _ => l.length - (intOf t10).toNat)
  case atStart => exact ⟨0, fun _ => .slice none 0 0, [], by omega, rfl, ⟨⟨_, R0, fun j hj => by omega⟩, fun x hx => by simp at hx, fun x hx => by simp at hx, fun i t hi => by omega, K0, Nat.le_refl _⟩⟩
  case round =>
    clear R0 K0
    obtain ⟨k, av, st, hk, rfl, T⟩ := hrel
    by_cases hk2 : k < l.length
    · have dk : decide ((k : Int) < (l.length : Int)) = true := decide_eq_true (by omega)
      have ht : l[k]? = some l[k] := List.getElem?_eq_getElem hk2
      have TS := term_some wr base p ev nb fb l (h.kept0 T.kept) k l[k] ht
      obtain ⟨f, R, hf⟩ := T.row
      have CE : ∀ W, Below wr.heap.size wr W → W.rowIs w.heap.size 102 (l.length * 2) f := fun W B => R.of_block (B.block _ R.lt)
      generalize hlk : l[k] = t at *
      go_wp2_with (go_at_call 36; refine TS.mono ?_; rintro e w2 ⟨v, rfl, O2, B2⟩; have R2 := CE w2 B2; have y0 := R2.cell (i := k * 2) (by omega); have y1 := R2.cell (i := k * 2 + 1) (by omega); have f0 := R2.frozen (k * 2); have f1 := R2.frozen (k * 2 + 1); obtain ⟨va, vc, hv⟩ := row_form' O2; subst hv)
      obtain ⟨st', T'⟩ := T.step ht O2 B2
      exact ⟨⟨k + 1, _, st', by omega, by simp, T'⟩, by simp [intOf]; omega⟩
    · have dk : decide ((k : Int) < (l.length : Int)) = false := decide_eq_false (by omega)
      obtain rfl : k = l.length := by omega
      go_wp2_with fail
      go_ret
      exact ⟨_, av, st, rfl, T⟩

end Go.Proofs.YtlehlgipbhfioaaGreat

namespace Go.Proofs.YtlehlgipbhfioaaGreat.Cc

/-- Which terms use which, one after the other. -/
def evn (t : Tm) (n : Nat) : List (Nat × Nat) := t.args.map (fun a => (a, n))
def evs : List Tm → Nat → List (Nat × Nat)
  | [], _ => []
  | t :: l, n => evn t n ++ evs l (n + 1)
def usf (d : List (Nat × Nat)) (i : Nat) : List Nat := (d.filter (fun x => x.1 == i)).map (fun x => x.2)
def cna (d : List (Nat × Nat)) (i : Nat) : Nat := (usf d i).length

theorem evs_app (l m : List Tm) (n : Nat) : evs (l ++ m) n = evs l n ++ evs m (n + l.length) := by
  induction l generalizing n with
  | nil => simp [evs]
  | cons t l ih =>
    have e : n + 1 + l.length = n + (l.length + 1) := by omega
    simp [evs, ih, e]
theorem evs_take {l : List Tm} {n : Nat} {t : Tm} (ht : l[n]? = some t) : evs (l.take (n + 1)) 0 = evs (l.take n) 0 ++ evn t n := by
  have hn := (List.getElem?_eq_some_iff.1 ht).1
  have h1 : l.take (n + 1) = l.take n ++ [t] := by rw [List.take_add_one, ht]; rfl
  rw [h1, evs_app]
  simp [evs, List.length_take, Nat.min_eq_left (Nat.le_of_lt hn)]
/-- What came ahead of arg k of term n. -/
def pre (l : List Tm) (n : Nat) (t : Tm) (k : Nat) : List (Nat × Nat) := evs (l.take n) 0 ++ (t.args.take k).map (fun a => (a, n))
theorem pre_zero (l : List Tm) (n : Nat) (t : Tm) : pre l n t 0 = evs (l.take n) 0 := by simp [pre]
theorem pre_step {l : List Tm} {n : Nat} {t : Tm} {k a : Nat} (ha : t.args[k]? = some a) : pre l n t (k + 1) = pre l n t k ++ [(a, n)] := by
  unfold pre
  rw [List.take_add_one, ha]
  simp
theorem pre_all {l : List Tm} {n : Nat} {t : Tm} (ht : l[n]? = some t) : pre l n t t.args.length = evs (l.take (n + 1)) 0 := by
  rw [evs_take ht]
  simp [pre, evn]
theorem evs_all (l : List Tm) : evs (l.take l.length) 0 = evs l 0 := by rw [List.take_length]

theorem usf_snoc (d : List (Nat × Nat)) (a n i : Nat) : usf (d ++ [(a, n)]) i = if i = a then usf d i ++ [n] else usf d i := by
  unfold usf
  rw [List.filter_append, List.map_append]
  by_cases e : i = a
  · subst e; simp
  · rw [if_neg e]
    have : (a == i) = false := beq_eq_false_iff_ne.2 (Ne.symm e)
    simp [this]
theorem cna_snoc (d : List (Nat × Nat)) (a n i : Nat) : cna (d ++ [(a, n)]) i = if i = a then cna d i + 1 else cna d i := by
  unfold cna
  rw [usf_snoc]
  split <;> simp
theorem usf_app (d e : List (Nat × Nat)) (i : Nat) : usf (d ++ e) i = usf d i ++ usf e i := by simp [usf]
theorem cna_app (d e : List (Nat × Nat)) (i : Nat) : cna (d ++ e) i = cna d i + cna e i := by simp [cna, usf_app]
theorem cna_le (d : List (Nat × Nat)) (i : Nat) : cna d i ≤ d.length := by
  unfold cna usf
  rw [List.length_map]
  exact List.length_filter_le _ _

/-- Where the room of i begins. -/
def offs (c : Nat → Nat) : Nat → Nat
  | 0 => 0
  | i + 1 => offs c i + c i
theorem offs_mono (c : Nat → Nat) {i j : Nat} (h : i < j) : offs c i + c i ≤ offs c j := by
  induction j with
  | zero => omega
  | succ j ih =>
    simp only [offs]
    by_cases e : i = j
    · subst e; omega
    · have := ih (by omega); omega
theorem offs_congr {c c' : Nat → Nat} (h : ∀ i, c i = c' i) (n : Nat) : offs c n = offs c' n := by
  induction n with
  | zero => rfl
  | succ n ih => simp only [offs]; rw [ih, h]
theorem offs_add (c : Nat → Nat) (a n : Nat) : offs (fun i => if i = a then c i + 1 else c i) n = offs c n + if a < n then 1 else 0 := by
  induction n with
  | zero => simp [offs]
  | succ n ih =>
    simp only [offs]
    rw [ih]
    by_cases e : n = a
    · subst e; simp; omega
    · rw [if_neg e]
      by_cases e2 : a < n
      · simp [e2, show a < n + 1 by omega]; omega
      · have : ¬ a < n + 1 := by omega
        simp [e2, this]
/-- The rooms together are what came. -/
theorem offs_all (N : Nat) (d : List (Nat × Nat)) (h : ∀ x ∈ d, x.1 < N) : offs (cna d) N = d.length := by
  have key : ∀ e : List (Nat × Nat), (∀ x ∈ e, x.1 < N) → offs (cna e.reverse) N = e.length := by
    intro e
    induction e with
    | nil =>
      intro _
      have : ∀ n, offs (cna []) n = 0 := by
        intro n
        induction n with
        | zero => rfl
        | succ n ih => simp only [offs]; rw [ih]; rfl
      simpa using this N
    | cons x e ih =>
      intro hx
      obtain ⟨a, n⟩ := x
      have h1 := ih (fun y hy => hx y (by simp [hy]))
      have ha : a < N := hx (a, n) (by simp)
      rw [List.reverse_cons, offs_congr (cna_snoc e.reverse a n) N, offs_add, h1, if_pos ha]
      simp
  have := key d.reverse (fun x hx => h x (by simpa using hx))
  simpa using this

theorem evs_lt {N : Nat} {l : List Tm} (hb : ∀ t ∈ l, ∀ a ∈ t.args, a < N) : ∀ m, ∀ x ∈ evs l m, x.1 < N := by
  induction l with
  | nil => intro m x hx; simp [evs] at hx
  | cons t l ih =>
    intro m x hx
    simp only [evs, List.mem_append] at hx
    rcases hx with hx | hx
    · simp [evn] at hx
      obtain ⟨a, ha, rfl⟩ := hx
      exact hb t (by simp) a ha
    · exact ih (fun t ht => hb t (by simp [ht])) (m + 1) x hx
theorem evs_len {l : List Tm} (h4 : ∀ t ∈ l, t.args.length ≤ 4) : ∀ m, (evs l m).length ≤ 4 * l.length := by
  induction l with
  | nil => intro m; simp [evs]
  | cons t l ih =>
    intro m
    have h1 := ih (fun t ht => h4 t (by simp [ht])) (m + 1)
    have h2 := h4 t (by simp)
    simp [evs, evn]
    omega

theorem pre_len {l : List Tm} (h4 : ∀ t ∈ l, t.args.length ≤ 4) {n : Nat} {t : Tm} (ht : l[n]? = some t) (k : Nat) : (pre l n t k).length ≤ 4 * l.length := by
  have hn := (List.getElem?_eq_some_iff.1 ht).1
  have h1 := evs_len (l := l.take n) (fun u hu => h4 u (List.mem_of_mem_take hu)) 0
  have h2 := h4 t (List.mem_of_getElem? ht)
  rw [List.length_take, Nat.min_eq_left (Nat.le_of_lt hn)] at h1
  unfold pre
  rw [List.length_append, List.length_map, List.length_take]
  have : min k t.args.length ≤ t.args.length := Nat.min_le_right _ _
  omega
/-- What came ahead is the beginning of all. -/
theorem pre_part {l : List Tm} {n : Nat} {t : Tm} (ht : l[n]? = some t) (k : Nat) : ∃ e, evs l 0 = pre l n t k ++ e := by
  have h1 := List.take_append_drop (n + 1) l
  refine ⟨(t.args.drop k).map (fun a => (a, n)) ++ evs (l.drop (n + 1)) (0 + (l.take (n + 1)).length), ?_⟩
  conv => lhs; rw [← h1]
  rw [evs_app, evs_take ht]
  unfold pre evn
  have h2 : t.args.map (fun a => (a, n)) = (t.args.take k).map (fun a => (a, n)) ++ (t.args.drop k).map (fun a => (a, n)) := by rw [← List.map_append, List.take_append_drop]
  rw [h2]
  simp only [List.append_assoc]
theorem pre_cna {l : List Tm} {n : Nat} {t : Tm} (ht : l[n]? = some t) (k i : Nat) : cna (pre l n t k) i ≤ cna (evs l 0) i := by
  obtain ⟨e, he⟩ := pre_part ht k
  rw [he, cna_app]
  omega

/-- The first uses are as told. -/
theorem usf_uc (l : List Tm) (r n : Nat) : (usf (evs l 0) r).count n = uc l id r n := by
  have key : ∀ (l : List Tm) (m : Nat), (usf (evs l m) r).count n = if m ≤ n then uc l id r (n - m) else 0 := by
    intro l
    induction l with
    | nil => intro m; simp [evs, usf, uc]
    | cons t l ih =>
      intro m
      rw [evs, usf_app, List.count_append, ih (m + 1)]
      have h1 : (usf (evn t m) r).count n = if m = n then t.args.countP (fun a => a == r) else 0 := by
        have : ∀ xs : List Nat, (usf (xs.map (fun a => (a, m))) r).count n = if m = n then xs.countP (fun a => a == r) else 0 := by
          intro xs
          induction xs with
          | nil => simp [usf]
          | cons x xs ih =>
            unfold usf at ih ⊢
            by_cases e : x = r
            · subst e
              by_cases e2 : m = n
              · subst e2; simp at ih ⊢; exact ih
              · simp [e2] at ih ⊢; exact ih
            · have e' : (x == r) = false := beq_eq_false_iff_ne.2 e
              simp only [List.map_cons, List.filter_cons, e', List.countP_cons]
              simpa using ih
        exact this t.args
      rw [h1]
      by_cases e : m = n
      · subst e
        have : ¬ m + 1 ≤ m := by omega
        simp [uc, this]
      · by_cases e2 : m + 1 ≤ n
        · have h3 : n - m = (n - (m + 1)) + 1 := by omega
          simp [e, e2, show m ≤ n by omega, uc, h3]
        · have : ¬ m ≤ n := by omega
          simp [e, e2, this]
  simpa using key l 0

end Go.Proofs.YtlehlgipbhfioaaGreat.Cc

namespace Go.Proofs.YtlehlgipbhfioaaGreat
open Go.RowKit

def rrC (s : ByteArray) (i : Nat) (av : Value) (e a : Nat) (j : Nat) : Value := if j = 0 then .string s else if j = 1 then .int .i64 (i : Int) else if j = 2 then av else if j = 3 then .int .i64 (e : Int) else .int .i64 (a : Int)

/-- The document's reader at block r. -/
structure Rr (w : World) (r : Nat) (s : ByteArray) (i : Nat) (av : Value) (e a : Nat) : Prop where
  row : w.rowIs r 91 5 (rrC s i av e a)
  le : i ≤ s.size
  small : s.size ≤ 400

theorem Rr.c0 {w : World} {r : Nat} {s : ByteArray} {i : Nat} {av : Value} {e a : Nat} (h : Rr w r s i av e a) : w.cell? ⟨r, 0, none⟩ = some (.string s) := h.row.cell (by omega)
theorem Rr.c1 {w : World} {r : Nat} {s : ByteArray} {i : Nat} {av : Value} {e a : Nat} (h : Rr w r s i av e a) : w.cell? ⟨r, 1, none⟩ = some (.int .i64 (i : Int)) := h.row.cell (i := 1) (by omega)
theorem Rr.c2 {w : World} {r : Nat} {s : ByteArray} {i : Nat} {av : Value} {e a : Nat} (h : Rr w r s i av e a) : w.cell? ⟨r, 2, none⟩ = some av := h.row.cell (i := 2) (by omega)
theorem Rr.c3 {w : World} {r : Nat} {s : ByteArray} {i : Nat} {av : Value} {e a : Nat} (h : Rr w r s i av e a) : w.cell? ⟨r, 3, none⟩ = some (.int .i64 (e : Int)) := h.row.cell (i := 3) (by omega)
theorem Rr.c4 {w : World} {r : Nat} {s : ByteArray} {i : Nat} {av : Value} {e a : Nat} (h : Rr w r s i av e a) : w.cell? ⟨r, 4, none⟩ = some (.int .i64 (a : Int)) := h.row.cell (i := 4) (by omega)
theorem Rr.drewN {w : World} {r : Nat} {s : ByteArray} {i : Nat} {av : Value} {e a : Nat} (h : Rr w r s i av e a) (m : Nat) : Rr (w.drewN m) r s i av e a := ⟨h.row, h.le, h.small⟩
theorem Rr.of_block {w w' : World} {r : Nat} {s : ByteArray} {i : Nat} {av : Value} {e a : Nat} (h : Rr w r s i av e a) (hb : w'.heap[r]? = w.heap[r]?) : Rr w' r s i av e a := ⟨h.row.of_block hb, h.le, h.small⟩
theorem Rr.step {w : World} {r : Nat} {s : ByteArray} {i : Nat} {av : Value} {e a : Nat} (h : Rr w r s i av e a) {k : Nat} (hk : k ≤ s.size) : Rr (w.setCell ⟨r, 1, none⟩ (.int .i64 (k : Int))) r s k av e a :=
  ⟨(h.row.set 1 _).congr (fun j hj => by
    rcases (by omega : j = 0 ∨ j = 1 ∨ j = 2 ∨ j = 3 ∨ j = 4) with rfl | rfl | rfl | rfl | rfl <;> simp [rrC]), hk, h.small⟩
theorem Rr.err {w : World} {r : Nat} {s : ByteArray} {i : Nat} {av : Value} {e a : Nat} (h : Rr w r s i av e a) (c q : Nat) : Rr ((w.setCell ⟨r, 3, none⟩ (.int .i64 (c : Int))).setCell ⟨r, 4, none⟩ (.int .i64 (q : Int))) r s i av c q :=
  ⟨((h.row.set 3 _).set 4 _).congr (fun j hj => by
    rcases (by omega : j = 0 ∨ j = 1 ∨ j = 2 ∨ j = 3 ∨ j = 4) with rfl | rfl | rfl | rfl | rfl <;> simp [rrC]), h.le, h.small⟩
theorem Rr.list {w : World} {r : Nat} {s : ByteArray} {i : Nat} {av : Value} {e a : Nat} (h : Rr w r s i av e a) (v : Value) : Rr (w.setCell ⟨r, 2, none⟩ v) r s i v e a :=
  ⟨(h.row.set 2 _).congr (fun j hj => by
    rcases (by omega : j = 0 ∨ j = 1 ∨ j = 2 ∨ j = 3 ∨ j = 4) with rfl | rfl | rfl | rfl | rfl <;> simp [rrC]), h.le, h.small⟩

/-- The first error counts. -/
def failE (e c : Nat) : Nat := if e = 0 then c else e
def failA (e a q : Nat) : Nat := if e = 0 then q else a

set_option maxHeartbeats 400000 in
theorem fail_in (w : World) (r : Nat) (s : ByteArray) (i : Nat) (av : Value) (e a : Nat) (h : Rr w r s i av e a) (c q : Nat) :
    Calls Tryz.prog 31 #[.pointer (some ⟨r, 0, none⟩), .int .i64 (c : Int), .int .i64 (q : Int)] w fun x w' => x = .returned (.tuple #[]) ∧ Rr w' r s i av (failE e c) (failA e a q) ∧ Kept1 r w w' := by
  have c3 := h.c3
  have c4 := h.c4
  have f3 := h.row.frozen 3
  have f4 := h.row.frozen 4
  by_cases he : e = 0
  · subst he
    have e1 : failE 0 c = c := rfl
    have e2 : failA 0 a q = q := rfl
    go_enter Tryz.func31, Tryz.ntmps31
    go_wp2
    go_end0
    exact ⟨rfl, by rw [e1, e2]; exact h.err c q, Kept1.set (Kept1.set (Kept.refl _ w) _ _) _ _⟩
  · have d : ((e : Int) == 0) = false := beq_eq_false_iff_ne.2 (by omega)
    have e1 : failE e c = e := if_neg he
    have e2 : failA e a q = a := if_neg he
    go_enter Tryz.func31, Tryz.ntmps31
    go_wp2
    go_end0
    exact ⟨rfl, by rw [e1, e2]; exact h, Kept.refl _ w⟩

set_option maxHeartbeats 400000 in
theorem rletter_any (w : World) (c : Nat) :
    Calls Tryz.prog 106 #[.int .u8 c] w fun e w' => e = .returned (.bool (isLet c)) ∧ w = w' := by
  go_enter Tryz.func106, Tryz.ntmps106
  go_wp2
  · go_ret
    exact ⟨ret_bool (isLet_ge ‹_›), rfl⟩
  · go_ret
    exact ⟨ret_bool (isLet_lt ‹_›), rfl⟩

set_option maxHeartbeats 400000 in
theorem rdigit_any (w : World) (c : Nat) :
    Calls Tryz.prog 107 #[.int .u8 c] w fun e w' => e = .returned (.bool (isDig c)) ∧ w = w' := by
  go_enter Tryz.func107, Tryz.ntmps107
  go_wp2
  · go_ret
    exact ⟨ret_bool (isDig_ge ‹_›), rfl⟩
  · go_ret
    exact ⟨ret_bool (isDig_lt ‹_›), rfl⟩

set_option maxHeartbeats 400000 in
theorem rblanks_in (w : World) (r : Nat) (s : ByteArray) (i : Nat) (av : Value) (e a : Nat) (h : Rr w r s i av e a) :
    Calls Tryz.prog 30 #[.pointer (some ⟨r, 0, none⟩)] w fun x w' => x = .returned (.tuple #[]) ∧ Rr w' r s (bl s i) av e a ∧ Kept1 r w w' := by
  have hs := h.small
  go_enter Tryz.func30, Tryz.ntmps30
  go_wp2
  go_loopw [] (fun W => ∃ k : Nat, Rr W r s k av e a ∧ Hid (bl s k = bl s i) ∧ Hid (Kept1 r w W)) (fun W => s.size - (match W.cell? ⟨r, 1, none⟩ with | some v => (intOf v).toNat | none => 0))
  case atStart => exact ⟨i, h, rfl, Kept.refl _ w⟩
  case round =>
    obtain ⟨k, hR, hb, hK⟩ := hrel
    have c1 := hR.c0
    have c2 := hR.c1
    have f2 := hR.row.frozen 1
    have hle := hR.le
    by_cases h1 : k < s.size
    · by_cases h2 : byt s k = 32
      · have d1 : decide ((k : Int) < s.size) = true := decide_eq_true (by omega)
        have e2 : (s[k]).toNat = 32 := (byt_lt h1).trans h2
        go_wp2_with fail
        go_quiet (fail)
        go_wp2_with fail
        refine ⟨⟨k + 1, ?_, (bl_at h1 h2).symm.trans hb, Kept1.set (hK.drewN _) _ _⟩, ?_⟩
        · have := (hR.drewN nq).step (k := k + 1) (by omega)
          simpa using this
        · have hn := ((hR.drewN nq).step (k := k + 1) (by omega)).c1
          have hn' : ((wr.drewN nq).setCell ⟨r, 1, none⟩ (.int .i64 ((k : Int) + 1))).cell? ⟨r, 1, none⟩ = some (.int .i64 ((k : Int) + 1)) := by simpa using hn
          rw [c2, hn']
          simp only [intOf]
          omega
      · have d1 : decide ((k : Int) < s.size) = true := decide_eq_true (by omega)
        have e2 : ¬ (s[k]).toNat = 32 := fun e => h2 ((byt_lt h1).symm.trans e)
        go_wp2_with fail
        go_quiet (fail)
        go_wp2_with fail
        go_end0
        have e : bl s i = k := hb.symm.trans (bl_end (fun x => h2 x.2))
        exact ⟨rfl, e ▸ hR.drewN nq, Kept.drewN hK nq⟩
    · have d1 : decide ((k : Int) < s.size) = false := decide_eq_false (by omega)
      go_wp2_with fail
      go_quiet (fail)
      go_wp2_with fail
      go_end0
      have e : bl s i = k := hb.symm.trans (bl_end (fun x => h1 x.1))
      exact ⟨rfl, e ▸ hR.drewN nq, Kept.drewN hK nq⟩

/-- Does c stand here, and no error? -/
def isB (s : ByteArray) (i e c : Nat) : Bool := decide (e = 0) && stands s (bl s i) c

set_option maxHeartbeats 800000 in
theorem rIs_in (w : World) (r : Nat) (s : ByteArray) (i : Nat) (av : Value) (e a : Nat) (h : Rr w r s i av e a) (c : Nat) :
    Calls Tryz.prog 108 #[.pointer (some ⟨r, 0, none⟩), .int .u8 (c : Int)] w fun x w' => x = .returned (.bool (isB s i e c)) ∧ Rr w' r s (bl s i) av e a ∧ Kept1 r w w' := by
  have hs := h.small
  have hle := bl_le h.le
  have BL := rblanks_in w r s i av e a h
  by_cases he : e = 0
  · subst he
    by_cases h1 : bl s i < s.size
    · have d1 : decide ((bl s i : Int) < s.size) = true := decide_eq_true (by omega)
      by_cases h2 : byt s (bl s i) = c
      · have e2 : (s[bl s i]).toNat = c := (byt_lt h1).trans h2
        have hB : isB s i 0 c = true := by simp [isB, stands_true h1 h2]
        go_enter Tryz.func108, Tryz.ntmps108
        go_wp2_with (go_at_call 30; refine BL.mono ?_; rintro e w2 ⟨rfl, R2, K2⟩; have c0 := R2.c0; have c1 := R2.c1; have c3 := R2.c3)
        go_quiet (fail)
        go_wp2_with fail
        go_ret
        exact ⟨ret_bool hB.symm, R2.drewN nq, Kept.drewN K2 nq⟩
      · have e2 : ¬ (s[bl s i]).toNat = c := fun e => h2 ((byt_lt h1).symm.trans e)
        have e3 : (((s[bl s i]).toNat : Int) == (c : Int)) = false := beq_eq_false_iff_ne.2 (by omega)
        have hB : isB s i 0 c = false := by simp [isB, stands_ne h2]
        go_enter Tryz.func108, Tryz.ntmps108
        go_wp2_with (go_at_call 30; refine BL.mono ?_; rintro e w2 ⟨rfl, R2, K2⟩; have c0 := R2.c0; have c1 := R2.c1; have c3 := R2.c3)
        go_quiet (fail)
        go_wp2_with fail
        go_ret
        exact ⟨ret_bool hB.symm, R2.drewN nq, Kept.drewN K2 nq⟩
    · have d1 : decide ((bl s i : Int) < s.size) = false := decide_eq_false (by omega)
      have hB : isB s i 0 c = false := by simp [isB, stands_end h1]
      go_enter Tryz.func108, Tryz.ntmps108
      go_wp2_with (go_at_call 30; refine BL.mono ?_; rintro e w2 ⟨rfl, R2, K2⟩; have c0 := R2.c0; have c1 := R2.c1; have c3 := R2.c3)
      go_quiet (fail)
      go_wp2_with fail
      go_ret
      exact ⟨ret_bool hB.symm, R2.drewN nq, Kept.drewN K2 nq⟩
  · have d : ((e : Int) == 0) = false := beq_eq_false_iff_ne.2 (by omega)
    have hB : isB s i e c = false := by simp [isB, he]
    go_enter Tryz.func108, Tryz.ntmps108
    go_wp2_with (go_at_call 30; refine BL.mono ?_; rintro e w2 ⟨rfl, R2, K2⟩; have c0 := R2.c0; have c1 := R2.c1; have c3 := R2.c3)
    go_quiet (fail)
    go_wp2_with fail
    go_ret
    exact ⟨ret_bool hB.symm, R2.drewN nq, Kept.drewN K2 nq⟩

/-- Where it goes on then. -/
def hasI (s : ByteArray) (i e c : Nat) : Nat := if isB s i e c then bl s i + 1 else bl s i
theorem isB_lt {s : ByteArray} {i e c : Nat} (h : isB s i e c = true) : bl s i < s.size := by
  simp [isB, stands] at h
  exact h.2.1

set_option maxHeartbeats 400000 in
theorem rhas1_in (w : World) (r : Nat) (s : ByteArray) (i : Nat) (av : Value) (e a : Nat) (h : Rr w r s i av e a) (c : Nat) :
    Calls Tryz.prog 62 #[.pointer (some ⟨r, 0, none⟩), .int .u8 (c : Int)] w fun x w' => x = .returned (.bool (isB s i e c)) ∧ Rr w' r s (hasI s i e c) av e a ∧ Kept1 r w w' := by
  have hs := h.small
  have IS := rIs_in w r s i av e a h c
  cases hB : isB s i e c with
  | true =>
    rw [hB] at IS
    have hlt := isB_lt hB
    have hI : hasI s i e c = bl s i + 1 := by simp [hasI, hB]
    go_enter Tryz.func62, Tryz.ntmps62
    go_wp2_with (go_at_call 108; refine IS.mono ?_; rintro e w2 ⟨rfl, R2, K2⟩; have c1 := R2.c1; have f1 := R2.row.frozen 1)
    go_ret
    have := R2.step (k := bl s i + 1) (by omega)
    refine ⟨rfl, by rw [hI]; simpa using this, Kept1.set K2 _ _⟩
  | false =>
    rw [hB] at IS
    have hI : hasI s i e c = bl s i := by simp [hasI, hB]
    go_enter Tryz.func62, Tryz.ntmps62
    go_wp2_with (go_at_call 108; refine IS.mono ?_; rintro e w2 ⟨rfl, R2, K2⟩)
    go_ret
    exact ⟨rfl, by rw [hI]; exact R2, K2⟩

end Go.Proofs.YtlehlgipbhfioaaGreat

namespace Go.Proofs.YtlehlgipbhfioaaGreat
open Go.RowKit

def lsC (l : List Tm) (vs : List Value) : List Value := (l.zip vs).flatMap fun x => [.string x.1.name, x.2]

/-- A term's args lie at v. -/
abbrev ArgsAt1 (w : World) (base : Nat) (xs : List Nat) (v : Value) : Prop := w.ownsRow base 3 1 v xs.length (argC xs)

/-- A list of the document's terms at av; their args at vs. -/
structure Ls (w : World) (base : Nat) (av : Value) (l : List Tm) (vs : List Value) : Prop where
  len : vs.length = l.length
  row : w.ownsRow base 140 2 av l.length (lsC l vs)
  args : ∀ (i : Nat) (t : Tm) (v : Value), l[i]? = some t → vs[i]? = some v → ArgsAt1 w base t.args v

theorem lsC_get (l : List Tm) (vs : List Value) (i j : Nat) (hj : j < 2) : (lsC l vs)[i * 2 + j]? = ((l.zip vs)[i]?).bind (fun x => ([.string x.1.name, x.2] : List Value)[j]?) := by
  unfold lsC
  generalize l.zip vs = z
  induction z generalizing i with
  | nil => simp
  | cons t z ih =>
    cases i with
    | zero => rcases (by omega : j = 0 ∨ j = 1) with rfl | rfl <;> simp
    | succ i =>
      have e : (i + 1) * 2 + j = 2 + (i * 2 + j) := by omega
      rw [List.flatMap_cons, e, List.getElem?_append_right (by simp), List.getElem?_cons_succ]
      have e2 : 2 + (i * 2 + j) - ([.string t.1.name, t.2] : List Value).length = i * 2 + j := by simp
      rw [e2]
      exact ih i

theorem Ls.at {w : World} {base : Nat} {av : Value} {l : List Tm} {vs : List Value} (h : Ls w base av l vs) {i : Nat} {t : Tm} (hi : l[i]? = some t) :
    ∃ g cap v, av = .slice (some ⟨g, 0, none⟩) l.length cap ∧ vs[i]? = some v ∧ w.cell? ⟨g, i * 2, none⟩ = some (.string t.name) ∧ w.cell? ⟨g, i * 2 + 1, none⟩ = some v ∧ ArgsAt1 w base t.args v := by
  have hlt : i < l.length := (List.getElem?_eq_some_iff.1 hi).1
  have hiv : i < vs.length := by rw [h.len]; exact hlt
  have hv : vs[i]? = some vs[i] := List.getElem?_eq_getElem hiv
  have hz : (l.zip vs)[i]? = some (t, vs[i]) := by
    rw [List.getElem?_zip_eq_some]
    exact ⟨hi, hv⟩
  rcases h.row.2 with ⟨e, h0⟩ | ⟨b, cap, cur, e, _⟩
  · omega
  · have cell : ∀ j u, j < 2 → ([.string t.name, vs[i]] : List Value)[j]? = some u → w.cell? ⟨b, i * 2 + j, none⟩ = some u := by
      intro j u hj hu
      have := h.row.cells (g := b) (by rw [e]; rfl) (i * 2 + j) u (by rw [lsC_get l vs i j hj, hz]; exact hu)
      simp [Addr.add] at this
      split at this
      · next e0 => rw [e0.1, e0.2]; exact this
      · exact this
    exact ⟨b, cap, vs[i], e, hv, cell 0 _ (by omega) rfl, cell 1 _ (by omega) rfl, h.args i t _ hi hv⟩

theorem Ls.form {w : World} {base : Nat} {av : Value} {l : List Tm} {vs : List Value} (h : Ls w base av l vs) : ∃ a c, av = .slice a l.length c := row_form h.row
theorem Ls.drewN {w : World} {base : Nat} {av : Value} {l : List Tm} {vs : List Value} (h : Ls w base av l vs) (m : Nat) : Ls (w.drewN m) base av l vs := ⟨h.len, h.row, h.args⟩
theorem Ls.kept0 {w w' : World} {base : Nat} {av : Value} {l : List Tm} {vs : List Value} (h : Ls w base av l vs) (K : Kept0 w w') : Ls w' base av l vs :=
  ⟨h.len, h.row.kept K.grownBy (Decidable.em _), fun i t v h1 h2 => (h.args i t v h1 h2).kept K.grownBy (Decidable.em _)⟩

/-- An arg's cell. -/
theorem arg_cell {w : World} {base : Nat} {xs : List Nat} {v : Value} (h : ArgsAt1 w base xs v) {j : Nat} (hj : j < xs.length) : ∃ g cap, v = .slice (some ⟨g, 0, none⟩) xs.length cap ∧ w.cell? ⟨g, j, none⟩ = some (.int .i64 (xs[j] : Int)) := by
  rcases h.2 with ⟨e, h0⟩ | ⟨b, cap, cur, e, _⟩
  · omega
  · refine ⟨b, cap, e, ?_⟩
    have := h.cells (g := b) (by rw [e]; rfl) j (.int .i64 (xs[j] : Int)) (by simp [argC, List.getElem?_eq_getElem hj])
    simp [Addr.add] at this
    split at this
    · next e0 => subst e0; exact this
    · exact this

theorem args_take {a b : List Nat} (hl : a.length = b.length) {k : Nat} (hk : k < a.length) (h : a.take k = b.take k) (he : a[k]'hk = b[k]'(hl ▸ hk)) : a.take (k + 1) = b.take (k + 1) := by
  rw [List.take_add_one, List.take_add_one, h, List.getElem?_eq_getElem hk, List.getElem?_eq_getElem (hl ▸ hk), he]

theorem toList_name {a b : ByteArray} (h : a.toList = b.toList) : a = b := by
  rw [ByteArray.toList_eq, ByteArray.toList_eq] at h
  exact WideShapes.bytes_inj h

set_option maxHeartbeats 1000000 in
theorem same1_in (w : World) (base : Nat) (t u : Tm) (vt vu : Value) (ht : ArgsAt1 w base t.args vt) (hu : ArgsAt1 w base u.args vu) (h4 : t.args.length ≤ 4) :
    Calls Tryz.prog 109 #[.agg #[.string t.name, vt], .agg #[.string u.name, vu]] w fun e w' => e = .returned (.bool (decide (t = u))) ∧ Kept0 w w' := by
  obtain ⟨ta, tc, rfl⟩ := row_form ht
  obtain ⟨ua, uc, rfl⟩ := row_form hu
  have K1 : Kept0 w (w.alloc (.cells #[.string t.name, .slice ta t.args.length tc] 140)) := Kept.alloc (Kept.refl _ w) _
  have R1 := made_row w #[.string t.name, .slice ta t.args.length tc] 140
  have s1 : (w.alloc (.cells #[.string t.name, .slice ta t.args.length tc] 140)).heap.size = w.heap.size + 1 := by simp
  generalize hw1 : w.alloc (.cells #[.string t.name, .slice ta t.args.length tc] 140) = w1 at *
  have K2 : Kept0 w1 (w1.alloc (.cells #[.string u.name, .slice ua u.args.length uc] 140)) := Kept.alloc (Kept.refl _ w1) _
  have R2 := made_row w1 #[.string u.name, .slice ua u.args.length uc] 140
  rw [s1] at R2
  generalize hw2 : w1.alloc (.cells #[.string u.name, .slice ua u.args.length uc] 140) = w2 at *
  have R1' := World.rowIs.of_block R1 (K2.block w.heap.size (World.rowIs.lt R1) (fun e => e))
  have K : Kept0 w w2 := Kept.trans K1 K2
  have ht2 := ht.kept K.grownBy (Decidable.em _)
  have hu2 := hu.kept K.grownBy (Decidable.em _)
  have a0 : w2.cell? ⟨w.heap.size, 0, none⟩ = some (.string t.name) := World.rowIs.cell R1' (i := 0) (by simp)
  have a1 : w2.cell? ⟨w.heap.size, 1, none⟩ = some (.slice ta t.args.length tc) := World.rowIs.cell R1' (i := 1) (by simp)
  have b0 : w2.cell? ⟨w.heap.size + 1, 0, none⟩ = some (.string u.name) := World.rowIs.cell R2 (i := 0) (by simp)
  have b1 : w2.cell? ⟨w.heap.size + 1, 1, none⟩ = some (.slice ua u.args.length uc) := World.rowIs.cell R2 (i := 1) (by simp)
  go_enter Tryz.func109, Tryz.ntmps109
  by_cases hn' : t.name = u.name
  · have hn : Hid (t.name = u.name) := hn'
    have dn : (t.name.toList == u.name.toList) = true := by rw [hn']; simp
    clear hn'
    by_cases hl' : t.args.length = u.args.length
    · have hl : Hid (t.args.length = u.args.length) := hl'
      have dl : ((t.args.length : Int) != (u.args.length : Int)) = false := by simp [hl']
      clear hl'
      go_wp2_with fail
      go_loopw [5] (fun t5 W => ∃ k : Nat, k ≤ t.args.length ∧ t5 = .int .i64 (k : Int) ∧ Hid (t.args.take k = u.args.take k) ∧ ∃ m, W = w2.drewN m) (fun t5 _ => t.args.length - (intOf t5).toNat)
      case atStart => exact ⟨0, by omega, rfl, by simp [Hid], 0, rfl⟩
      case round =>
        obtain ⟨k, hk, rfl, htk, m, rfl⟩ := hrel
        by_cases hk2 : k < t.args.length
        · have dk : decide ((k : Int) < (t.args.length : Int)) = true := decide_eq_true (by omega)
          have hk3 : k < u.args.length := by rw [← hl.out]; exact hk2
          obtain ⟨g, cap, hg1, hg2⟩ := arg_cell ht2 hk2
          obtain ⟨g', cap', hg3, hg4⟩ := arg_cell hu2 hk3
          injection hg1 with e1 _ e3
          injection hg3 with e4 _ e6
          subst e1 e3 e4 e6
          by_cases he : t.args[k] = u.args[k]
          · have hE : Hid (t.args.take (k + 1) = u.args.take (k + 1)) := args_take hl.out hk2 htk.out he
            have de : ((t.args[k] : Int) != (u.args[k] : Int)) = false := by simp [he]
            clear he
            go_wp2_with fail
            go_quiet (fail)
            go_wp2_with fail
            go_roundw
            case rel => exact ⟨k + 1, by omega, by go_num, hE, _, rfl⟩
            case measure => simp [intOf]; omega
          · have de : ((t.args[k] : Int) != (u.args[k] : Int)) = true := by simp; omega
            go_wp2_with fail
            go_quiet (fail)
            go_wp2_with fail
            go_ret
            refine ⟨ret_bool (decide_eq_false fun e => he ?_).symm, Kept.drewN (Kept.drewN K _) _⟩
            subst e; rfl
        · have dk : decide ((k : Int) < (t.args.length : Int)) = false := decide_eq_false (by omega)
          have hkl : k = t.args.length := by omega
          go_wp2_with fail
          go_ret
          refine ⟨ret_bool (decide_eq_true ?_).symm, Kept.drewN K _⟩
          have e1 : t.args = u.args := by
            have := htk.out
            rw [hkl, List.take_length] at this
            rw [hl.out, List.take_length] at this
            exact this
          have e2 := hn.out
          cases t; cases u; simp at e2 e1 ⊢; exact ⟨e2, e1⟩
    · have dl : ((t.args.length : Int) != (u.args.length : Int)) = true := by simp; omega
      go_wp2_with fail
      go_ret
      exact ⟨ret_bool (decide_eq_false fun e => hl' (by rw [e])).symm, K⟩
  · have dn : (t.name.toList == u.name.toList) = false := beq_eq_false_iff_ne.2 (fun e => hn' (toList_name e))
    go_wp2_with fail
    go_ret
    exact ⟨ret_bool (decide_eq_false fun e => hn' (by rw [e])).symm, K⟩

end Go.Proofs.YtlehlgipbhfioaaGreat

namespace Go.Proofs.YtlehlgipbhfioaaGreat
open Go.RowKit

def clashP (t u : Tm) : Bool := decide (u.name = t.name) && decide (u.args.length ≠ t.args.length)
def clashB (l : List Tm) (t : Tm) : Bool := l.any (clashP t)

theorem any_take {l : List Tm} {p : Tm → Bool} {k : Nat} (hk : k < l.length) (h : (l.take k).any p = false) (hp : p l[k] = false) : (l.take (k + 1)).any p = false := by
  rw [List.take_add_one, List.getElem?_eq_getElem hk]
  simp only [Option.toList_some, List.any_append, h, List.any_cons, hp, List.any_nil, Bool.or_false]

set_option maxHeartbeats 1000000 in
theorem clashes_in (w : World) (base : Nat) (av : Value) (l : List Tm) (vs : List Value) (h : Ls w base av l vs) (hl : l.length ≤ 1000) (t : Tm) (v : Value) (hv : ArgsAt1 w base t.args v) (_ht4 : t.args.length ≤ 5) (hu4 : ∀ u ∈ l, u.args.length ≤ 4) :
    Calls Tryz.prog 63 #[av, .agg #[.string t.name, v]] w fun e w' => e = .returned (.bool (clashB l t)) ∧ Kept0 w w' := by
  obtain ⟨ta, tc, rfl⟩ := row_form hv
  obtain ⟨aa, ac, rfl⟩ := h.form
  have K1 : Kept0 w (w.alloc (.cells #[.string t.name, .slice ta t.args.length tc] 140)) := Kept.alloc (Kept.refl _ w) _
  have R1 := made_row w #[.string t.name, .slice ta t.args.length tc] 140
  generalize hw1 : w.alloc (.cells #[.string t.name, .slice ta t.args.length tc] 140) = w1 at *
  have L1 := h.kept0 K1
  have a0 : w1.cell? ⟨w.heap.size, 0, none⟩ = some (.string t.name) := World.rowIs.cell R1 (i := 0) (by simp)
  have a1 : w1.cell? ⟨w.heap.size, 1, none⟩ = some (.slice ta t.args.length tc) := World.rowIs.cell R1 (i := 1) (by simp)
  go_enter Tryz.func63, Tryz.ntmps63
  go_wp2_with fail
  go_loopw [5] (fun t5 W => ∃ k : Nat, k ≤ l.length ∧ t5 = .int .i64 (k : Int) ∧ Hid ((l.take k).any (clashP t) = false) ∧ ∃ m, W = w1.drewN m) (fun t5 _ => l.length - (intOf t5).toNat)
  case atStart => exact ⟨0, by omega, rfl, by simp [Hid], 0, rfl⟩
  case round =>
    obtain ⟨k, hk, rfl, htk, m, rfl⟩ := hrel
    by_cases hk2 : k < l.length
    · have dk : decide ((k : Int) < (l.length : Int)) = true := decide_eq_true (by omega)
      have hu : l[k]? = some l[k] := List.getElem?_eq_getElem hk2
      have hu4' := hu4 _ (List.getElem_mem hk2)
      generalize hgu : l[k] = u at hu hu4'
      obtain ⟨g, cap, vu, hg, _, g0, g1, hvu⟩ := L1.at hu
      injection hg with e1 _ e3
      subst e1 e3
      obtain ⟨ua, uc, rfl⟩ := row_form hvu
      by_cases hn : u.name = t.name
      · have dn : (u.name.toList == t.name.toList) = true := by rw [hn]; simp
        by_cases hq : u.args.length = t.args.length
        · have dq : ((u.args.length : Int) != (t.args.length : Int)) = false := by simp [hq]
          have hc : Hid ((l.take (k + 1)).any (clashP t) = false) := any_take hk2 htk.out (by rw [hgu]; simp [clashP, hq])
          clear hn hq
          go_wp2_with fail
          go_quiet (fail)
          go_wp2_with fail
          go_roundw
          case rel => exact ⟨k + 1, by omega, by go_num, hc, _, rfl⟩
          case measure => simp [intOf]; omega
        · have dq : ((u.args.length : Int) != (t.args.length : Int)) = true := by simp; omega
          have hB : clashB l t = true := List.any_eq_true.2 ⟨u, List.mem_of_getElem? hu, by simp [clashP, hn, hq]⟩
          clear hn hq
          go_wp2_with fail
          go_quiet (fail)
          go_wp2_with fail
          go_ret
          exact ⟨ret_bool hB.symm, Kept.drewN (Kept.drewN K1 _) _⟩
      · have dn : (u.name.toList == t.name.toList) = false := beq_eq_false_iff_ne.2 (fun e => hn (toList_name e))
        have hc : Hid ((l.take (k + 1)).any (clashP t) = false) := any_take hk2 htk.out (by rw [hgu]; simp [clashP, hn])
        clear hn
        go_wp2_with fail
        go_quiet (fail)
        go_wp2_with fail
        go_roundw
        case rel => exact ⟨k + 1, by omega, by go_num, hc, _, rfl⟩
        case measure => simp [intOf]; omega
    · have dk : decide ((k : Int) < (l.length : Int)) = false := decide_eq_false (by omega)
      have hB : clashB l t = false := by
        have := htk.out
        rw [show k = l.length from by omega, List.take_length] at this
        exact this
      go_wp2_with fail
      go_ret
      exact ⟨ret_bool hB.symm, Kept.drewN K1 _⟩

end Go.Proofs.YtlehlgipbhfioaaGreat
