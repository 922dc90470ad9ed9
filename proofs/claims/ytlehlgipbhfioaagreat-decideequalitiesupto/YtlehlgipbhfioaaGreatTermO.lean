/- Package term: term; the recursion. -/
import Derived.Test.YtlehlgipbhfioaaGreatTermN
namespace Go.Proofs.YtlehlgipbhfioaaGreat
open Go.RowKit Go.Maps

theorem nm_small {s : ByteArray} {i : Nat} (h : badNm s i = false) (hi : i ≤ s.size) : (s.extract i (nmE s i)).size ≤ 6 := by
  rw [ext_size (nmE_ge s i) (nmE_le hi)]
  have : ¬ 6 < nmE s i - i := fun x => by simp [badNm, x] at h
  omega

theorem right_lt {w : World} {b : Nat} {o : Obj} (h : w.heap[b]? = some o) : b < w.heap.size := (Array.getElem?_eq_some_iff.1 h).1

/-- A new entry is laid. -/
theorem RB.boxed {w : World} {base r p : Nat} {ev : Value} {nb fb : Nat} {s : ByteArray} {i : Nat} {l : List Tm} (h : RB w base r p ev nb fb s i l) (t : Tm) :
    RX (w.alloc (.cells (entryL t).toArray 152)) base r p ev nb fb s i l w.heap.size t ∧ Grew (fun k => k = r) p nb fb w ev (w.alloc (.cells (entryL t).toArray 152)) ev := by
  have K : Kept0 w (w.alloc (.cells (entryL t).toArray 152)) := Kept.alloc (Kept.refl _ w) _
  obtain ⟨R, G⟩ := h.kept0 K
  have h1 := h.rd.row.lt
  have h2 := h.bk.bank.lt
  obtain ⟨Dn, n1, _, _⟩ := h.bk.nums
  obtain ⟨Df, f1, _, _⟩ := h.bk.fsts
  have h3 := World.ownsMap.lt n1
  have h4 := World.ownsMap.lt f1
  refine ⟨⟨R, boxed_row w t, by omega, by omega, by omega, by omega, ?_⟩, G⟩
  intro e
  rcases h.bk.rows.2 with ⟨e2, h0⟩ | ⟨b, cap, cur, e2, hb, e2h⟩
  · rw [e2] at e; simp [Value.ownBlock] at e
  · rw [e2] at e
    simp [Value.ownBlock] at e
    have := right_lt e2h.1
    omega

set_option maxHeartbeats 2000000 in
theorem term_at (f : Nat) (IA : ArgsAt f) : TermAt (f + 1) := by
  intro w base r p ev nb fb s i l above h hf hb ha
  have c2 := h.rd.c2
  have hle := h.rd.le
  have hsm := h.rd.small
  have NM := name_in w r _ s i h.rd
  rw [pTerm]
  go_enter Tryz.func59, Tryz.ntmps59
  cases hbad : badNm s i with
  | true =>
    rw [if_pos rfl]
    have NM' : Calls Tryz.prog 101 #[.pointer (some ⟨r, 0, none⟩)] w fun e w' => e = .panicked [{ v := refusalV 2 i, recovered := false }] ∧ TermPost base r p nb fb s w ev (.bad 2 i l) e w' := NM.mono fun e w' hP => by
      obtain ⟨K, ⟨_, he, k, R⟩ | ⟨hx, _⟩⟩ := hP
      · obtain ⟨R2, G2⟩ := h.read K R
        exact ⟨he, he, ev, k, R2, G2⟩
      · rw [hbad] at hx; cases hx
    clear NM
    go_wp2_with (go_at_call 101; refine NM'.mono ?_; rintro e w3 ⟨rfl, hP⟩)
    exact ⟨rfl, hP⟩
  | false =>
    rw [if_neg (by simp)]
    have NM' : Calls Tryz.prog 101 #[.pointer (some ⟨r, 0, none⟩)] w fun e w' => e = .returned (.string (s.extract i (nmE s i))) ∧ RB w' base r p ev nb fb s (bl s (nmE s i)) l ∧ Grew (fun k => k = r) p nb fb w ev w' ev := NM.mono fun e w' hP => by
      obtain ⟨K, ⟨hx, _⟩ | ⟨_, he, R⟩⟩ := hP
      · rw [hbad] at hx; cases hx
      · obtain ⟨R2, G2⟩ := h.read K R
        exact ⟨he, R2, G2⟩
    clear NM
    have hn6 := nm_small hbad hle
    generalize hNm : s.extract i (nmE s i) = N at hn6 NM' ⊢
    by_cases hab : 12 < above
    · rw [if_pos hab]
      have d12 : (12 : Int) < (above : Int) := by omega
      go_wp2_with (first | (go_at_call 101; refine NM'.mono ?_; rintro e w3 ⟨rfl, R3, G3⟩; have B3 := R3.boxed ⟨N, []⟩) | (go_at_call 60; refine (refuse_any _ _ _).mono ?_; rintro e w2 ⟨rfl, rfl⟩))
      exact ⟨rfl, rfl, ev, _, B3.1.rb, G3.trans B3.2⟩
    · rw [if_neg hab]
      have d12 : ¬ (12 : Int) < (above : Int) := by omega
      have hw3 : ∀ (w3 : World) (R3 : RB w3 base r p ev nb fb s (bl s (nmE s i)) l), Calls Tryz.prog 102 #[.pointer (some ⟨r, 0, none⟩), .int .u8 40] (w3.alloc (.cells (entryL ⟨N, []⟩).toArray 152)) fun e w' => e = .returned (.bool (stands s (bl s (nmE s i)) 40)) ∧ RX w' base r p ev nb fb s (behind s (bl s (nmE s i)) 40) l w3.heap.size ⟨N, []⟩ ∧ Grew (fun k => k = r) p nb fb w3 ev w' ev := fun w3 R3 => by
        obtain ⟨X, G⟩ := R3.boxed ⟨N, []⟩
        refine (sign_in _ r _ s _ X.rb.rd 40).mono ?_
        rintro e w4 ⟨he, R4, K4⟩
        obtain ⟨R5, G5⟩ := X.rb.read K4 R4
        exact ⟨he, X.grew G5 R5, G.trans G5⟩
      have h1 := nm_lt hbad
      have h2 := nmE_le hle
      have h3 := bl_ge s (nmE s i)
      have h4 := bl_le h2
      cases hst : stands s (bl s (nmE s i)) 40 with
      | false =>
        rw [if_neg (by simp)]
        rw [hst, behind_false hst] at hw3
        go_wp2_with (first | (go_at_call 101; refine NM'.mono ?_; rintro e w3 ⟨rfl, R3, G3⟩; have S3 := hw3 w3 R3; have hfr := G3.kept.size; unfold entryL at S3) | (go_at_call 102; refine S3.mono ?_; rintro e w4 ⟨rfl, X, G4⟩))
        have G := G3.trans G4
        clear hw3 S3 G3 G4 R3 NM'
        generalize w3.heap.size = x at *
        obtain ⟨W, hW⟩ : ∃ W, W = w4 := ⟨_, rfl⟩
        rw [← hW] at X G ⊢
        clear hW
        obtain ⟨l', hl'⟩ : ∃ l', l' = l := ⟨_, rfl⟩
        obtain ⟨ev', hev'⟩ : ∃ ev', ev' = ev := ⟨_, rfl⟩
        obtain ⟨xs, hxs0⟩ : ∃ xs : List Nat, xs = [] := ⟨_, rfl⟩
        rw [← hl', ← hev', ← hxs0] at X
        have hgoal : pEnd ⟨N, []⟩ i (bl s (nmE s i)) l = pEnd ⟨N, xs⟩ i (bl s (nmE s i)) l' := by rw [hxs0, hl']
        have hx4 : xs.length ≤ 4 := by simp [hxs0]
        have hxs : ∀ a ∈ xs, a < 1000 := by simp [hxs0]
        have hlt : l'.length < 1000 := by rw [hl']; omega
        replace G : Grew (fun k => k = r) p nb fb w ev W ev' := by rw [hev']; exact G
        clear hl' hev' hxs0
        have ht : (⟨N, xs⟩ : Tm).ok := ⟨hn6, hx4, hxs⟩
        generalize htt : (⟨N, xs⟩ : Tm) = t at ht X hgoal
        have rc0 := X.rb.rd.c0
        have y0 := X.box.c0
        have y1 := X.box.c1
        have y2 := X.box.c2
        have y3 := X.box.c3
        have y4 := X.box.c4
        have y5 := X.box.c5
        have FITS := fun m => fits_in (W.drewN m) base p ev' nb fb l' (X.rb.bk.drewN m) t ht
        unfold entryV entryL at FITS
        cases hfit : fitsB l' t with
        | false =>
          rw [hfit] at FITS
          go_region_with (go_at_call 104; refine (FITS _).mono ?_; rintro e w6 ⟨rfl, B6, K6⟩; have P6 := (X.rb.drewN _).kept0 K6; have Q6 := (G.drewN _).trans P6.2)
          all_goals
            go_wp2_with (go_at_call 60; refine (refuse_any _ _ _).mono ?_; rintro e w2 ⟨rfl, rfl⟩)
            refine ⟨rfl, ?_⟩
            first | rw [hgoal] | rw [htt] | skip
            unfold pEnd
            rw [hfit]
            exact ⟨rfl, ev', _, P6.1, Q6⟩
        | true =>
          rw [hfit] at FITS
          go_region_with (go_at_call 104; refine (FITS _).mono ?_; rintro e w6 ⟨rfl, B6, K6⟩; have P6 := (X.rb.drewN _).kept0 K6; have Q6 := (G.drewN _).trans P6.2; have X6 := (X.drewN _).grew P6.2 P6.1)
          all_goals
            clear rc0 y0 y1 y2 y3 y4 y5 FITS P6
            have rc0 := X6.rb.rd.c0
            have y0 := X6.box.c0
            have y1 := X6.box.c1
            have y2 := X6.box.c2
            have y3 := X6.box.c3
            have y4 := X6.box.c4
            have y5 := X6.box.c5
            have ADD := fun m => add_in (w6.drewN m) base p ev' nb fb l' (X6.rb.bk.drewN m) t ht hlt X6.rb.bs
            unfold entryV entryL at ADD
            go_wp2_with fail
            go_region_with (go_at_call 105; refine (ADD _).mono ?_; rintro e w7 ⟨rfl, ev7, B7, K7, L7⟩; have P7 := (X6.rb.drewN _).banked K7 B7 L7; have Q7 := (Q6.drewN _).trans P7.2)
            all_goals
              go_wp2_with fail
              go_ret
              first | rw [hgoal] | rw [htt] | skip
              unfold pEnd
              rw [hfit]
              exact ⟨rfl, ev7, P7.1, Q7⟩
      | true =>
        rw [if_pos rfl]
        rw [hst] at hw3
        have h5 := behind_lt hst
        have h6 := behind_le (c := 40) h4
        have ARGS := fun (w4 : World) (x : Nat) X => IA w4 base r p ev nb fb s (behind s (bl s (nmE s i)) 40) l (above + 1) x N X (by omega) (by omega) (by omega)
        rw [show ((above + 1 : Nat) : Int) = (above : Int) + 1 from by omega] at ARGS
        cases hp : pArgs s f (above + 1) (behind s (bl s (nmE s i)) 40) l [] with
        | bad c q l' =>
          rw [hp] at ARGS
          go_wp2_with (first | (go_at_call 101; refine NM'.mono ?_; rintro e w3 ⟨rfl, R3, G3⟩; have S3 := hw3 w3 R3; have hfr := G3.kept.size; unfold entryL at S3) | (go_at_call 102; refine S3.mono ?_; rintro e w4 ⟨rfl, X, G4⟩; have A4 := ARGS w4 _ X) | (go_at_call 103; refine A4.mono ?_; rintro e w5 ⟨rfl, ev5, k5, R5, G5⟩))
          have G := ((G3.trans G4).mono (Y := fun k => k = r ∨ k = w3.heap.size) (fun _ _ e => Or.inl e)).trans G5
          exact ⟨rfl, rfl, ev5, k5, R5, G.mono (fun k hk e => e.elim id (fun e => by omega))⟩
        | ok xs k l' =>
          rw [hp] at ARGS
          obtain ⟨B0, B1⟩ := (p_grows s f).2 (above + 1) (behind s (bl s (nmE s i)) 40) l [] h6
          obtain ⟨B2, B3⟩ := B1 xs k l' hp
          obtain ⟨A1, hx4, A3⟩ := (p_count s f).2 (above + 1) (behind s (bl s (nmE s i)) 40) l [] xs k l' h6 (by simp) (by simp) hp
          have hlt : l'.length < 1000 := by omega
          have hxs : ∀ a ∈ xs, a < 1000 := fun a ha => by have := A3 a ha; omega
          go_wp2_with (first | (go_at_call 101; refine NM'.mono ?_; rintro e w3 ⟨rfl, R3, G3⟩; have S3 := hw3 w3 R3; have hfr := G3.kept.size; unfold entryL at S3) | (go_at_call 102; refine S3.mono ?_; rintro e w4 ⟨rfl, X4, G4⟩; have A4 := ARGS w4 _ X4) | (go_at_call 103; refine A4.mono ?_; rintro e W ⟨rfl, ev', X, G5⟩))
          have G0 := ((G3.trans G4).mono (Y := fun k => k = r ∨ k = w3.heap.size) (fun _ _ e => Or.inl e)).trans G5
          have G : Grew (fun k => k = r) p nb fb w ev W ev' := G0.mono (fun k hk e => e.elim id (fun e => by omega))
          clear hw3 S3 G3 G4 R3 NM' G5 G0 A4 ARGS X4
          generalize w3.heap.size = x at *
          have hgoal : pEnd ⟨N, xs⟩ i k l' = pEnd ⟨N, xs⟩ i k l' := rfl
          show Code.wp _ _ _ _ _
          have ht : (⟨N, xs⟩ : Tm).ok := ⟨hn6, hx4, hxs⟩
          generalize htt : (⟨N, xs⟩ : Tm) = t at ht X hgoal
          have rc0 := X.rb.rd.c0
          have y0 := X.box.c0
          have y1 := X.box.c1
          have y2 := X.box.c2
          have y3 := X.box.c3
          have y4 := X.box.c4
          have y5 := X.box.c5
          have FITS := fun m => fits_in (W.drewN m) base p ev' nb fb l' (X.rb.bk.drewN m) t ht
          unfold entryV entryL at FITS
          cases hfit : fitsB l' t with
          | false =>
            rw [hfit] at FITS
            go_region_with (go_at_call 104; refine (FITS _).mono ?_; rintro e w6 ⟨rfl, B6, K6⟩; have P6 := (X.rb.drewN _).kept0 K6; have Q6 := (G.drewN _).trans P6.2)
            all_goals
              go_wp2_with (go_at_call 60; refine (refuse_any _ _ _).mono ?_; rintro e w2 ⟨rfl, rfl⟩)
              refine ⟨rfl, ?_⟩
              first | rw [hgoal] | rw [htt] | skip
              unfold pEnd
              rw [hfit]
              exact ⟨rfl, ev', _, P6.1, Q6⟩
          | true =>
            rw [hfit] at FITS
            go_region_with (go_at_call 104; refine (FITS _).mono ?_; rintro e w6 ⟨rfl, B6, K6⟩; have P6 := (X.rb.drewN _).kept0 K6; have Q6 := (G.drewN _).trans P6.2; have X6 := (X.drewN _).grew P6.2 P6.1)
            all_goals
              clear rc0 y0 y1 y2 y3 y4 y5 FITS P6
              have rc0 := X6.rb.rd.c0
              have y0 := X6.box.c0
              have y1 := X6.box.c1
              have y2 := X6.box.c2
              have y3 := X6.box.c3
              have y4 := X6.box.c4
              have y5 := X6.box.c5
              have ADD := fun m => add_in (w6.drewN m) base p ev' nb fb l' (X6.rb.bk.drewN m) t ht hlt X6.rb.bs
              unfold entryV entryL at ADD
              go_wp2_with fail
              go_region_with (go_at_call 105; refine (ADD _).mono ?_; rintro e w7 ⟨rfl, ev7, B7, K7, L7⟩; have P7 := (X6.rb.drewN _).banked K7 B7 L7; have Q7 := (Q6.drewN _).trans P7.2)
              all_goals
                go_wp2_with fail
                go_ret
                first | rw [hgoal] | rw [htt] | skip
                unfold pEnd
                rw [hfit]
                exact ⟨rfl, ev7, P7.1, Q7⟩

/-- The recursion's end. -/
theorem at_all : ∀ f, TermAt f
  | 0 => fun _ _ _ _ _ _ _ _ _ _ _ _ hf => absurd hf (by omega)
  | f + 1 => term_at f (args_at f (fun g _ => at_all g))

end Go.Proofs.YtlehlgipbhfioaaGreat
