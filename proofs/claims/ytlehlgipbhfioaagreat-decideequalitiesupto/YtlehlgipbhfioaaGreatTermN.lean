/- Package term: term and args. -/
import Derived.Test.YtlehlgipbhfioaaGreatP15
import Derived.Deep.RegionWith
import Derived.Deep.CutRange
namespace Go.Proofs.YtlehlgipbhfioaaGreat
open Go.RowKit Go.Maps

def bad (e p : Int) : Ending := .panicked [{ v := refusalV e p, recovered := false }]

/-- Out of a region by a panic: what is left to walk there is nothing. -/
theorem way_out {G : Prop} (w : World) (h : G) (_ : wpAny Tryz.prog .any #[] (fun _ _ _ => True) 0 #[] { tmps := #[], defers := [] } w) : G := h

/-- What term leaves. -/
def TermPost (base r p nb fb : Nat) (s : ByteArray) (w : World) (ev : Value) : Res Nat → Ending → World → Prop
  | .ok n k l', e, w' => e = .returned (.int .i64 (n : Int)) ∧ ∃ ev', RB w' base r p ev' nb fb s k l' ∧ Grew (fun k => k = r) p nb fb w ev w' ev'
  | .bad c q l', e, w' => e = .panicked [{ v := refusalV c q, recovered := false }] ∧ ∃ ev' k, RB w' base r p ev' nb fb s k l' ∧ Grew (fun k => k = r) p nb fb w ev w' ev'

/-- What args leaves. -/
def ArgsPost (base r p nb fb : Nat) (s : ByteArray) (x : Nat) (nm : ByteArray) (w : World) (ev : Value) : Res (List Nat) → Ending → World → Prop
  | .ok xs k l', e, w' => e = .returned (.tuple #[]) ∧ ∃ ev', RX w' base r p ev' nb fb s k l' x ⟨nm, xs⟩ ∧ Grew (fun k => k = r ∨ k = x) p nb fb w ev w' ev'
  | .bad c q l', e, w' => e = .panicked [{ v := refusalV c q, recovered := false }] ∧ ∃ ev' k, RB w' base r p ev' nb fb s k l' ∧ Grew (fun k => k = r ∨ k = x) p nb fb w ev w' ev'

def TermAt (f : Nat) : Prop := ∀ (w : World) (base r p : Nat) (ev : Value) (nb fb : Nat) (s : ByteArray) (i : Nat) (l : List Tm) (above : Nat), RB w base r p ev nb fb s i l → 2 * (s.size - i) + 1 ≤ f → l.length + (s.size - i) ≤ 600 → above ≤ 100 →
  Calls Tryz.prog 59 #[.pointer (some ⟨r, 0, none⟩), .int .i64 (above : Int)] w (TermPost base r p nb fb s w ev (pTerm s f above i l))
def ArgsAt (f : Nat) : Prop := ∀ (w : World) (base r p : Nat) (ev : Value) (nb fb : Nat) (s : ByteArray) (i : Nat) (l : List Tm) (above x : Nat) (nm : ByteArray), RX w base r p ev nb fb s i l x ⟨nm, []⟩ → 2 * (s.size - i) + 2 ≤ f → l.length + (s.size - i) ≤ 600 → above ≤ 100 →
  Calls Tryz.prog 103 #[.pointer (some ⟨r, 0, none⟩), .pointer (some ⟨x, 0, none⟩), .int .i64 (above : Int)] w (ArgsPost base r p nb fb s x nm w ev (pArgs s f above i l []))

set_option maxHeartbeats 2000000 in
theorem args_at (f : Nat) (IH : ∀ g, g < f → TermAt g) : ArgsAt f := by
  intro w base r p ev nb fb s i l above x nm h hf hb ha
  have c2 := h.rb.rd.c2
  go_enter Tryz.func103, Tryz.ntmps103
  go_wp2
  go_loopw [] (fun W => ∃ (g k : Nat) (l' : List Tm) (xs : List Nat) (ev' : Value), RX W base r p ev' nb fb s k l' x ⟨nm, xs⟩ ∧ Hid (g ≤ f ∧ pArgs s f above i l [] = pArgs s g above k l' xs ∧ 2 * (s.size - k) + 2 ≤ g ∧ l'.length + (s.size - k) ≤ 600 ∧ (∀ a ∈ xs, a < l'.length)) ∧ xs.length ≤ 4 ∧ Hid (Grew (fun k => k = r ∨ k = x) p nb fb w ev W ev')) (fun W => s.size - (match W.cell? ⟨r, 2, none⟩ with | some v => (intOf v).toNat | none => 0))
  case atStart => exact ⟨f, i, l, [], ev, h, ⟨Nat.le_refl f, rfl, hf, hb, by simp⟩, by simp, Grew.refl _ _ _ _ _ _⟩
  case round =>
    obtain ⟨g, k, l', xs, ev', H, ⟨hgf, hpa, hg, hbk, hxs⟩, hx4, G⟩ := hrel
    clear c2 h hf hb
    have hR := H.rb.rd
    have c1 := hR.c1
    have c2 := hR.c2
    have hle := hR.le
    have hsm := hR.small
    have cc : wr.cell? ⟨x, 1, none⟩ = some (.int .i64 (xs.length : Int)) := H.box.c1
    obtain ⟨g, rfl⟩ : ∃ g', g = g' + 1 := ⟨g - 1, by omega⟩
    rw [pArgs] at hpa
    by_cases h1 : k = s.size
    · rw [if_pos h1] at hpa
      have d1 : (k : Int) = s.size := by omega
      go_wp2_with fail
      go_quiet (fail)
      go_wp2_with (go_at_call 60; refine (refuse_any _ _ _).mono ?_; rintro e w2 ⟨rfl, rfl⟩)
      refine ⟨rfl, ?_⟩
      rw [hpa]
      exact ⟨by rw [h1]; rfl, ev', k, H.rb.drewN _, G.drewN _⟩
    · rw [if_neg h1] at hpa
      have d1 : ((k : Int) == (s.size : Int)) = false := by simp; omega
      have d1' : ¬ (k : Int) = s.size := by omega
      by_cases h4 : xs.length = 4
      · rw [if_pos h4] at hpa
        have d4 : (xs.length : Int) = 4 := by omega
        go_wp2_with fail
        go_quiet (fail)
        go_wp2_with (go_at_call 60; refine (refuse_any _ _ _).mono ?_; rintro e w2 ⟨rfl, rfl⟩)
        refine ⟨rfl, ?_⟩
        rw [hpa]
        exact ⟨rfl, ev', k, H.rb.drewN _, G.drewN _⟩
      · rw [if_neg h4] at hpa
        have d4 : ¬ (xs.length : Int) = 4 := by omega
        have TERM := fun m => IH g (by omega) (wr.drewN m) base r p ev' nb fb s k l' above (H.rb.drewN m) (by omega) hbk ha
        have HD := fun m => H.drewN m
        cases hx : pTerm s g above k l' with
        | bad c q l2 =>
          rw [hx] at TERM hpa
          have TERM' : ∀ m, Calls Tryz.prog 59 #[.pointer (some ⟨r, 0, none⟩), .int .i64 (above : Int)] (wr.drewN m) fun e w' => e = .panicked [{ v := refusalV c q, recovered := false }] ∧ ArgsPost base r p nb fb s x nm w ev (pArgs s f above i l []) e w' := fun m => (TERM m).mono fun e w' hP => ⟨hP.1, by
            rw [hpa]
            refine ⟨hP.1, ?_⟩
            obtain ⟨ev2, k2, R2, G2⟩ := hP.2
            exact ⟨ev2, k2, R2, Grew.trans (G.drewN m) (G2.mono (fun _ _ e => Or.inl e))⟩⟩
          clear TERM HD
          go_wp2_with fail
          go_quiet (fail)
          go_wp2_with fail
          go_region_with (go_at_call 59; refine (TERM' _).mono ?_; rintro e w3 ⟨rfl, hP⟩; refine way_out w3 (And.intro rfl hP) ?_)
          all_goals trivial
        | ok n k2 l2 =>
          rw [hx] at TERM hpa
          have hl4 : xs.length < 4 := by omega
          have hl4' : (xs.length : Int) < 4 := by omega
          go_wp2_with fail
          go_quiet (fail)
          go_wp2_with fail
          go_region_with (go_at_call 59; refine (TERM _).mono ?_; rintro e w3 ⟨rfl, ev2, R2, G2⟩; have X2 := (HD _).grew G2 R2; have cc2 : w3.cell? ⟨x, 1, none⟩ = some (.int .i64 (xs.length : Int)) := X2.box.c1; have co2 := World.rowIs.cell X2.box (i := 2 + xs.length) (by omega); have fo2 := World.rowIs.frozen X2.box (2 + xs.length); have f12 := World.rowIs.frozen X2.box 1)
          all_goals
            clear TERM HD hR c1 c2 cc
            have X3 := X2.push hl4 n
            have cp : (w3.setCell ⟨x, 2 + xs.length, none⟩ (.int .i64 (n : Int))).cell? ⟨x, 1, none⟩ = some (.int .i64 (xs.length : Int)) := by
              rw [World.rowIs.cell (World.rowIs.set X2.box (2 + xs.length) (.int .i64 (n : Int))) (i := 1) (by omega)]
              rw [if_neg (by omega)]
              rfl
            have fp : (w3.setCell ⟨x, 2 + xs.length, none⟩ (.int .i64 (n : Int))).frozen? ⟨x, 1, none⟩ = false := World.rowIs.frozen (World.rowIs.set X2.box (2 + xs.length) (.int .i64 (n : Int))) 1
            have G3 : Grew (fun k => k = r ∨ k = x) p nb fb w ev ((w3.setCell ⟨x, 2 + xs.length, none⟩ (.int .i64 (n : Int))).setCell ⟨x, 1, none⟩ (.int .i64 ((xs.length : Int) + 1))) ev2 := ((Grew.trans (G.drewN _) (G2.mono (Y := fun k => k = r ∨ k = x) (fun _ _ e => Or.inl e))).setCell (Or.inr rfl) _).setCell (Or.inr rfl) _
            generalize hw4 : ((w3.setCell ⟨x, 2 + xs.length, none⟩ (.int .i64 (n : Int))).setCell ⟨x, 1, none⟩ (.int .i64 ((xs.length : Int) + 1))) = w4 at X3 G3
            go_wp2_with fail
            clear hw4 cp fp cc2 co2 fo2 f12 X2 R2 G2
            obtain ⟨B0, B1⟩ := (p_grows s g).1 above k l' hle
            obtain ⟨B2, B3⟩ := B1 n k2 l2 hx
            obtain ⟨A1, A2⟩ := (p_count s g).1 above k l' n k2 l2 hle hx
            rw [hx] at B0
            have B4 : l'.length ≤ l2.length := B0.length_le
            have hxs2 : ∀ a ∈ xs ++ [n], a < l2.length := by
              intro a ha
              rcases List.mem_append.1 ha with ha | ha
              · exact Nat.lt_of_lt_of_le (hxs a ha) B4
              · rw [List.mem_singleton.1 ha]; exact A2
            have S41 := sign_in w4 r _ s k2 X3.rb.rd 41
            cases h41 : stands s k2 41 with
            | true =>
              rw [h41] at S41 hpa
              rw [if_pos rfl] at hpa
              go_wp2_with (go_at_call 102; refine S41.mono ?_; rintro e w5 ⟨rfl, R5, K5⟩)
              go_end0
              obtain ⟨R6, G6⟩ := X3.rb.read K5 R5
              rw [hpa]
              exact ⟨rfl, ev2, X3.grew G6 R6, G3.trans (G6.mono (Y := fun k => k = r ∨ k = x) (fun _ _ e => Or.inl e))⟩
            | false =>
              rw [h41] at S41 hpa
              rw [if_neg (by simp)] at hpa
              rw [behind_false h41] at S41
              cases h44 : stands s k2 44 with
              | true =>
                rw [h44, if_pos rfl] at hpa
                have h5 := behind_lt h44
                have h6 := behind_le (c := 44) B3
                go_wp2_with (go_at_call 102; first | (refine S44.mono ?_; rintro e w6 ⟨rfl, R6, K6⟩) | (refine S41.mono ?_; rintro e w5 ⟨rfl, R5, K5⟩; have P5 := X3.rb.read K5 R5; have S44 := sign_in w5 r _ s k2 R5 44; rw [h44] at S44))
                obtain ⟨R7, G7⟩ := P5
                obtain ⟨R8, G8⟩ := R7.read K6 R6
                go_roundw
                case rel =>
                  exact ⟨g, behind s k2 44, l2, xs ++ [n], ev2, (X3.grew G7 R7).grew G8 R8, ⟨by omega, hpa, by omega, by omega, hxs2⟩, by simp; omega, (G3.trans (G7.mono (Y := fun k => k = r ∨ k = x) (fun _ _ e => Or.inl e))).trans (G8.mono (Y := fun k => k = r ∨ k = x) (fun _ _ e => Or.inl e))⟩
                case measure =>
                  rw [H.rb.rd.c2, R6.c2]
                  simp [intOf]
                  omega
              | false =>
                rw [h44, if_neg (by simp)] at hpa
                go_wp2_with (first | (go_at_call 102; refine S44.mono ?_; rintro e w6 ⟨rfl, R6, K6⟩; have c62 := R6.c2) | (go_at_call 102; refine S41.mono ?_; rintro e w5 ⟨rfl, R5, K5⟩; have P5 := X3.rb.read K5 R5; have S44 := sign_in w5 r _ s k2 R5 44; rw [h44, behind_false h44] at S44) | (go_at_call 60; refine (refuse_any _ _ _).mono ?_; rintro e w2 ⟨rfl, rfl⟩))
                obtain ⟨R7, G7⟩ := P5
                obtain ⟨R8, G8⟩ := R7.read K6 R6
                refine ⟨rfl, ?_⟩
                rw [hpa]
                exact ⟨rfl, ev2, k2, R8, (G3.trans (G7.mono (Y := fun k => k = r ∨ k = x) (fun _ _ e => Or.inl e))).trans (G8.mono (Y := fun k => k = r ∨ k = x) (fun _ _ e => Or.inl e))⟩

end Go.Proofs.YtlehlgipbhfioaaGreat
