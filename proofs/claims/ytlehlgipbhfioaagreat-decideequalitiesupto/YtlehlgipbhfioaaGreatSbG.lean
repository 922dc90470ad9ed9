/- Package sat: slices.Sort of a clause whose greatest literal stands first and whose others rise: pdqsortOrdered. -/
import Derived.Test.YtlehlgipbhfioaaGreatP07
namespace Go.Proofs.YtlehlgipbhfioaaGreat
open Go.RowKit Go.Maps

/-- What stands just ahead is less than all of them. -/
def LowG (a b : Nat) (G : Nat → Nat) : Prop := a = 0 ∨ ∀ t, a ≤ t → t < b → G (a - 1) < G t

theorem ShG.rot {a b a' : Nat} {G : Nat → Nat} (h : ShG a b G) (h1 : a ≤ a') : ShG a' b (rotG a (a' + 1) G) := by
  refine ⟨fun s t hs hst ht => ?_, fun t ht htb => ?_⟩
  · have := h.up s t (by omega) hst ht
    unfold rotG
    rw [if_neg (by omega), if_neg (by omega), if_neg (by omega), if_neg (by omega)]
    exact this
  · have := h.top t (by omega) htb
    unfold rotG
    rw [if_neg (by omega), if_neg (by omega), if_neg (by omega), if_pos (by omega)]
    exact this
theorem rot_rot {a b a' : Nat} (G : Nat → Nat) (h1 : a ≤ a') (h2 : a' < b ∨ a' = a) (t : Nat) : rotG a' b (rotG a (a' + 1) G) t = rotG a b G t := by
  unfold rotG
  grind
theorem ShG.prt {a b p : Nat} {R : Nat → Nat} (h : ShG a b R) (h1 : a + 2 ≤ p) (h2 : p < b) : ShG a (p - 1) (prtB a p R) := by
  refine ⟨fun s t hs hst ht => ?_, fun t ht htb => ?_⟩
  · have := h.up s t (by omega) hst (by omega)
    unfold prtB
    rw [if_neg (by omega), if_neg (by omega), if_neg (by omega), if_neg (by omega), if_neg (by omega), if_neg (by omega)]
    exact this
  · have := h.up t (p - 1) (by omega) (by omega) (by omega)
    unfold prtB
    rw [if_neg (by omega), if_neg (by omega), if_neg (by omega), if_pos rfl]
    exact this
theorem rot_prt {a a' p : Nat} (G : Nat → Nat) (h1 : a ≤ a') (h2 : a' + 2 ≤ p) (t : Nat) : rotG a (p + 1) G t = rotG a' (p - 1) (prtB a' p (rotG a (a' + 1) G)) t := by
  unfold rotG prtB
  grind
theorem LowG.rot {a b a' : Nat} {G : Nat → Nat} (h : LowG a b G) (hs : ShG a b G) (h1 : a ≤ a') (h2 : a' < b ∨ a' = a) : LowG a' b (rotG a (a' + 1) G) := by
  by_cases e : a' = a
  · subst e
    rcases h with h | h
    · exact Or.inl h
    · refine Or.inr fun t ht htb => ?_
      have := h t ht htb
      by_cases e2 : a' = 0
      · subst e2
        exact absurd (h 0 (by omega) (by omega)) (Nat.lt_irrefl _)
      unfold rotG
      grind
  · refine Or.inr fun t ht htb => ?_
    have h3 := hs.top a' (by omega) (by omega)
    by_cases e3 : t = a'
    · unfold rotG
      grind
    · have h4 := hs.up a' t (by omega) (by omega) htb
      unfold rotG
      grind
theorem LowG.prt {a b p : Nat} {R : Nat → Nat} (h : LowG a b R) (h1 : a + 2 ≤ p) (h2 : p < b) : LowG a (p - 1) (prtB a p R) := by
  rcases h with h | h
  · exact Or.inl h
  · by_cases e2 : a = 0
    · exact Or.inl e2
    refine Or.inr fun t ht htb => ?_
    have h3 := h t ht (by omega)
    have h4 := h (p - 1) (by omega) (by omega)
    unfold prtB
    grind

set_option maxRecDepth 100000 in
set_option maxHeartbeats 0 in
/-- It rotates them. -/
theorem pdqG_in (N : Nat) : ∀ (w : World) (g n c a b lim : Nat) (G : Nat → Nat), b - a < N → RowG w g n G → a ≤ b → b ≤ n → n ≤ 1000000 → ShG a b G → LowG a b G → 1 ≤ lim → lim ≤ 100 →
    Calls Tryz.prog 162 #[.slice (some ⟨g, 0, none⟩) n c, .int .i64 (a : Int), .int .i64 (b : Int), .int .i64 (lim : Int)] w fun e w' => e = .returned (.tuple #[]) ∧ RowG w' g n (rotG a b G) ∧ Kept (fun k => k = g) w w' := by
  induction N with
  | zero => intro w g n c a b lim G hN; exact absurd hN (Nat.not_lt_zero _)
  | succ N IH =>
    intro w g n c a b lim G hN h hab hb hn hs hl hl1 hl2
    have HS : Hid (ShG a b G ∧ LowG a b G) := ⟨hs, hl⟩
    have HI : Hid _ := IH
    have HR0 : Hid (RowG w g n (rotG a (a + 1) G) ∧ Kept (fun k => k = g) w w) := ⟨h.congr fun t _ => rot_one a G t, Kept.refl _ _⟩
    have dl : ((lim : Int) == 0) = false := by simp; omega
    clear IH h hs hl
    go_enter Tryz.func162, Tryz.ntmps162
    go_wp2_with fail
    go_loopw [1, 2, 3, 8, 9] (fun t1 t2 t3 t8 t9 W => t2 = .int .i64 (b : Int) ∧ t3 = .int .i64 (lim : Int) ∧ t8 = .bool true ∧ t9 = .bool true ∧ ∃ a' : Nat, a ≤ a' ∧ (a' < b ∨ a' = a) ∧ t1 = .int .i64 (a' : Int) ∧ Hid (RowG W g n (rotG a (a' + 1) G) ∧ Kept (fun k => k = g) w W)) (fun t1 _ _ _ _ _ => b - (intOf t1).toNat)
    case atStart => exact ⟨rfl, rfl, rfl, rfl, a, Nat.le_refl _, Or.inr rfl, rfl, HR0⟩
    case round =>
      clear HR0
      obtain ⟨rfl, rfl, rfl, rfl, a', ha1, ha2, rfl, HV⟩ := hrel
      have hwba : IntKind.i64.wrap ((b : Int) - (a' : Int)) = (b : Int) - (a' : Int) := by rw [IntKind.wrap_i64]; omega
      have HD : Hid (∀ W, RowG W g n (rotG a' b (rotG a (a' + 1) G)) → RowG W g n (rotG a b G)) := fun W hW => hW.congr fun t _ => (rot_rot G ha1 ha2 t).symm
      have HS2 : Hid (ShG a' b (rotG a (a' + 1) G) ∧ LowG a' b (rotG a (a' + 1) G)) := ⟨HS.out.1.rot ha1, HS.out.2.rot HS.out.1 ha1 ha2⟩
      have HP : Hid (∀ W p, a' + 2 ≤ p → RowG W g n (rotG a' (p - 1) (prtB a' p (rotG a (a' + 1) G))) → RowG W g n (rotG a (p + 1) G)) := fun W p hp hW => hW.congr fun t _ => rot_prt G ha1 hp t
      generalize rotG a (a' + 1) G = R at HV HD HS2 HP
      by_cases h12 : b ≤ a' + 12
      · have d12 : decide ((b : Int) - (a' : Int) ≤ 12) = true := decide_eq_true (by omega)
        have IN := fun m => insR_in (wr.drewN m) g n c a' b R (HV.out.1.drew m) (by omega) hb hn HS2.out.1
        have HIN : Hid _ := IN
        clear IN
        go_wp2_with (first | (go_at_call 201; refine (HIN.out 0).mono ?_; rintro e w3 ⟨rfl, HY⟩))
        exact ⟨rfl, .tuple #[], by simp [results, Tryz.results162], rfl, HD.out _ HY.1, HV.out.2.trans HY.2⟩
      · have d12 : decide ((b : Int) - (a' : Int) ≤ 12) = false := decide_eq_false (by omega)
        have hab3 : a' + 13 ≤ b := by omega
        obtain ⟨p, hp⟩ : ∃ p, p = a' + (b - a') / 4 * 2 := ⟨_, rfl⟩
        have HCH : Hid (Calls Tryz.prog 204 #[.slice (some ⟨g, 0, none⟩) n c, .int .i64 (a' : Int), .int .i64 (b : Int)] wr fun e w' => e = .returned (.tuple #[.int .i64 (p : Int), .int .i64 1]) ∧ Below wr.heap.size wr w') := by
          have := choose_in wr g n c a' b R HV.out.1 hab3 hb hn (fun s t h1 h2 h3 => by
            rcases Nat.lt_or_eq_of_le h2 with h4 | h4
            · exact Nat.le_of_lt (HS2.out.1.up s t h1 h4 h3)
            · rw [h4]; exact Nat.le_refl _)
          rw [← hp] at this
          exact this
        have HBK : Hid (∀ w3, Below wr.heap.size wr w3 → RowG w3 g n R ∧ Kept (fun k => k = g) w w3) := fun w3 hB => ⟨HV.out.1.below hB, HV.out.2.trans ⟨hB.os, hB.tape, hB.output, hB.size, fun k hk _ => hB.block k hk⟩⟩
        have hp2 : a' + 2 ≤ p := by omega
        have hpb : p < b := by omega
        have hpl : 8 * (p - 1 - a') ≥ b - a' := by omega
        have hpr : p - 1 - a' < b - (p - 1) := by omega
        clear hp HV
        go_wp2_with (first | (go_at_call 204; refine HCH.out.mono ?_; rintro e w3 ⟨rfl, HB⟩; have HV3 : Hid _ := HBK.out w3 HB; clear HBK HB HCH))
        by_cases h50 : a' + 50 ≤ b
        · go_wp2_with (first | (go_at_call 206; refine (partI_yes w3 g n c a' b R HV3.out.1 hb hn HS2.out.1 h50).mono ?_; rintro e w4 ⟨rfl, HY⟩))
          exact ⟨rfl, .tuple #[], by simp [results, Tryz.results162], rfl, HD.out _ HY.1, HV3.out.2.trans HY.2⟩
        · obtain ⟨q, hq⟩ : ∃ q, q = p - 1 := ⟨_, rfl⟩
          have HPN : Hid (∀ W, RowG W g n R → Calls Tryz.prog 209 #[.slice (some ⟨g, 0, none⟩) n c, .int .i64 (a' : Int), .int .i64 (b : Int), .int .i64 (p : Int)] W fun e w' => e = .returned (.tuple #[.int .i64 (q : Int), .bool true]) ∧ RowG w' g n (prtB a' p R) ∧ Kept (fun k => k = g) W w') := fun W hW => by
            have := partn_in W g n c a' b p R hW hp2 hpb hb hn HS2.out.1
            rw [← hq] at this
            exact this
          have HIH : Hid (∀ W, RowG W g n (prtB a' p R) → Calls Tryz.prog 162 #[.slice (some ⟨g, 0, none⟩) n c, .int .i64 (a' : Int), .int .i64 (q : Int), .int .i64 (lim : Int)] W fun e w' => e = .returned (.tuple #[]) ∧ RowG w' g n (rotG a' q (prtB a' p R)) ∧ Kept (fun k => k = g) W w') := fun W hW => HI.out W g n c a' q lim (prtB a' p R) (by omega) hW (by omega) (by omega) hn (by rw [hq]; exact HS2.out.1.prt hp2 hpb) (by rw [hq]; exact HS2.out.2.prt hp2 hpb) hl1 hl2
          have h1 : IntKind.i64.wrap ((q : Int) - (a' : Int)) = (q : Int) - (a' : Int) := by rw [IntKind.wrap_i64]; omega
          have h2 : IntKind.i64.wrap ((b : Int) - (q : Int)) = (b : Int) - (q : Int) := by rw [IntKind.wrap_i64]; omega
          have h3 : IntKind.i64.wrap ((q : Int) + 1) = (q : Int) + 1 := by rw [IntKind.wrap_i64]; omega
          have h4 : decide ((q : Int) - (a' : Int) < (b : Int) - (q : Int)) = true := decide_eq_true (by omega)
          have HQ : Hid (q = p - 1 ∧ a' + 2 ≤ p ∧ p < b ∧ p ≤ n ∧ 8 * (p - 1 - a') ≥ b - a') := ⟨hq, hp2, hpb, by omega, hpl⟩
          have hwl : 8 * ((q : Int) - a') ≥ (b : Int) - a' := by omega
          clear hq hpl hpr
          go_wp2_with (first | (go_at_call 206; refine (partI_no w3 g n c a' b R HV3.out.1 (by omega) hb hn HS2.out.1 (by omega)).mono ?_; rintro e w4 ⟨rfl, m4, hw4⟩; have HV4 : Hid (RowG w4 g n R ∧ Kept (fun k => k = g) w w4) := (by rw [hw4]; exact ⟨HV3.out.1.drew m4, HV3.out.2.drewN m4⟩); clear hw4 HV3))
          by_cases hz : a' = 0
          · have dz : decide ((0 : Int) < (a' : Int)) = false := decide_eq_false (by omega)
            have dz1 : decide ((a' : Int) > 0) = false := decide_eq_false (by omega)
            have dz2 : decide (0 < a') = false := decide_eq_false (by omega)
            clear hz
            go_quiet (fail)
            go_wp2_with (first | (go_at_call 209; refine Calls.mono (HPN.out _ (by exact HV4.out.1)) ?_; rintro e w5 ⟨rfl, HY⟩) | (go_at_call 162; refine Calls.mono (HIH.out _ HY.1) ?_; rintro e w6 ⟨rfl, HZ⟩))
            have hqq := HQ.out
            have hz1 := HZ.1
            rw [hqq.1] at hz1
            refine ⟨⟨rfl, rfl, by rw [decide_eq_true (by omega)], rfl, p, by omega, Or.inl hpb, ?_, HP.out _ p hp2 hz1, (HV4.out.2.drewN nq).trans (HY.2.trans HZ.2)⟩, by simp [intOf]; omega⟩
            have e : (q : Int) + 1 = (p : Int) := by omega
            rw [e]
          · have HK : Hid (∃ k, a' = k + 1) := ⟨a' - 1, by omega⟩
            obtain ⟨k, hk⟩ := HK.out
            have dz : decide ((0 : Int) < (a' : Int)) = true := decide_eq_true (by omega)
            have dz1 : decide ((a' : Int) > 0) = true := decide_eq_true (by omega)
            have dz2 : decide (0 < a') = true := decide_eq_true (by omega)
            have hkw : IntKind.i64.wrap ((a' : Int) - 1) = (k : Int) := by rw [IntKind.wrap_i64]; omega
            have hkw2 : wrap64 ((a' : Int) - 1) = (k : Int) := by unfold wrap64; omega
            have hkw3 : (a' : Int) - 1 = (k : Int) := by omega
            have cx := HV4.out.1.cell k (by omega)
            have cp := HV4.out.1.cell p (by omega)
            have hlt : R k < R p := by
              rcases HS2.out.2 with h | h
              · omega
              · have := h p (by omega) hpb
                rwa [hk, Nat.add_sub_cancel] at this
            have LS := fun W : World => sLess_in W (R k : Int) (R p : Int)
            have dx : decide ((R k : Int) < (R p : Int)) = true := decide_eq_true (by omega)
            have dx2 : decide (R k < R p) = true := decide_eq_true hlt
            have hkn : k < n := by omega
            have hpn : p < n := by omega
            clear hz hk HK hlt
            generalize R k = x at cx LS dx dx2
            generalize R p = y at cp LS dx dx2
            go_quiet ((go_at_call 207; exact Calls.quiet_of_same ((LS _).mono fun _ _ x => ⟨x.1, x.2.symm⟩)))
            clear cx cp LS dx dx2
            go_wp2_with (first | (go_at_call 209; refine Calls.mono (HPN.out _ (by exact HV4.out.1)) ?_; rintro e w5 ⟨rfl, HY⟩) | (go_at_call 162; refine Calls.mono (HIH.out _ HY.1) ?_; rintro e w6 ⟨rfl, HZ⟩))
            have hqq := HQ.out
            have hz1 := HZ.1
            rw [hqq.1] at hz1
            refine ⟨⟨rfl, rfl, by rw [decide_eq_true (by omega)], rfl, p, by omega, Or.inl hpb, ?_, HP.out _ p hp2 hz1, (HV4.out.2.drewN nq).trans (HY.2.trans HZ.2)⟩, by simp [intOf]; omega⟩
            have e : (q : Int) + 1 = (p : Int) := by omega
            rw [e]
end Go.Proofs.YtlehlgipbhfioaaGreat
