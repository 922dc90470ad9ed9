/- The document's own Sets (equateref02): Least, Same, Undo; ints. -/
import Derived.Test.YtpipihllofpnaaaFindR
import Derived.Test.YtpipihllofpnaaaLawC
import Derived.Deep.RegionLaw
namespace Go.Proofs.Ytpipihllofpnaaa
open Go.RowKit

theorem los_length (n : Nat) (g : Uf.G) : (Uf.los n g).length = n := by simp [Uf.los]
theorem intsC_length (l : List Nat) : (intsC l).length = l.length := by simp [intsC]
theorem intsC_get (l : List Nat) (i : Nat) (h : i < l.length) : (intsC l)[i]? = some (.int .i64 ((l[i]?.getD 0 : Nat) : Int)) := by
  simp only [intsC, List.getElem?_map, List.getElem?_eq_getElem h]; rfl
theorem los_get (n : Nat) (g : Uf.G) (i : Nat) (h : i < n) : ((Uf.los n g)[i]?.getD 0) = g.lo i := by simp [Uf.los, h]

/-- The log of a state. -/
abbrev RefS (w : World) (base rp n : Nat) (lv : Value) (s : GT) : Prop := Ref w base rp n lv (Uf.logOf n s.1 s.2)

theorem RefS.now (w : World) (base rp n : Nat) (lv : Value) (s : GT) (h : RefS w base rp n lv s) (ht : s.2.length ≤ 60) :
    Calls Try.prog 80 #[.pointer (some ⟨rp, 0, none⟩)] w fun e w' => ∃ v m, e = .returned v ∧ w' = w.drewN m ∧ w.ownsRow base 3 1 v n (intsC (Uf.los n s.1)) := by
  have := rNow_in w base rp n lv _ h s.2.length (Uf.logOf_length n s.2 s.1) ht _ (Uf.logOf_last n s.2 s.1)
  rw [los_length] at this
  exact this

set_option maxHeartbeats 400000 in
theorem rLeast_in (w : World) (base rp n : Nat) (lv : Value) (s : GT) (h : RefS w base rp n lv s) (ht : s.2.length ≤ 60) (a : Int) :
    Calls Try.prog 79 #[.pointer (some ⟨rp, 0, none⟩), .int .i64 a] w fun e w' => e = .returned (.int .i64 (leastV n s.1 a)) ∧ ∃ m, w' = w.drewN m := by
  have HAS := rhas_in _ _ _ _ _ _ h a
  cases hb : inB n a
  · rw [leastV_out hb]
    rw [hb] at HAS
    go_enter Try.func79, Try.ntmps79
    go_wp2_with fail
    refine HAS.mono ?_
    rintro e w' ⟨rfl, rfl⟩
    go_wp2
    go_ret
    exact ⟨rfl, 0, rfl⟩
  · rw [leastV_in hb]
    rw [hb] at HAS
    obtain ⟨b1, b2⟩ := inB_true hb
    obtain ⟨i, rfl⟩ := Int.eq_ofNat_of_zero_le b1
    rw [Int.toNat_natCast]
    have hi : i < n := by omega
    obtain ⟨k, hk⟩ : ∃ k, n = k + 1 := ⟨n - 1, by omega⟩
    have NOW := RefS.now w base rp n lv s h ht
    have hn := h.small
    clear h
    go_enter Try.func79, Try.ntmps79
    go_wp2_with fail
    refine HAS.mono ?_
    rintro e w' ⟨rfl, rfl⟩
    clear HAS
    go_wp2_with fail
    refine NOW.mono ?_
    rintro e w' ⟨v, m, rfl, rfl, ho⟩
    clear NOW
    have hoc := ho
    rw [hk] at hoc
    obtain ⟨b, cap, hv⟩ := ownsRow_succ hoc
    rw [← hk] at hv
    subst hv
    have hcell := ho.cellAt i (by omega)
    rw [intsC_get _ i (by rw [los_length]; exact hi), los_get n s.1 i hi] at hcell
    clear hoc ho hk
    go_wp2
    go_ret
    exact ⟨rfl, _, rfl⟩

set_option maxHeartbeats 400000 in
theorem rSame_in (w : World) (base rp n : Nat) (lv : Value) (s : GT) (h : RefS w base rp n lv s) (ht : s.2.length ≤ 60) (k : Nat) (hok : Uf.Ok n s.1 k) (a b : Int) :
    Calls Try.prog 35 #[.pointer (some ⟨rp, 0, none⟩), .int .i64 a, .int .i64 b] w fun e w' => e = .returned (.bool (sameB n s.1 a b)) ∧ ∃ m, w' = w.drewN m := by
  have HA := rhas_in _ _ _ _ _ _ h a
  have HB := rhas_in _ _ _ _ _ _ h b
  cases ha : inB n a
  · rw [same_out (Or.inl ha)]
    rw [ha] at HA
    go_enter Try.func35, Try.ntmps35
    go_wp2_with fail
    refine HA.mono ?_
    rintro e w' ⟨rfl, rfl⟩
    go_wp2
    go_ret
    exact ⟨rfl, 0, rfl⟩
  · cases hb : inB n b
    · rw [same_out (Or.inr hb)]
      rw [ha] at HA
      rw [hb] at HB
      go_enter Try.func35, Try.ntmps35
      go_wp2_with fail
      refine HA.mono ?_
      rintro e w' ⟨rfl, rfl⟩
      go_wp2_with fail
      refine HB.mono ?_
      rintro e w' ⟨rfl, rfl⟩
      go_wp2
      go_ret
      exact ⟨rfl, 0, rfl⟩
    · rw [← same_least hok a b, ha, Bool.true_and]
      rw [ha] at HA
      rw [hb] at HB
      have LA := rLeast_in w base rp n lv s h ht a
      have LB := fun m => rLeast_in (w.drewN m) base rp n lv s h.drewN ht b
      clear h ha hb
      generalize leastV n s.1 a = la at *
      generalize leastV n s.1 b = lb at *
      go_enter Try.func35, Try.ntmps35
      go_wp2_with fail
      refine HA.mono ?_
      rintro e w' ⟨rfl, rfl⟩
      go_wp2_with fail
      refine HB.mono ?_
      rintro e w' ⟨rfl, rfl⟩
      clear HA HB
      go_wp2_with fail
      refine LA.mono ?_
      rintro e w' ⟨rfl, m, rfl⟩
      go_wp2_with fail
      refine (LB _).mono ?_
      rintro e w' ⟨rfl, m', rfl⟩
      go_wp2
      go_ret
      exact ⟨rfl, _, rfl⟩

/-- What a Log that is cut holds. -/
theorem Ref.cut {w : World} {base rp n b cap : Nat} {log : List (List Nat)} (h : Ref w base rp n (.slice (some ⟨b, 0, none⟩) log.length cap) log) (k : Nat) (hk : k ≤ log.length) (hb : b ≠ rp) :
    Ref (w.setCell ⟨rp, 1, none⟩ (.slice (some ⟨b, 0, none⟩) k cap)) base rp n (.slice (some ⟨b, 0, none⟩) k cap) (log.take k) ∧ Kept (RFoot rp (.slice (some ⟨b, 0, none⟩) log.length cap)) w (w.setCell ⟨rp, 1, none⟩ (.slice (some ⟨b, 0, none⟩) k cap)) := by
  obtain ⟨vals, h1, h2, h3⟩ := h.rows
  have hl : (log.take k).length = k := by simp [hk]
  have HK : Kept (RFoot rp (.slice (some ⟨b, 0, none⟩) log.length cap)) w (w.setCell ⟨rp, 1, none⟩ (.slice (some ⟨b, 0, none⟩) k cap)) :=
    Kept.setCell (S := RFoot rp (.slice (some ⟨b, 0, none⟩) log.length cap)) (p := ⟨rp, 1, none⟩) (Kept.refl _ w) (Or.inl rfl) _
  have K1 : Kept (fun k => k = rp) w (w.setCell ⟨rp, 1, none⟩ (.slice (some ⟨b, 0, none⟩) k cap)) := Kept.setCell (S := fun k => k = rp) (p := ⟨rp, 1, none⟩) (Kept.refl _ w) rfl _
  refine ⟨⟨(h.sets.set 1 _).congr ?_, h.low, ⟨vals.take k, by simp [h1, hk], ?_, ?_⟩, h.small⟩, HK⟩
  · intro i hi
    unfold rsetsC
    by_cases e : i = 0
    · simp [e]
    · rw [if_pos (by omega), if_neg e]
  · rw [hl]
    have := ownsRow_cut (w' := w.setCell ⟨rp, 1, none⟩ (.slice (some ⟨b, 0, none⟩) k cap)) h2 (Below.heap_setCell _ _ _ _ hb) hk
    rw [Nat.mul_one] at this
    exact this
  · intro j l hjl
    have hj : j < k := by
      rcases Nat.lt_or_ge j k with q | q
      · exact q
      · rw [List.getElem?_eq_none (by rw [hl]; exact q)] at hjl; cases hjl
    rw [List.getElem?_take_of_lt hj] at hjl
    obtain ⟨v, hv, ho⟩ := h3 j l hjl
    refine ⟨v, by rw [List.getElem?_take_of_lt hj]; exact hv, owns_kept ho K1 ?_⟩
    intro x hx e
    subst e
    obtain ⟨cur, hc⟩ := row_block ho hx
    obtain ⟨c, hc', _⟩ := h.sets
    rw [hc'] at hc
    cases hc

set_option maxRecDepth 100000 in
set_option maxHeartbeats 400000 in
theorem rUndo_in (w : World) (base rp n : Nat) (lv : Value) (s : GT) (h : RefS w base rp n lv s) (ht : s.2.length ≤ 60) (m : Int) :
    Calls Try.prog 32 #[.pointer (some ⟨rp, 0, none⟩), .int .i64 m] w fun e w' => e = .returned (.bool (undoes s.2 m)) ∧ ∃ lv', RefS w' base rp n lv' (Uf.back s.1 s.2 (undoK s.2 m), s.2.drop (undoK s.2 m)) ∧ Kept (RFoot rp lv) w w' := by
  have c1 := h.c1
  have f1 := h.sets.frozen 1
  have hL := Uf.logOf_length n s.2 s.1
  cases hu : undoes s.2 m
  · have hno := of_decide_eq_false hu
    have hk0 : undoK s.2 m = 0 := by rw [undoK, hu]; rfl
    rw [hk0, back_zero, List.drop_zero]
    obtain ⟨a, cap, rfl⟩ := h.form
    rw [hL] at c1
    have HH : Hid (RefS w base rp n (.slice a (Uf.logOf n s.1 s.2).length cap) s) := h
    clear h hu hk0 hL
    by_cases h0 : m < 0
    · have d0 : decide (m < 0) = true := by simp [h0]
      clear hno
      go_enter Try.func32, Try.ntmps32
      go_wp2
      go_ret
      first | exact ⟨rfl, ⟨_, HH.out⟩, Kept.refl _ _⟩ | exact ⟨rfl, _, HH.out, Kept.refl _ _⟩
    · have d0 : decide (m < 0) = false := by simp; omega
      have d1 : ((s.2.length : Int) + 1 ≤ m) := by omega
      clear hno
      go_enter Try.func32, Try.ntmps32
      go_wp2
      go_ret
      first | exact ⟨rfl, ⟨_, HH.out⟩, Kept.refl _ _⟩ | exact ⟨rfl, _, HH.out, Kept.refl _ _⟩
  · obtain ⟨q1, q2⟩ : 0 ≤ m ∧ m ≤ s.2.length := of_decide_eq_true hu
    obtain ⟨k, rfl⟩ := Int.eq_ofNat_of_zero_le q1
    have hk : k ≤ s.2.length := by omega
    have hk0 : undoK s.2 k = s.2.length - k := by rw [undoK, hu, if_pos rfl, Int.toNat_natCast]
    rw [hk0]
    obtain ⟨vals, v1, v2, v3⟩ := h.rows
    obtain ⟨b, cap, rfl⟩ : ∃ b cap, lv = .slice (some ⟨b, 0, none⟩) (s.2.length + 1) cap := by
      rw [hL] at v2
      exact ownsRow_succ v2
    have hcap : s.2.length + 1 ≤ cap := by
      rcases v2.2 with ⟨e, _⟩ | ⟨g, c, cur, e, _, _, h1, h2, _⟩
      · cases e
      · simp only [Value.slice.injEq] at e
        obtain ⟨_, _, rfl⟩ := e
        omega
    have hbr : b ≠ rp := by
      intro e
      have := rowIs_type h.sets (by decide) v2
      rw [e] at this
      exact this rfl
    have h' := h
    rw [← hL] at h'
    have fin := Ref.cut h' (k + 1) (by omega) hbr
    rw [hL] at fin
    have hlog := Uf.logOf_back n (s.2.length - k) s.2 s.1 (by omega)
    rw [show s.2.length - (s.2.length - k) + 1 = k + 1 from by omega] at hlog
    have HF : Hid (_ ∧ _) := fin
    have HG : Hid (_ = _) := hlog
    have d0 : decide ((k : Int) < 0) = false := by simp
    have d1 : ¬ ((s.2.length : Int) + 1 ≤ (k : Int)) := by omega
    have d2 : (k : Int) + 1 ≤ (cap : Int) := by omega
    clear h' fin h v1 v2 v3 hL hu hk0 hlog
    go_enter Try.func32, Try.ntmps32
    go_wp2
    go_ret
    refine ⟨rfl, ⟨.slice (some ⟨b, 0, none⟩) (k + 1) cap, ?_⟩, HF.out.2⟩
    unfold RefS
    dsimp only
    rw [HG.out]
    exact HF.out.1

/-- Two rows of numbers are compared. -/
def sameL (a b : List Nat) : Bool := decide (a = b)

set_option maxHeartbeats 1000000 in
theorem ints_eq (w : World) (B1 B2 : Nat) (v1 v2 : Value) (l : List Nat) (hl : l.length ≤ 60) (h1 : w.ownsRow B1 3 1 v1 l.length (intsC l)) (h2 : w.ownsRow B2 3 1 v2 l.length (intsC l)) :
    Calls Try.prog 85 #[v1, v2] w fun e w' => e = .returned (.bool true) ∧ ∃ m, w' = w.drewN m := by
  by_cases h0 : l.length = 0
  · have hf1 : ∃ a c, v1 = .slice a 0 c := by
      rw [h0] at h1
      rcases h1.2 with ⟨rfl, _⟩ | ⟨b, cap, cur, rfl, _⟩
      · exact ⟨_, _, rfl⟩
      · exact ⟨_, _, rfl⟩
    have hf2 : ∃ a c, v2 = .slice a 0 c := by
      rw [h0] at h2
      rcases h2.2 with ⟨rfl, _⟩ | ⟨b, cap, cur, rfl, _⟩
      · exact ⟨_, _, rfl⟩
      · exact ⟨_, _, rfl⟩
    obtain ⟨a1, k1, rfl⟩ := hf1
    obtain ⟨a2, k2, rfl⟩ := hf2
    clear h1 h2 h0 hl
    go_enter Try.func85, Try.ntmps85
    go_wp2
    refine wp_loop_rounds 1 ?_
    rw [rounds_succ]
    go_wp2
    go_ret
    exact ⟨rfl, 0, rfl⟩
  · obtain ⟨k, hk⟩ : ∃ k, l.length = k + 1 := ⟨l.length - 1, by omega⟩
    obtain ⟨b1, cap1, rfl⟩ : ∃ b cap, v1 = .slice (some ⟨b, 0, none⟩) l.length cap := by
      have := h1
      rw [hk] at this ⊢
      exact ownsRow_succ this
    obtain ⟨b2, cap2, rfl⟩ : ∃ b cap, v2 = .slice (some ⟨b, 0, none⟩) l.length cap := by
      have := h2
      rw [hk] at this ⊢
      exact ownsRow_succ this
    have C1 : ∀ i, i < l.length → w.cell? ⟨b1, i, none⟩ = some (.int .i64 ((l[i]?.getD 0 : Nat) : Int)) := fun i hi => by rw [h1.cellAt i (by omega), intsC_get l i hi]
    have C2 : ∀ i, i < l.length → w.cell? ⟨b2, i, none⟩ = some (.int .i64 ((l[i]?.getD 0 : Nat) : Int)) := fun i hi => by rw [h2.cellAt i (by omega), intsC_get l i hi]
    generalize l.length = L at *
    clear h1 h2 hk h0
    go_enter Try.func85, Try.ntmps85
    go_wp2
    go_loopw [5] (fun t W => ∃ k : Nat, k ≤ L ∧ t = .int .i64 k ∧ ∃ m, W = w.drewN m) (fun t _ => L - (intOf t).toNat)
    case atStart => exact ⟨0, Nat.zero_le _, rfl, 0, rfl⟩
    case round =>
      obtain ⟨k, hk, rfl, m, rfl⟩ := hrel
      by_cases hlt : k < L
      · have c1 := C1 k hlt
        have c2 := C2 k hlt
        generalize ((l[k]?.getD 0 : Nat) : Int) = z at c1 c2
        clear C1 C2
        go_wp2_with fail
        go_quiet (fail)
        go_wp2
        go_roundw
        case rel => exact ⟨k + 1, by omega, by go_num, _, rfl⟩
        case measure => simp [intOf]; omega
      · clear C1 C2
        go_wp2
        go_ret
        exact ⟨rfl, _, rfl⟩

end Go.Proofs.Ytpipihllofpnaaa
