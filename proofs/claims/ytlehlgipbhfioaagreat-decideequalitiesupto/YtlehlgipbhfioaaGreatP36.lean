/- Package sat: slices.Sort of a clause whose greatest literal stands first and whose others rise: partialInsertionSort. Package sat: slices.Sort of a clause whose greatest literal stands first and whose others rise: partitionOrdered. -/
import Derived.Test.YtlehlgipbhfioaaGreatP34
namespace Go.Proofs.YtlehlgipbhfioaaGreat
open Go.RowKit Go.Maps

set_option maxRecDepth 100000 in
set_option maxHeartbeats 1000000 in
/-- It does not try where there are few. -/
theorem partI_no (w : World) (g n c a b : Nat) (G : Nat → Nat) (h : RowG w g n G) (hab : a + 2 ≤ b) (hb : b ≤ n) (hn : n ≤ 1000000) (hs : ShG a b G) (h50 : b < a + 50) :
    Calls Tryz.prog 206 #[.slice (some ⟨g, 0, none⟩) n c, .int .i64 (a : Int), .int .i64 (b : Int)] w fun e w' => e = .returned (.bool false) ∧ ∃ m, w' = w.drewN m := by
  have cx := h.cell (a + 1) (by omega)
  have cp := h.cell a (by omega)
  have hlt : G (a + 1) < G a := hs.top (a + 1) (by omega) (by omega)
  have LS := fun W : World => sLess_in W (G (a + 1) : Int) (G a : Int)
  have dx : decide ((G (a + 1) : Int) < (G a : Int)) = true := decide_eq_true (by omega)
  have hw1 : IntKind.i64.wrap ((a : Int) + 1) = (a : Int) + 1 := wrap_nat1 (by omega)
  have hw2 : IntKind.i64.wrap ((a : Int) + 1 - 1) = (a : Int) := by rw [IntKind.wrap_i64]; omega
  have hw3 : IntKind.i64.wrap ((b : Int) - (a : Int)) = (b : Int) - (a : Int) := by rw [IntKind.wrap_i64]; omega
  have db : decide ((a : Int) + 1 < (b : Int)) = true := decide_eq_true (by omega)
  have de : ((a : Int) + 1 == (b : Int)) = false := by simp; omega
  have d5 : decide ((b : Int) - (a : Int) < 50) = true := decide_eq_true (by omega)
  have han : a + 1 < n := by omega
  clear h hs
  generalize G (a + 1) = x at *
  generalize G a = y at *
  go_enter Tryz.func206, Tryz.ntmps206
  go_wp2_with fail
  go_loopw [7, 8] (fun t7 t8 W => t7 = .int .i64 ((a : Int) + 1) ∧ t8 = .int .i64 0 ∧ W = w) (fun _ _ _ => 0)
  case atStart => exact ⟨by simp, rfl, rfl⟩
  case round =>
    obtain ⟨rfl, rfl, rfl⟩ := hrel
    go_wp2_with fail
    go_loopw [7] (fun t7 W => t7 = .int .i64 ((a : Int) + 1) ∧ W = wr) (fun _ _ => 0)
    case atStart => exact ⟨rfl, rfl⟩
    case round =>
      obtain ⟨rfl, rfl⟩ := hrel
      go_wp2_with fail
      go_quiet ((go_at_call 207; exact Calls.quiet_of_same ((LS _).mono fun _ _ x => ⟨x.1, x.2.symm⟩)))
      go_wp2_with fail
      go_ret
      exact ⟨rfl, _, rfl⟩

theorem rot_old {a b : Nat} (G : Nat → Nat) {t : Nat} (h : b ≤ t) : rotG a b G t = G t := by
  unfold rotG
  rw [if_neg (by omega), if_neg (by omega)]
theorem rot_top {a b : Nat} (G : Nat → Nat) (h : a < b) : rotG a b G (b - 1) = G a := by
  unfold rotG
  rw [if_neg (by omega), if_pos (by omega)]
theorem rot_low {a b : Nat} (G : Nat → Nat) {t : Nat} (h : a ≤ t) (h2 : t + 1 < b) : rotG a b G t = G (t + 1) := by
  unfold rotG
  rw [if_pos (by omega)]
/-- One more is put ahead of the greatest. -/
theorem rot_swap {W : World} {g n a k : Nat} {G : Nat → Nat} (h : RowG W g n (rotG a (k + 1) G)) (hak : a ≤ k) (x y : Nat) (hx : x = G (k + 1)) (hy : y = G a) (m : Nat) :
    RowG (((W.drewN m).setCell ⟨g, k + 1, none⟩ (.int .i32 (y : Int))).setCell ⟨g, k, none⟩ (.int .i32 (x : Int))) g n (rotG a (k + 2) G) := by
  subst hx hy
  refine (((h.drew m).set (k + 1) (G a)).set k (G (k + 1))).congr fun t ht => ?_
  unfold rotG
  by_cases e1 : t = k
  · subst e1; rw [if_pos (by omega), if_pos rfl]
  · by_cases e2 : t = k + 1
    · subst e2; rw [if_neg (by omega), if_pos (by omega), if_neg e1, if_pos rfl]
    · rw [if_neg e1, if_neg e2]
      by_cases e3 : a ≤ t ∧ t + 1 < k + 1
      · rw [if_pos (by omega), if_pos e3]
      · rw [if_neg (by omega), if_neg (by omega), if_neg e3, if_neg (by omega)]
theorem rot_one (a : Nat) (G : Nat → Nat) (t : Nat) : rotG a (a + 1) G t = G t := by
  unfold rotG
  by_cases e2 : t = a
  · subst e2; simp
  · rw [if_neg (by omega), if_neg (by omega)]

theorem rot_rise {a b : Nat} {G : Nat → Nat} (h : ShG a b G) {k : Nat} (hk : a ≤ k) (hb : k + 1 < b) : rotG a b G k ≤ rotG a b G (k + 1) := by
  rw [rot_low G hk hb]
  by_cases e : k + 2 < b
  · rw [rot_low G (by omega) (by omega)]
    exact Nat.le_of_lt (h.up (k + 1) (k + 2) (by omega) (by omega) (by omega))
  · have e2 : k + 1 = b - 1 := by omega
    rw [e2, rot_top G (by omega)]
    exact Nat.le_of_lt (h.top (b - 1) (by omega) (by omega))

set_option maxRecDepth 100000 in
set_option maxHeartbeats 1000000 in
/-- Where there are many, it sorts them at once. -/
theorem partI_yes (w : World) (g n c a b : Nat) (G : Nat → Nat) (h : RowG w g n G) (hb : b ≤ n) (hn : n ≤ 1000000) (hs : ShG a b G) (h50 : a + 50 ≤ b) :
    Calls Tryz.prog 206 #[.slice (some ⟨g, 0, none⟩) n c, .int .i64 (a : Int), .int .i64 (b : Int)] w fun e w' => e = .returned (.bool true) ∧ RowG w' g n (rotG a b G) ∧ Kept (fun k => k = g) w w' := by
  have hw1 : IntKind.i64.wrap ((a : Int) + 1) = (a : Int) + 1 := wrap_nat1 (by omega)
  have HR0 : Hid (RowG w g n (rotG a (a + 1) G) ∧ Kept (fun k => k = g) w w) := ⟨h.congr fun t _ => rot_one a G t, Kept.refl _ _⟩
  have HS : Hid (ShG a b G) := hs
  obtain ⟨y, hy⟩ : ∃ y, y = G a := ⟨_, rfl⟩
  have HY : Hid _ := hy
  clear h hs hy
  go_enter Tryz.func206, Tryz.ntmps206
  go_wp2_with fail
  go_loopw [7, 8] (fun t7 t8 W => t7 = .int .i64 ((a : Int) + 1) ∧ ((t8 = .int .i64 0 ∧ Hid (RowG W g n (rotG a (a + 1) G) ∧ Kept (fun k => k = g) w W)) ∨ (t8 = .int .i64 1 ∧ Hid (RowG W g n (rotG a b G) ∧ Kept (fun k => k = g) w W)))) (fun _ t8 _ => 2 - (intOf t8).toNat)
  case atStart => exact ⟨by simp, Or.inl ⟨rfl, HR0⟩⟩
  case round =>
    clear HR0
    obtain ⟨rfl, ⟨rfl, HQ⟩ | ⟨rfl, HQ⟩⟩ := hrel
    · have hw2 : IntKind.i64.wrap ((a : Int) + 1 - 1) = (a : Int) := by rw [IntKind.wrap_i64]; omega
      have hw3 : IntKind.i64.wrap ((b : Int) - (a : Int)) = (b : Int) - (a : Int) := by rw [IntKind.wrap_i64]; omega
      have hw4 : IntKind.i64.wrap ((a : Int) + 1 - (a : Int)) = 1 := by rw [IntKind.wrap_i64]; omega
      have hw5 : IntKind.i64.wrap ((b : Int) - ((a : Int) + 1)) = (b : Int) - ((a : Int) + 1) := by rw [IntKind.wrap_i64]; omega
      have db : decide ((a : Int) + 1 < (b : Int)) = true := decide_eq_true (by omega)
      have de : ((a : Int) + 1 == (b : Int)) = false := by simp; omega
      have d5 : decide ((b : Int) - (a : Int) < 50) = false := decide_eq_false (by omega)
      have han : a + 1 < n := by omega
      go_wp2_with fail
      go_loopw [7] (fun t7 W => t7 = .int .i64 ((a : Int) + 1) ∧ Hid (RowG W g n (rotG a (a + 1) G) ∧ Kept (fun k => k = g) w W)) (fun _ _ => 0)
      case atStart => exact ⟨rfl, HQ⟩
      case round =>
        obtain ⟨rfl, HQ2⟩ := hrel
        clear HQ
        have cx := HQ2.out.1.cell (a + 1) (by omega)
        have cp := HQ2.out.1.cell a (by omega)
        rw [rot_old G (Nat.le_refl _)] at cx
        rw [rot_one, ← HY.out] at cp
        have hlt : G (a + 1) < y := by rw [HY.out]; exact HS.out.top (a + 1) (by omega) (by omega)
        have fx := HQ2.out.1.frozen (a + 1)
        have fp := HQ2.out.1.frozen a
        have LS := fun W : World => sLess_in W (G (a + 1) : Int) (y : Int)
        have dx : decide ((G (a + 1) : Int) < (y : Int)) = true := decide_eq_true (by omega)
        have HF : Hid (∀ m, RowG (((wr.drewN m).setCell ⟨g, a + 1, none⟩ (.int .i32 (y : Int))).setCell ⟨g, a, none⟩ (.int .i32 (G (a + 1) : Int))) g n (rotG a (a + 2) G) ∧ Kept (fun k => k = g) w (((wr.drewN m).setCell ⟨g, a + 1, none⟩ (.int .i32 (y : Int))).setCell ⟨g, a, none⟩ (.int .i32 (G (a + 1) : Int)))) := fun m => ⟨rot_swap (k := a) HQ2.out.1 (Nat.le_refl a) (G (a + 1)) y rfl HY.out m, Kept.setCell (S := fun k => k = g) (Kept.setCell (S := fun k => k = g) (HQ2.out.2.drewN m) (p := ⟨g, a + 1, none⟩) rfl _) (p := ⟨g, a, none⟩) rfl _⟩
        generalize G (a + 1) = x at *
        clear HQ2
        go_wp2_with fail
        go_quiet ((go_at_call 207; exact Calls.quiet_of_same ((LS _).mono fun _ _ x => ⟨x.1, x.2.symm⟩)))
        go_wp2_with fail
        go_region
        all_goals go_wp2_with fail
        have HK : Hid _ := HF.out (nq + 1)
        generalize ((wr.drewN (nq + 1)).setCell ⟨g, a + 1, none⟩ (.int .i32 (y : Int))).setCell ⟨g, a, none⟩ (.int .i32 (x : Int)) = w2 at *
        clear cx cp fx fp LS dx HF
        go_loopw [10] (fun t10 W => ∃ j : Nat, a + 2 ≤ j ∧ j ≤ b ∧ t10 = .int .i64 (j : Int) ∧ Hid (RowG W g n (rotG a j G) ∧ Kept (fun k => k = g) w W)) (fun t10 _ => b - (intOf t10).toNat)
        case atStart => exact ⟨a + 2, Nat.le_refl _, by omega, by go_num, HK⟩
        case round =>
          obtain ⟨j, hj1, hj2, rfl, HJ⟩ := hrel
          clear HK
          by_cases hjb : j < b
          · obtain ⟨k, rfl⟩ : ∃ k, j = k + 1 := ⟨j - 1, by omega⟩
            have cx := HJ.out.1.cell (k + 1) (by omega)
            have cp := HJ.out.1.cell k (by omega)
            have et := rot_top (b := k + 1) G (show a < k + 1 by omega)
            rw [Nat.add_sub_cancel] at et
            rw [rot_old G (Nat.le_refl _)] at cx
            rw [et, ← HY.out] at cp
            have hlt2 : G (k + 1) < y := by rw [HY.out]; exact HS.out.top (k + 1) (by omega) hjb
            have fx := HJ.out.1.frozen (k + 1)
            have fp := HJ.out.1.frozen k
            have LS := fun W : World => sLess_in W (G (k + 1) : Int) (y : Int)
            have dx : decide ((G (k + 1) : Int) < (y : Int)) = true := decide_eq_true (by omega)
            have hkw : IntKind.i64.wrap ((k : Int) + 1 - 1) = (k : Int) := by rw [IntKind.wrap_i64]; omega
            have hkw2 : IntKind.i64.wrap ((k : Int) + 1 + 1) = (k : Int) + 1 + 1 := by rw [IntKind.wrap_i64]; omega
            have dkb : decide ((k : Int) + 1 < (b : Int)) = true := decide_eq_true (by omega)
            have HF2 : Hid (∀ m, RowG (((wr.drewN m).setCell ⟨g, k + 1, none⟩ (.int .i32 (y : Int))).setCell ⟨g, k, none⟩ (.int .i32 (G (k + 1) : Int))) g n (rotG a (k + 2) G) ∧ Kept (fun k => k = g) w (((wr.drewN m).setCell ⟨g, k + 1, none⟩ (.int .i32 (y : Int))).setCell ⟨g, k, none⟩ (.int .i32 (G (k + 1) : Int)))) := fun m => ⟨rot_swap HJ.out.1 (by omega) (G (k + 1)) y rfl HY.out m, Kept.setCell (S := fun k => k = g) (Kept.setCell (S := fun k => k = g) (HJ.out.2.drewN m) (p := ⟨g, k + 1, none⟩) rfl _) (p := ⟨g, k, none⟩) rfl _⟩
            have hkn : k + 1 < n := by omega
            generalize G (k + 1) = z at *
            clear HJ et
            simp only [Int.natCast_add, Int.cast_ofNat_Int]
            go_wp2_with fail
            go_quiet ((go_at_call 207; exact Calls.quiet_of_same ((LS _).mono fun _ _ x => ⟨x.1, x.2.symm⟩)))
            go_wp2_with fail
            go_region
            all_goals go_wp2_with fail
            exact ⟨⟨k + 2, by omega, by omega, by go_num, HF2.out _⟩, by simp [intOf]; omega⟩
          · have djb : decide ((j : Int) < (b : Int)) = false := decide_eq_false (by omega)
            obtain rfl : j = b := by omega
            go_wp2_with fail
            exact ⟨⟨rfl, Or.inr ⟨rfl, HJ⟩⟩, by simp [intOf]⟩
    · have db : decide ((a : Int) + 1 < (b : Int)) = true := decide_eq_true (by omega)
      have dq : decide ((b : Int) < (b : Int)) = false := decide_eq_false (by omega)
      go_wp2_with fail
      go_loopw [7] (fun t7 W => ∃ j : Nat, a + 1 ≤ j ∧ j ≤ b ∧ t7 = .int .i64 (j : Int) ∧ Hid (RowG W g n (rotG a b G) ∧ Kept (fun k => k = g) w W)) (fun t7 _ => b - (intOf t7).toNat)
      case atStart => exact ⟨a + 1, Nat.le_refl _, by omega, by go_num, HQ⟩
      case round =>
        obtain ⟨j, hj1, hj2, rfl, HJ⟩ := hrel
        clear HQ
        by_cases hjb : j < b
        · obtain ⟨k, rfl⟩ : ∃ k, j = k + 1 := ⟨j - 1, by omega⟩
          have cx := HJ.out.1.cell (k + 1) (by omega)
          have cp := HJ.out.1.cell k (by omega)
          have hge : rotG a b G k ≤ rotG a b G (k + 1) := rot_rise HS.out (by omega) hjb
          have LS := fun W : World => sLess_in W (rotG a b G (k + 1) : Int) (rotG a b G k : Int)
          have dx : decide ((rotG a b G (k + 1) : Int) < (rotG a b G k : Int)) = false := decide_eq_false (by omega)
          have hkw : IntKind.i64.wrap ((k : Int) + 1 - 1) = (k : Int) := by rw [IntKind.wrap_i64]; omega
          have hkw2 : IntKind.i64.wrap ((k : Int) + 1 + 1) = (k : Int) + 1 + 1 := by rw [IntKind.wrap_i64]; omega
          have dkb : decide ((k : Int) + 1 < (b : Int)) = true := decide_eq_true (by omega)
          have hkn : k + 1 < n := by omega
          have HJ2 : Hid (∀ m, RowG (wr.drewN m) g n (rotG a b G) ∧ Kept (fun k => k = g) w (wr.drewN m)) := fun m => ⟨HJ.out.1.drew m, HJ.out.2.drewN m⟩
          clear HJ hge
          generalize rotG a b G (k + 1) = z at cx LS dx
          generalize rotG a b G k = y2 at cp LS dx
          have dx2 : (!decide (z < y2)) = true := by
            have := of_decide_eq_false dx
            rw [decide_eq_false (by omega)]; rfl
          simp only [Int.natCast_add, Int.cast_ofNat_Int]
          go_wp2_with fail
          go_quiet ((go_at_call 207; exact Calls.quiet_of_same ((LS _).mono fun _ _ x => ⟨x.1, x.2.symm⟩)))
          go_wp2_with fail
          exact ⟨⟨k + 2, by omega, by omega, by go_num, HJ2.out _⟩, by simp [intOf]; omega⟩
        · have djb : decide ((j : Int) < (b : Int)) = false := decide_eq_false (by omega)
          obtain rfl : j = b := by omega
          have deq : ((j : Int) == (j : Int)) = true := by simp
          have HJ2 : Hid (∀ m, RowG (wr.drewN m) g n (rotG a j G) ∧ Kept (fun k => k = g) w (wr.drewN m)) := fun m => ⟨HJ.out.1.drew m, HJ.out.2.drewN m⟩
          clear HJ
          go_wp2_with fail
          go_quiet (fail)
          go_wp2_with fail
          go_ret
          exact ⟨rfl, HJ2.out _⟩
end Go.Proofs.YtlehlgipbhfioaaGreat

namespace Go.Proofs.YtlehlgipbhfioaaGreat
open Go.RowKit Go.Maps

/-- The pivot's literal stands first, the greatest in its place. -/
def prtA (a p : Nat) (G : Nat → Nat) (t : Nat) : Nat := if t = p then G a else if t = a then G p else G t
def prtB (a p : Nat) (G : Nat → Nat) (t : Nat) : Nat := if t = a then G (p - 1) else if t = p - 1 then G p else if t = p then G a else G t

set_option maxRecDepth 100000 in
set_option maxHeartbeats 1000000 in
/-- What is less than the pivot stands ahead already. -/
theorem partn_in (w : World) (g n c a b p : Nat) (G : Nat → Nat) (h : RowG w g n G) (hap : a + 2 ≤ p) (hpb : p < b) (hb : b ≤ n) (hn : n ≤ 1000000) (hs : ShG a b G) :
    Calls Tryz.prog 209 #[.slice (some ⟨g, 0, none⟩) n c, .int .i64 (a : Int), .int .i64 (b : Int), .int .i64 (p : Int)] w fun e w' => e = .returned (.tuple #[.int .i64 ((p - 1 : Nat) : Int), .bool true]) ∧ RowG w' g n (prtB a p G) ∧ Kept (fun k => k = g) w w' := by
  have HS : Hid (ShG a b G) := hs
  have ca := h.cell a (by omega)
  have cp := h.cell p (by omega)
  have fa := h.frozen a
  have fp := h.frozen p
  have HF : Hid (∀ m, RowG (((w.drewN m).setCell ⟨g, a, none⟩ (.int .i32 (G p : Int))).setCell ⟨g, p, none⟩ (.int .i32 (G a : Int))) g n (prtA a p G) ∧ Kept (fun k => k = g) w (((w.drewN m).setCell ⟨g, a, none⟩ (.int .i32 (G p : Int))).setCell ⟨g, p, none⟩ (.int .i32 (G a : Int)))) := fun m => ⟨((h.drew m).set a (G p)).set p (G a), Kept.setCell (S := fun k => k = g) (Kept.setCell (S := fun k => k = g) ((Kept.refl _ _).drewN m) (p := ⟨g, a, none⟩) rfl _) (p := ⟨g, p, none⟩) rfl _⟩
  have han : a < n := by omega
  have hpn : p < n := by omega
  have hw1 : IntKind.i64.wrap ((a : Int) + 1) = (a : Int) + 1 := wrap_nat1 (by omega)
  have hw2 : IntKind.i64.wrap ((b : Int) - 1) = (b : Int) - 1 := by rw [IntKind.wrap_i64]; omega
  clear h hs
  obtain ⟨x, hx⟩ : ∃ x, x = G a := ⟨_, rfl⟩
  obtain ⟨y, hy⟩ : ∃ y, y = G p := ⟨_, rfl⟩
  rw [← hx, ← hy] at HF
  rw [← hx] at ca
  rw [← hy] at cp
  have HX : Hid (x = G a ∧ y = G p) := ⟨hx, hy⟩
  clear hx hy
  go_enter Tryz.func209, Tryz.ntmps209
  go_wp2_with fail
  go_region
  all_goals go_wp2_with fail
  have HK : Hid (RowG (((w.setCell ⟨g, a, none⟩ (.int .i32 (y : Int))).setCell ⟨g, p, none⟩ (.int .i32 (x : Int))).drew) g n (prtA a p G) ∧ Kept (fun k => k = g) w (((w.setCell ⟨g, a, none⟩ (.int .i32 (y : Int))).setCell ⟨g, p, none⟩ (.int .i32 (x : Int))).drew)) := ⟨(HF.out 0).1.drew 1, (HF.out 0).2.drewN 1⟩
  generalize (((w.setCell ⟨g, a, none⟩ (.int .i32 (y : Int))).setCell ⟨g, p, none⟩ (.int .i32 (x : Int))).drew) = w2 at *
  clear ca cp fa fp HF
  go_loopw [10] (fun t10 W => ∃ i : Nat, a + 1 ≤ i ∧ i ≤ p ∧ t10 = .int .i64 (i : Int) ∧ Hid (RowG W g n (prtA a p G) ∧ Kept (fun k => k = g) w W)) (fun t10 _ => p - (intOf t10).toNat)
  case atStart => exact ⟨a + 1, Nat.le_refl _, by omega, by go_num, HK⟩
  case round =>
    obtain ⟨i, hi1, hi2, rfl, HI⟩ := hrel
    clear HK
    have ca := HI.out.1.cell a han
    have ea : prtA a p G a = y := by unfold prtA; rw [if_neg (by omega), if_pos rfl, HX.out.2]
    rw [ea] at ca
    by_cases hip : i < p
    · have ci := HI.out.1.cell i (by omega)
      have ei : prtA a p G i = G i := by unfold prtA; rw [if_neg (by omega), if_neg (by omega)]
      rw [ei] at ci
      have hlt : G i < y := by rw [HX.out.2]; exact HS.out.up i p (by omega) hip hpb
      have LS := fun W : World => sLess_in W (G i : Int) (y : Int)
      have dx : decide ((G i : Int) < (y : Int)) = true := decide_eq_true (by omega)
      have dx2 : decide (G i < y) = true := decide_eq_true hlt
      have dib : decide ((i : Int) ≤ (b : Int) - 1) = true := decide_eq_true (by omega)
      have hwi : IntKind.i64.wrap ((i : Int) + 1) = (i : Int) + 1 := by rw [IntKind.wrap_i64]; omega
      have hin : i < n := by omega
      have HJ2 : Hid (∀ m, RowG (wr.drewN m) g n (prtA a p G) ∧ Kept (fun k => k = g) w (wr.drewN m)) := fun m => ⟨HI.out.1.drew m, HI.out.2.drewN m⟩
      clear HI ei ea
      generalize G i = z at *
      go_wp2_with fail
      go_quiet ((go_at_call 207; exact Calls.quiet_of_same ((LS _).mono fun _ _ x => ⟨x.1, x.2.symm⟩)))
      go_wp2_with fail
      exact ⟨⟨i + 1, by omega, by omega, by go_num, HJ2.out _⟩, by simp [intOf]; omega⟩
    · obtain rfl : i = p := by omega
      have ci := HI.out.1.cell i (by omega)
      have ei : prtA a i G i = x := by unfold prtA; rw [if_pos rfl, HX.out.1]
      rw [ei] at ci
      have hlt : y < x := by rw [HX.out.2, HX.out.1]; exact HS.out.top i (by omega) hpb
      have LS := fun W : World => sLess_in W (x : Int) (y : Int)
      have dx : decide ((x : Int) < (y : Int)) = false := decide_eq_false (by omega)
      have dx2 : decide (x < y) = false := decide_eq_false (by omega)
      have dib : decide ((i : Int) ≤ (b : Int) - 1) = true := decide_eq_true (by omega)
      have HJ2 : Hid (∀ m, RowG (wr.drewN m) g n (prtA a i G) ∧ Kept (fun k => k = g) w (wr.drewN m)) := fun m => ⟨HI.out.1.drew m, HI.out.2.drewN m⟩
      clear HI ei ea
      go_wp2_with fail
      go_quiet ((go_at_call 207; exact Calls.quiet_of_same ((LS _).mono fun _ _ x => ⟨x.1, x.2.symm⟩)))
      go_wp2_with fail
      have HK : Hid _ := HJ2.out nq
      generalize wr.drewN nq = w3 at *
      clear HJ2 ca ci LS dx dx2 dib
      go_loopw [11] (fun t11 W => ∃ j : Nat, i ≤ j + 1 ∧ j + 1 ≤ b ∧ t11 = .int .i64 (j : Int) ∧ Hid (RowG W g n (prtA a i G) ∧ Kept (fun k => k = g) w W)) (fun t11 _ => (intOf t11).toNat)
      case atStart => exact ⟨b - 1, by omega, by omega, by go_num, HK⟩
      case round =>
        obtain ⟨j, hj1, hj2, rfl, HJ⟩ := hrel
        clear HK
        have ca := HJ.out.1.cell a han
        have ea : prtA a i G a = y := by unfold prtA; rw [if_neg (by omega), if_pos rfl, HX.out.2]
        rw [ea] at ca
        by_cases hij : i ≤ j
        · have cj := HJ.out.1.cell j (by omega)
          obtain ⟨z, ez⟩ : ∃ z, z = prtA a i G j := ⟨_, rfl⟩
          rw [← ez] at cj
          have hge : y ≤ z := by
            rw [ez, HX.out.2]; unfold prtA
            by_cases e : j = i
            · rw [if_pos e, ← HX.out.1, ← HX.out.2]; omega
            · rw [if_neg e, if_neg (by omega)]; exact Nat.le_of_lt (HS.out.up i j (by omega) (by omega) (by omega))
          have LS := fun W : World => sLess_in W (z : Int) (y : Int)
          have dx : decide ((z : Int) < (y : Int)) = false := decide_eq_false (by omega)
          have dx2 : (!decide (z < y)) = true := by rw [decide_eq_false (by omega)]; rfl
          have dij : decide ((i : Int) ≤ (j : Int)) = true := decide_eq_true (by omega)
          have hwj : IntKind.i64.wrap ((j : Int) - 1) = (j : Int) - 1 := by rw [IntKind.wrap_i64]; omega
          have hjn : j < n := by omega
          have HJ2 : Hid (∀ m, RowG (wr.drewN m) g n (prtA a i G) ∧ Kept (fun k => k = g) w (wr.drewN m)) := fun m => ⟨HJ.out.1.drew m, HJ.out.2.drewN m⟩
          clear HJ ea ez
          go_wp2_with fail
          go_quiet ((go_at_call 207; exact Calls.quiet_of_same ((LS _).mono fun _ _ x => ⟨x.1, x.2.symm⟩)))
          go_wp2_with fail
          exact ⟨⟨j - 1, by omega, by omega, by go_num, HJ2.out _⟩, by simp [intOf]; omega⟩
        · obtain rfl : i = j + 1 := by omega
          have cj := HJ.out.1.cell j (by omega)
          have ej : prtA a (j + 1) G j = G j := by unfold prtA; rw [if_neg (by omega), if_neg (by omega)]
          rw [ej] at cj
          have fa := fun m => (HJ.out.1.drew m).frozen a
          have fj := fun m => (HJ.out.1.drew m).frozen j
          have dij : decide ((j : Int) + 1 ≤ (j : Int)) = false := decide_eq_false (by omega)
          have dji : decide ((j : Int) < (j : Int) + 1) = true := decide_eq_true (by omega)
          have hjn : j < n := by omega
          have HF : Hid (∀ m, RowG (((wr.drewN m).setCell ⟨g, j, none⟩ (.int .i32 (y : Int))).setCell ⟨g, a, none⟩ (.int .i32 (G j : Int))) g n (prtB a (j + 1) G) ∧ Kept (fun k => k = g) w (((wr.drewN m).setCell ⟨g, j, none⟩ (.int .i32 (y : Int))).setCell ⟨g, a, none⟩ (.int .i32 (G j : Int)))) := fun m => by
            refine ⟨(((HJ.out.1.drew m).set j y).set a (G j)).congr fun t ht => ?_, Kept.setCell (S := fun k => k = g) (Kept.setCell (S := fun k => k = g) (HJ.out.2.drewN m) (p := ⟨g, j, none⟩) rfl _) (p := ⟨g, a, none⟩) rfl _⟩
            unfold prtB prtA
            rw [Nat.add_sub_cancel]
            by_cases e1 : t = a
            · rw [if_pos e1, if_pos e1]
            · rw [if_neg e1, if_neg e1]
              by_cases e2 : t = j
              · rw [if_pos e2, if_pos e2, HX.out.2]
              · rw [if_neg e2, if_neg e2]
                by_cases e3 : t = j + 1
                · rw [if_pos e3, if_pos e3]
                · rw [if_neg e3, if_neg e3, if_neg e1]
          clear HJ ea ej
          generalize G j = z at *
          simp only [Int.natCast_add, Int.cast_ofNat_Int]
          go_wp2_with fail
          go_quiet (fail)
          go_wp2_with fail
          go_region
          all_goals go_wp2_with fail
          go_ret2
          exact ⟨by simp, HF.out _⟩
end Go.Proofs.YtlehlgipbhfioaaGreat
