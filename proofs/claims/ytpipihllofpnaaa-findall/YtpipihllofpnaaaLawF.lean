/- FindAll. -/
import Derived.Test.YtpipihllofpnaaaLawS
namespace Go.Proofs.Ytpipihllofpnaaa
open Go.RowKit

set_option maxRecDepth 100000 in
set_option maxHeartbeats 1000000 in
theorem FindAll_nil (w : World) (n : Int) (h0 : n < 0 ∨ 100000 < n) (a1 : Option Addr) (l1 c1 : Nat) (a b : Int) :
    Calls Try.prog 5 #[.int .i64 n, .slice a1 l1 c1, .int .i64 a, .int .i64 b] w fun e w' => e = .returned (.bool true) ∧ Below w.heap.size w w' := by
  have hN := fun w => New_no w n h0
  by_cases h1 : n < 0
  · clear h0
    have d1 : decide (n < 0) = true := by simp [h1]
    go_enter Try.func5, Try.ntmps5
    go_wp2_with fail
    refine (hN _).mono ?_
    rintro e w1 ⟨rfl, rfl⟩
    go_wp2_with fail
    refine (hN _).mono ?_
    rintro e w1 ⟨rfl, rfl⟩
    clear hN
    go_wp2_with fail
    refine (alive_in _).mono ?_
    rintro e w1 ⟨rfl, hb⟩
    go_wp2
    go_ret
    exact ⟨rfl, hb⟩
  · have d1 : decide (n < 0) = false := by simp; omega
    have d2 : decide (100000 < n) = true := by simp; omega
    clear h0
    go_enter Try.func5, Try.ntmps5
    go_wp2_with fail
    refine (hN _).mono ?_
    rintro e w1 ⟨rfl, rfl⟩
    go_wp2_with fail
    refine (hN _).mono ?_
    rintro e w1 ⟨rfl, rfl⟩
    clear hN
    go_wp2_with fail
    refine (alive_in _).mono ?_
    rintro e w1 ⟨rfl, hb⟩
    go_wp2
    go_ret
    exact ⟨rfl, hb⟩

set_option maxRecDepth 100000 in
set_option maxHeartbeats 1000000 in
theorem FindAll_great (w : World) (n : Nat) (h0 : 60 < n) (h1 : n ≤ 100000) (a1 : Option Addr) (l1 c1 : Nat) (a b : Int) :
    Calls Try.prog 5 #[.int .i64 n, .slice a1 l1 c1, .int .i64 a, .int .i64 b] w fun e w' => e = .returned (.bool true) ∧ Below w.heap.size w w' := by
  have hN := fun w => New_st w n h1
  have d1 : decide ((n : Int) < 0) = false := by simp
  have d2 : decide (100000 < (n : Int)) = false := by simp; omega
  have d3 : (60 : Int) < (n : Int) := by omega
  have q3 : wrap64 ((n : Int) - 1) = (n : Int) - 1 := by unfold wrap64; omega
  have hl : leastV n Uf.g0 ((n : Int) - 1) = (n : Int) - 1 := by
    have : inB n ((n : Int) - 1) = true := decide_eq_true (by omega)
    rw [leastV_in this]
    show (((((n : Int) - 1).toNat) : Nat) : Int) = _
    omega
  have HL : Hid (leastV n Uf.g0 ((n : Int) - 1) = (n : Int) - 1) := hl
  have hpos : 1 ≤ n := by omega
  have hup : n < 1000000 := by omega
  clear h1 hl h0
  go_enter Try.func5, Try.ntmps5
  go_wp2_with fail
  refine (hN _).mono ?_
  rintro e w1 ⟨rfl, s1, b1⟩
  go_wp2_with fail
  refine (hN _).mono ?_
  rintro e w2 ⟨rfl, _, b2⟩
  clear hN
  have s2 := s1.later b2
  have C := Count_st _ _ _ _ _ _ _ _ s2
  have Le := fun m => Least_in (w2.drewN m) _ _ _ _ _ _ _ s2.lies.drewN _ s2.ok ((n : Int) - 1)
  have hb2 := b1.trans (b2.mono b1.size)
  rw [show (if inB n ((n : Int) - 1) = true then ((Uf.g0.lo ((n : Int) - 1).toNat : Nat) : Int) else -1) = (n : Int) - 1 from HL.out] at Le
  rw [show ((n : Int) - (([] : List Uf.Rec).length : Nat)) = (n : Int) from by simp] at C
  go_wp2_with fail
  refine C.mono ?_
  rintro e w3 ⟨rfl, m3, rfl⟩
  go_wp2_with fail
  refine (Le _).mono ?_
  rintro e w3 ⟨rfl, m4, rfl⟩
  clear C Le
  go_wp2_with fail
  refine (alive_in _).mono ?_
  rintro e w9 ⟨rfl, hb⟩
  go_wp2
  go_ret
  exact ⟨rfl, (below_drewN hb2 _).trans (hb.mono (below_drewN hb2 _).size)⟩

theorem Ref.base {w : World} {base base' rp n : Nat} {lv : Value} {log : List (List Nat)} (h : Ref w base rp n lv log) (hb : base' ≤ base) : Ref w base' rp n lv log := by
  obtain ⟨vals, h1, h2, h3⟩ := h.rows
  refine ⟨h.sets, Nat.le_trans hb h.low, ⟨vals, h1, owns_base h2 hb, fun k l hl => ?_⟩, h.small⟩
  obtain ⟨v, hv, ho⟩ := h3 k l hl
  exact ⟨v, hv, owns_base ho hb⟩

theorem Two.later {w W W' : World} {B p nb q mb n : Nat} {s r : GT} (h : Two w W B p nb q mb n s r) (hB : Below W.heap.size W W') : Two w W' B p nb q mb n s r := by
  obtain ⟨jv, kv, h1, h2, h3⟩ := h.both
  exact ⟨⟨jv, kv, h1.later hB, h2.later hB, h3⟩, h.below.trans (hB.mono h1.low)⟩

theorem two_new {w w1 w2 : World} {n : Nat} (s1 : St w1 w.heap.size (w.heap.size + 1) w.heap.size (.slice none 0 0) n Uf.g0 []) (b1 : Below w.heap.size w w1)
    (s2 : St w2 w1.heap.size (w1.heap.size + 1) w1.heap.size (.slice none 0 0) n Uf.g0 []) (b2 : Below w1.heap.size w1 w2) :
    Two w w2 w.heap.size (w.heap.size + 1) w.heap.size (w1.heap.size + 1) w1.heap.size n (Uf.g0, []) (Uf.g0, []) := by
  have hf := fun k hk => foot_lt s1 k hk
  refine ⟨⟨_, _, s1.later b2, s2.base b1.size, ?_⟩, b1.trans (b2.mono b1.size)⟩
  intro k hk hq
  have := hf k hk
  rcases hq with hq | hq | hq
  · omega
  · omega
  · simp [Value.ownBlock] at hq

set_option maxRecDepth 100000 in
set_option maxHeartbeats 4000000 in
theorem FindAll_main (w : World) (n : Nat) (hn : n ≤ 60) (a1 : Option Addr) (c1 : Nat) (o1 : List (Int × Int × Int)) (h1 : Script w a1 o1) (m1 : o1.length ≤ maxLen) (a b : Int) :
    Calls Try.prog 5 #[.int .i64 n, .slice a1 o1.length c1, .int .i64 a, .int .i64 b] w fun e w' => e = .returned (.bool true) ∧ Below w.heap.size w w' := by
  unfold maxLen at m1
  have hN := fun w => New_st w n (by omega)
  have hR := fun w => rNew_in w n hn
  have hn2 : decide ((60 : Int) < (n : Int)) = false := by simp; omega
  have hn3 : decide ((n : Int) < 0) = false := by simp
  have hn4 : decide (100000 < (n : Int)) = false := by simp; omega
  go_enter Try.func5, Try.ntmps5
  go_wp2_with fail
  refine (hN _).mono ?_
  rintro e w1 ⟨rfl, s1, b1⟩
  go_wp2_with fail
  refine (hN _).mono ?_
  rintro e w2 ⟨rfl, s2, b2⟩
  clear hN
  have T0 := two_new s1 b1 s2 b2
  have hsz : w.heap.size ≤ w2.heap.size := Nat.le_trans b1.size b2.size
  clear s1 b1 s2 b2
  generalize w1.heap.size + 1 = q at *
  generalize w1.heap.size = mb at *
  generalize w.heap.size + 1 = p at *
  go_wp2_with fail
  refine (hR _).mono ?_
  rintro e w3 ⟨rp, lv, rfl, r3, b3⟩
  clear hR
  have T1 : Three w w3 w.heap.size p w.heap.size q mb rp n (Uf.g0, []) (Uf.g0, []) := ⟨T0.later b3, ⟨lv, r3.base hsz⟩, Nat.le_trans hsz b3.size, hn⟩
  clear T0 r3 b3 hsz
  go_wp2_with fail
  go_loopw [12] (fun t W => ∃ k : Nat, k ≤ o1.length ∧ t = .int .i64 k ∧ ∃ s r, Three w W w.heap.size p w.heap.size q mb rp n s r) (fun t _ => o1.length - (intOf t).toNat)
  case atStart => exact ⟨0, Nat.zero_le _, rfl, _, _, T1⟩
  case round =>
    clear T1
    obtain ⟨k, hk, rfl, s, r, hT⟩ := hrel
    by_cases hlt : k < o1.length
    · obtain ⟨bb, off, rfl, hb, k0, k1, k2⟩ := h1.at_ k hlt
      generalize (o1[k]?.getD (0, 0, 0)).1 = Kd at k0
      generalize (o1[k]?.getD (0, 0, 0)).2.1 = A at k1
      generalize (o1[k]?.getD (0, 0, 0)).2.2 = C at k2
      have d0 := (hT.below.cell (p := ⟨bb, off + k * 3, none⟩) hb).trans k0
      have d1 := (hT.below.cell (p := ⟨bb, off + k * 3 + 1, none⟩) hb).trans k1
      have d2 := (hT.below.cell (p := ⟨bb, off + k * 3 + 2, none⟩) hb).trans k2
      have hT1 := hT.later ((Below.refl wr.heap.size wr).alloc (Nat.le_refl _) (.cells #[.int .i64 Kd, .int .i64 A, .int .i64 C] 53))
      have HX : Hid (∀ W', OpKept (wr.alloc (.cells #[.int .i64 Kd, .int .i64 A, .int .i64 C] 53)) W' → W'.cell? ⟨wr.heap.size, 0, none⟩ = some (.int .i64 Kd) ∧ W'.cell? ⟨wr.heap.size, 1, none⟩ = some (.int .i64 A) ∧ W'.cell? ⟨wr.heap.size, 2, none⟩ = some (.int .i64 C)) := by
        intro W' hO
        have hk := hO wr.heap.size _ (World.alloc_heap_new wr (.cells #[.int .i64 Kd, .int .i64 A, .int .i64 C] 53))
        exact ⟨by simp [World.cell?, hk], by simp [World.cell?, hk], by simp [World.cell?, hk]⟩
      go_wp2_with fail
      refine (hT1.join2 _ _).mono ?_
      rintro e w4 ⟨⟨x4, rfl⟩, ⟨r4, hT4⟩, ok4⟩
      obtain ⟨e0, e1, e2⟩ := HX.out _ ok4
      have OK4 : Hid (OpKept _ _) := ok4
      clear d0 d1 d2 k0 k1 k2 hT hT1 ok4
      by_cases hkd : Kd = 0
      · subst hkd
        go_wp2_with fail
        refine (hT4.join1 A C).mono ?_
        rintro e w5 ⟨rfl, hH5, ok5⟩
        have OK5 : Hid (OpKept _ w5) := fun k cur hk => ok5 k cur (OK4.out k cur hk)
        obtain ⟨f0, f1, f2⟩ := HX.out _ OK5.out
        clear e0 e1 e2 hT4 ok5
        go_wp2_with fail
        refine (hH5.join A C).mono ?_
        rintro e w6 ⟨rfl, hT6, _⟩
        clear f0 f1 f2 hH5 OK5 OK4 HX
        have SH := shows_in w w6 _ _ _ _ _ _ _ _ _ hT6
        generalize joins n s.1 A C = jb at *
        generalize stp n s (A, C) = s6 at *
        go_wp2_with fail
        refine SH.mono ?_
        rintro e w7 ⟨rfl, b7⟩
        have hT7 := hT6.later b7
        clear SH hT6 b7
        have SA := hT7.same a b
        have SB := fun m => (hT7.drewN (m := m)).rsame a b
        generalize sameB n s6.1 a b = sb at SA SB
        go_wp2_with fail
        refine SA.mono ?_
        rintro e w8 ⟨rfl, m8, rfl⟩
        go_wp2_with fail
        refine (SB _).mono ?_
        rintro e w9 ⟨rfl, m9, rfl⟩
        clear SA SB
        go_wp2
        go_roundw
        case rel => exact ⟨k + 1, by omega, by go_num, _, _, hT7.drewN⟩
        case measure => simp [intOf]; omega
      · have hk0 : (Kd == 0) = false := beq_eq_false_iff_ne.2 hkd
        clear hkd
        go_wp2_with fail
        refine (hT4.undo1 A).mono ?_
        rintro e w5 ⟨rfl, hH5, ok5⟩
        have OK5 : Hid (OpKept _ w5) := fun k cur hk => ok5 k cur (OK4.out k cur hk)
        obtain ⟨f0, f1, f2⟩ := HX.out _ OK5.out
        clear e0 e1 e2 hT4 ok5
        go_wp2_with fail
        refine (hH5.undo A).mono ?_
        rintro e w6 ⟨rfl, hT6, _⟩
        clear f0 f1 f2 hH5 OK5 OK4 HX
        have SH := shows_in w w6 _ _ _ _ _ _ _ _ _ hT6
        generalize undoes s.2 A = jb at *
        generalize (Uf.back s.1 s.2 (undoK s.2 A), s.2.drop (undoK s.2 A)) = s6 at *
        go_wp2_with fail
        refine SH.mono ?_
        rintro e w7 ⟨rfl, b7⟩
        have hT7 := hT6.later b7
        clear SH hT6 b7
        have SA := hT7.same a b
        have SB := fun m => (hT7.drewN (m := m)).rsame a b
        generalize sameB n s6.1 a b = sb at SA SB
        go_wp2_with fail
        refine SA.mono ?_
        rintro e w8 ⟨rfl, m8, rfl⟩
        go_wp2_with fail
        refine (SB _).mono ?_
        rintro e w9 ⟨rfl, m9, rfl⟩
        clear SA SB
        go_wp2
        go_roundw
        case rel => exact ⟨k + 1, by omega, by go_num, _, _, hT7.drewN⟩
        case measure => simp [intOf]; omega
    · go_wp2_with fail
      refine (alive_in _).mono ?_
      rintro e w9 ⟨rfl, hb⟩
      go_wp2
      go_ret
      exact ⟨rfl, hT.below.trans (hb.mono hT.below.size)⟩

end Go.Proofs.Ytpipihllofpnaaa
