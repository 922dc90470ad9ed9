/- FindUndoes. -/
import Derived.Test.YtinphcnknionmaaG06
import Derived.Deep.RegionWith
namespace Go.Proofs.Ytinphcnknionmaa
open Go.RowKit

set_option maxRecDepth 100000 in
set_option maxHeartbeats 1000000 in
theorem FindUndoes_out (w : World) (n : Int) (hn : n < 0 ∨ 60 < n) (a1 a2 : Option Addr) (l1 l2 c1 c2 : Nat) :
    Calls Try.prog 7 #[.int .i64 n, .slice a1 l1 c1, .slice a2 l2 c2] w fun e w' => e = .returned (.bool true) ∧ Below w.heap.size w w' := by
  by_cases h0 : n < 0 ∨ 100000 < n
  · have hN := fun w => New_no w n h0
    by_cases h1 : n < 0
    · go_enter Try.func7, Try.ntmps7
      go_wp2_with fail
      refine (hN _).mono ?_
      rintro e w1 ⟨rfl, rfl⟩
      go_wp2_with fail
      refine (hN _).mono ?_
      rintro e w1 ⟨rfl, rfl⟩
      clear hN
      go_wp2_with fail
      refine (alive_in _).mono ?_
      rintro e w1 ⟨rfl, hb⟩
      go_wp2
      go_ret
      exact ⟨rfl, hb⟩
    · have h2 : 60 < n := by omega
      clear h0 hn
      go_enter Try.func7, Try.ntmps7
      go_wp2_with fail
      refine (hN _).mono ?_
      rintro e w1 ⟨rfl, rfl⟩
      go_wp2_with fail
      refine (hN _).mono ?_
      rintro e w1 ⟨rfl, rfl⟩
      clear hN
      go_wp2_with fail
      refine (alive_in _).mono ?_
      rintro e w1 ⟨rfl, hb⟩
      go_wp2
      go_ret
      exact ⟨rfl, hb⟩
  · obtain ⟨k, rfl⟩ := Int.eq_ofNat_of_zero_le (show 0 ≤ n by omega)
    have hk : k ≤ 100000 := by omega
    have h2 : (60 : Int) < (k : Int) := by omega
    have h3 : ¬ (k : Int) < 0 := by omega
    have hN := fun w => New_st w k hk
    clear hk h0 hn
    go_enter Try.func7, Try.ntmps7
    go_wp2_with fail
    refine (hN _).mono ?_
    rintro e w1 ⟨rfl, _, b1⟩
    go_wp2_with fail
    refine (hN _).mono ?_
    rintro e w2 ⟨rfl, _, b2⟩
    clear hN
    go_wp2_with fail
    refine (alive_in _).mono ?_
    rintro e w3 ⟨rfl, b3⟩
    go_wp2
    go_ret
    exact ⟨rfl, (b1.trans (b2.mono b1.size)).trans (b3.mono (Nat.le_trans b1.size b2.size))⟩

set_option maxRecDepth 100000 in
set_option maxHeartbeats 2000000 in
theorem FindUndoes_main (w : World) (n : Nat) (hn : n ≤ 60) (a1 a2 : Option Addr) (c1 c2 : Nat) (o1 o2 : List (Int × Int × Int)) (h1 : Script w a1 o1) (h2 : Script w a2 o2) (m1 : o1.length ≤ maxLen) (m2 : o2.length ≤ maxLen) :
    Calls Try.prog 7 #[.int .i64 n, .slice a1 o1.length c1, .slice a2 o2.length c2] w fun e w' => e = .returned (.bool true) ∧ Below w.heap.size w w' := by
  unfold maxLen at m1 m2
  have hN := fun w => New_st w n (by omega)
  have hn2 : decide ((60 : Int) < (n : Int)) = false := by simp; omega
  have hn3 : decide ((n : Int) < 0) = false := by simp
  go_enter Try.func7, Try.ntmps7
  go_wp2_with fail
  refine (hN _).mono ?_
  rintro e w1 ⟨rfl, s1, b1⟩
  go_wp2_with fail
  refine (hN _).mono ?_
  rintro e w2 ⟨rfl, s2, b2⟩
  clear hN
  have T0 : Two w w2 w.heap.size (w.heap.size + 1) w.heap.size (w1.heap.size + 1) w1.heap.size n (Uf.g0, []) (Uf.g0, []) := by
    have hf := fun k hk => foot_lt s1 k hk
    refine ⟨⟨_, _, s1.other (S := fun k => w1.heap.size ≤ k) ⟨b2.os, b2.tape, b2.output, b2.size, fun k hk hs => b2.block k (by omega)⟩ (by have := hf _ (Or.inl rfl); omega) (by have := hf _ (Or.inr (Or.inl rfl)); omega) (fun k hk => by have := hf k (Or.inr (Or.inr hk)); omega), s2.base b1.size, ?_⟩, b1.trans (b2.mono b1.size)⟩
    intro k hk hq
    have := hf k hk
    rcases hq with hq | hq | hq
    · omega
    · omega
    · simp [Value.ownBlock] at hq
  clear s1 s2 b1 b2
  generalize w1.heap.size + 1 = q at *
  generalize w1.heap.size = mb at *
  generalize w.heap.size + 1 = p at *
  go_wp2_with fail
  go_loopw [9] (fun t W => ∃ k : Nat, k ≤ o1.length ∧ t = .int .i64 k ∧ Two w W w.heap.size p w.heap.size q mb n (runs n (Uf.g0, []) (pairs (o1.take k))) (runs n (Uf.g0, []) (pairs (o1.take k)))) (fun t _ => o1.length - (intOf t).toNat)
  case atStart => exact ⟨0, Nat.zero_le _, rfl, T0⟩
  case round =>
    obtain ⟨k, hk, rfl, hT⟩ := hrel
    by_cases hlt : k < o1.length
    · obtain ⟨b, off, rfl, hb, _, k1, k2⟩ := h1.at_ k hlt
      have hp := pairs_take o1 k hlt
      generalize (o1[k]?.getD (0, 0, 0)).2.1 = A at k1 hp
      generalize (o1[k]?.getD (0, 0, 0)).2.2 = C at k2 hp
      have d1 := (hT.below.cell (p := ⟨b, off + k * 3 + 1, none⟩) hb).trans k1
      have d2 := (hT.below.cell (p := ⟨b, off + k * 3 + 2, none⟩) hb).trans k2
      have HP : Hid (pairs (o1.take (k + 1)) = pairs (o1.take k) ++ [(A, C)]) := hp
      clear hp
      go_wp2_with fail
      go_region_with (go_at_call 29; refine ((hT.drewN).join _ _).mono ?_; rintro e w3 ⟨rfl, hT3⟩)
      all_goals
        clear d1 d2
        have d1 := (hT3.below.cell (p := ⟨b, off + k * 3 + 1, none⟩) hb).trans k1
        have d2 := (hT3.below.cell (p := ⟨b, off + k * 3 + 2, none⟩) hb).trans k2
        go_wp2_with fail
        go_region_with (go_at_call 29; refine ((hT3.swap.drewN).join _ _).mono ?_; rintro e w4 ⟨rfl, hT4⟩)
        all_goals
          go_wp2
          go_roundw
          case rel => exact ⟨k + 1, by omega, by go_num, by rw [HP.out, runs_snoc]; exact hT4.swap⟩
          case measure => simp [intOf]; omega
    · have HK : Hid (k = o1.length) := by show _ = _; omega
      rw [show o1.take k = o1 from List.take_of_length_le (by omega)] at hT
      clear T0
      generalize hS : runs n (Uf.g0, []) (pairs o1) = S at hT
      clear hS
      go_wp2_with fail
      refine hT.mark.mono ?_
      rintro e w3 ⟨rfl, rfl⟩
      go_wp2_with fail
      go_loopw [11] (fun t W => ∃ k : Nat, k ≤ o2.length ∧ t = .int .i64 k ∧ Two w W w.heap.size p w.heap.size q mb n (runs n S (pairs (o2.take k))) S) (fun t _ => o2.length - (intOf t).toNat)
      case atStart => exact ⟨0, Nat.zero_le _, rfl, hT⟩
      case round =>
        clear hT
        obtain ⟨k, hk, rfl, hT⟩ := hrel
        by_cases hlt : k < o2.length
        · obtain ⟨b, off, rfl, hb, _, k1, k2⟩ := h2.at_ k hlt
          have hp := pairs_take o2 k hlt
          generalize (o2[k]?.getD (0, 0, 0)).2.1 = A at k1 hp
          generalize (o2[k]?.getD (0, 0, 0)).2.2 = C at k2 hp
          have d1 := (hT.below.cell (p := ⟨b, off + k * 3 + 1, none⟩) hb).trans k1
          have d2 := (hT.below.cell (p := ⟨b, off + k * 3 + 2, none⟩) hb).trans k2
          have HP : Hid (pairs (o2.take (k + 1)) = pairs (o2.take k) ++ [(A, C)]) := hp
          clear hp k1 k2
          go_wp2_with fail
          go_region_with (go_at_call 29; refine ((hT.drewN).join _ _).mono ?_; rintro e w3 ⟨rfl, hT3⟩)
          all_goals
            go_wp2
            go_roundw
            case rel => exact ⟨k + 1, by omega, by go_num, by rw [HP.out, runs_snoc]; exact hT3⟩
            case measure => simp [intOf]; omega
        · rw [show o2.take k = o2 from List.take_of_length_le (by omega)] at hT
          have hu := (From.runs n S (pairs o2) S (From.refl S)).undo
          have HU := hT.undo (S.2.length : Int)
          rw [hu.1, hu.2.1, hu.2.2] at HU
          clear hu hT
          go_wp2_with fail
          refine HU.mono ?_
          rintro e w3 ⟨rfl, hT⟩
          clear HU
          go_wp2_with fail
          refine hT.mark.mono ?_
          rintro e w4 ⟨rfl, rfl⟩
          go_wp2_with fail
          go_loopw [12] (fun t W => ∃ k : Nat, k ≤ n ∧ t = .int .i64 k ∧ Two w W w.heap.size p w.heap.size q mb n (S.1, S.2) S) (fun t _ => n - (intOf t).toNat)
          case atStart => exact ⟨0, Nat.zero_le _, rfl, hT⟩
          case round =>
            clear hT
            obtain ⟨k, hk, rfl, hT⟩ := hrel
            by_cases hlt : k < n
            · go_wp2_with fail
              refine (hT.least _).mono ?_
              rintro e w5 ⟨rfl, m5, rfl⟩
              go_wp2_with fail
              refine (hT.drewN.swap.least _).mono ?_
              rintro e w6 ⟨rfl, m6, rfl⟩
              go_wp2
              go_roundw
              case rel => exact ⟨k + 1, by omega, by go_num, hT.drewN⟩
              case measure => simp [intOf]; omega
            · go_wp2_with fail
              go_loopw [13] (fun t W => ∃ k : Nat, k ≤ o2.length ∧ t = .int .i64 k ∧ Two w W w.heap.size p w.heap.size q mb n (runs n S (pairs (o2.take k))) (runs n S (pairs (o2.take k)))) (fun t _ => o2.length - (intOf t).toNat)
              case atStart => exact ⟨0, Nat.zero_le _, rfl, hT⟩
              case round =>
                clear hT
                obtain ⟨k, hk, rfl, hT⟩ := hrel
                by_cases hlt : k < o2.length
                · obtain ⟨b, off, rfl, hb, _, k1, k2⟩ := h2.at_ k hlt
                  have hp := pairs_take o2 k hlt
                  generalize (o2[k]?.getD (0, 0, 0)).2.1 = A at k1 hp
                  generalize (o2[k]?.getD (0, 0, 0)).2.2 = C at k2 hp
                  have d1 := (hT.below.cell (p := ⟨b, off + k * 3 + 1, none⟩) hb).trans k1
                  have d2 := (hT.below.cell (p := ⟨b, off + k * 3 + 2, none⟩) hb).trans k2
                  have HP : Hid (pairs (o2.take (k + 1)) = pairs (o2.take k) ++ [(A, C)]) := hp
                  clear hp
                  go_wp2_with fail
                  go_region_with (go_at_call 29; refine ((hT.drewN).join _ _).mono ?_; rintro e w3 ⟨rfl, hT3⟩)
                  all_goals
                    clear d1 d2
                    have d1 := (hT3.below.cell (p := ⟨b, off + k * 3 + 1, none⟩) hb).trans k1
                    have d2 := (hT3.below.cell (p := ⟨b, off + k * 3 + 2, none⟩) hb).trans k2
                    go_wp2_with fail
                    go_region_with (go_at_call 29; refine ((hT3.swap.drewN).join _ _).mono ?_; rintro e w4 ⟨rfl, hT4⟩)
                    all_goals
                      go_wp2
                      go_roundw
                      case rel => exact ⟨k + 1, by omega, by go_num, by rw [HP.out, runs_snoc]; exact hT4.swap⟩
                      case measure => simp [intOf]; omega
                · rw [show o2.take k = o2 from List.take_of_length_le (by omega)] at hT
                  generalize runs n S (pairs o2) = R at hT
                  go_wp2_with fail
                  refine hT.count.mono ?_
                  rintro e w5 ⟨rfl, m5, rfl⟩
                  go_wp2_with fail
                  refine hT.drewN.swap.count.mono ?_
                  rintro e w6 ⟨rfl, m6, rfl⟩
                  have hu := undo_all R
                  have HU := (hT.drewN (m := m5 + m6)).undo 0
                  rw [hu.1, hu.2] at HU
                  clear hT
                  go_wp2_with fail
                  refine HU.mono ?_
                  rintro e w7 ⟨rfl, hT⟩
                  clear HU hu
                  go_wp2_with fail
                  refine hT.count.mono ?_
                  rintro e w8 ⟨rfl, m8, rfl⟩
                  go_wp2_with fail
                  refine (alive_in _).mono ?_
                  rintro e w9 ⟨rfl, hb⟩
                  go_wp2
                  go_ret
                  exact ⟨rfl, (below_drewN hT.below m8).trans (hb.mono (below_drewN hT.below m8).size)⟩

end Go.Proofs.Ytinphcnknionmaa
