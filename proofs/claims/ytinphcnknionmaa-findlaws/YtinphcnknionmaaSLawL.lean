/- FindLaws. -/
import Derived.Test.YtinphcnknionmaaSLawC
import Derived.Deep.RegionWith
import Derived.Deep.CutRange
namespace Go.Proofs.Ytinphcnknionmaa
open Go.RowKit

set_option maxRecDepth 100000 in
set_option maxHeartbeats 1000000 in
theorem FindLaws_out (w : World) (n : Int) (hn : n < 0 ∨ 60 < n) (a1 : Option Addr) (l1 c1 : Nat) (a b c : Int) :
    Calls Try.prog 6 #[.int .i64 n, .slice a1 l1 c1, .int .i64 a, .int .i64 b, .int .i64 c] w fun e w' => e = .returned (.bool true) ∧ Below w.heap.size w w' := by
  by_cases h0 : n < 0 ∨ 100000 < n
  · have hN := fun w => New_no w n h0
    by_cases h1 : n < 0
    · go_enter Try.func6, Try.ntmps6
      go_wp2_with fail
      refine (hN _).mono ?_
      rintro e w1 ⟨rfl, rfl⟩
      clear hN
      go_wp2_with fail
      refine (alive_in _).mono ?_
      rintro e w1 ⟨rfl, hb⟩
      go_wp2
      go_ret
      exact ⟨rfl, hb⟩
    · have h2 : 60 < n := by omega
      clear h0 hn
      go_enter Try.func6, Try.ntmps6
      go_wp2_with fail
      refine (hN _).mono ?_
      rintro e w1 ⟨rfl, rfl⟩
      clear hN
      go_wp2_with fail
      refine (alive_in _).mono ?_
      rintro e w1 ⟨rfl, hb⟩
      go_wp2
      go_ret
      exact ⟨rfl, hb⟩
  · obtain ⟨k, rfl⟩ := Int.eq_ofNat_of_zero_le (show 0 ≤ n by omega)
    have hk : k ≤ 100000 := by omega
    have h2 : (60 : Int) < (k : Int) := by omega
    have h3 : ¬ (k : Int) < 0 := by omega
    have hN := fun w => New_st w k hk
    clear hk h0 hn
    go_enter Try.func6, Try.ntmps6
    go_wp2_with fail
    refine (hN _).mono ?_
    rintro e w1 ⟨rfl, _, b1⟩
    clear hN
    go_wp2_with fail
    refine (alive_in _).mono ?_
    rintro e w3 ⟨rfl, b3⟩
    go_wp2
    go_ret
    exact ⟨rfl, b1.trans (b3.mono b1.size)⟩

set_option maxRecDepth 100000 in
set_option maxHeartbeats 4000000 in
theorem FindLaws_main (w : World) (n : Nat) (hn : n ≤ 60) (a1 : Option Addr) (c1 : Nat) (o1 : List (Int × Int × Int)) (h1 : Script w a1 o1) (m1 : o1.length ≤ maxLen) (a b c : Int) :
    Calls Try.prog 6 #[.int .i64 n, .slice a1 o1.length c1, .int .i64 a, .int .i64 b, .int .i64 c] w fun e w' => e = .returned (.bool true) ∧ Below w.heap.size w w' := by
  unfold maxLen at m1
  have hN := fun w => New_st w n (by omega)
  have hn2 : decide ((60 : Int) < (n : Int)) = false := by simp; omega
  have hn3 : decide ((n : Int) < 0) = false := by simp
  go_enter Try.func6, Try.ntmps6
  go_wp2_with fail
  refine (hN _).mono ?_
  rintro e w1 ⟨rfl, s1, b1⟩
  clear hN
  have T0 : One w w1 w.heap.size (w.heap.size + 1) w.heap.size n (Uf.g0, []) := ⟨⟨_, s1⟩, b1⟩
  clear s1 b1
  generalize w.heap.size + 1 = p at *
  go_wp2_with fail
  go_loopw [12] (fun t W => ∃ k : Nat, k ≤ o1.length ∧ t = .int .i64 k ∧ ∃ s, One w W w.heap.size p w.heap.size n s) (fun t _ => o1.length - (intOf t).toNat)
  case atStart => exact ⟨0, Nat.zero_le _, rfl, _, T0⟩
  case round =>
    obtain ⟨k, hk, rfl, s, hT⟩ := hrel
    by_cases hlt : k < o1.length
    · obtain ⟨bb, off, rfl, hb, k0, k1, k2⟩ := h1.at_ k hlt
      generalize (o1[k]?.getD (0, 0, 0)).1 = Kd at k0
      generalize (o1[k]?.getD (0, 0, 0)).2.1 = A at k1
      generalize (o1[k]?.getD (0, 0, 0)).2.2 = C at k2
      have d0 := (hT.below.cell (p := ⟨bb, off + k * 3, none⟩) hb).trans k0
      have d1 := (hT.below.cell (p := ⟨bb, off + k * 3 + 1, none⟩) hb).trans k1
      have d2 := (hT.below.cell (p := ⟨bb, off + k * 3 + 2, none⟩) hb).trans k2
      by_cases hkd : Kd = 0
      · subst hkd
        cases hA : inB n A
        · have hS := same_out (g := s.1) (b := C) (Or.inl hA)
          have hJ := joins_out (g := s.1) (b := C) (Or.inl hA)
          have hL := leastV_out (g := s.1) hA
          have hstp := stp_no hJ
          have SAME := fun m => (hT.drewN (m := m)).same A C
          have LEAST := fun m => (hT.drewN (m := m)).least A
          have JOIN := fun m => (hT.drewN (m := m)).join A C
          rw [hS] at SAME
          rw [hL] at LEAST
          rw [hJ, hstp] at JOIN
          clear hS hJ hL hstp hA
          go_wp2_with fail
          go_quiet ((go_at_call 34; exact Calls.quiet_of (SAME _)))
          go_wp2_with fail
          refine (LEAST _).mono ?_
          rintro e w3 ⟨rfl, m3, rfl⟩
          go_wp2_with fail
          refine (hT.drewN.count).mono ?_
          rintro e w4 ⟨rfl, m4, rfl⟩
          go_wp2_with fail
          go_cut [16] from 33 to 133 (fun v wx => v = .bool false ∧ One w wx w.heap.size p w.heap.size n s)
          case first =>
            go_region_with (go_at_call 29; refine (JOIN _).mono ?_; rintro e w5 ⟨rfl, hT5⟩)
            all_goals
              go_wp2_with fail
              go_meet
              case rel => exact ⟨rfl, hT5⟩
          case rest =>
            obtain ⟨rfl, hT5⟩ := hcut
            clear d0 d1 d2 SAME LEAST JOIN
            go_wp2_with fail
            go_quiet ((go_at_call 26; exact Calls.quiet_of ((hT5.drewN).count)))
            go_wp2
            go_roundw
            case rel => exact ⟨k + 1, by omega, by go_num, s, hT5.drewN⟩
            case measure => simp [intOf]; omega
        · cases hC : inB n C
          · have hS := same_out (g := s.1) (a := A) (Or.inr hC)
            have hJ := joins_out (g := s.1) (a := A) (Or.inr hC)
            have hL := leastV_in (g := s.1) hA
            have hM := leastV_out (g := s.1) hC
            have hstp := stp_no hJ
            have SAME := fun m => (hT.drewN (m := m)).same A C
            have LEAST := fun m => (hT.drewN (m := m)).least A
            have LEASC := fun m => (hT.drewN (m := m)).least C
            have JOIN := fun m => (hT.drewN (m := m)).join A C
            rw [hS] at SAME
            rw [hL] at LEAST
            rw [hM] at LEASC
            rw [hJ, hstp] at JOIN
            generalize s.1.lo A.toNat = la at LEAST
            clear hS hJ hL hstp hA hC hM
            go_wp2_with fail
            go_quiet ((go_at_call 34; exact Calls.quiet_of (SAME _)))
            go_wp2_with fail
            refine (LEAST _).mono ?_
            rintro e w3 ⟨rfl, m3, rfl⟩
            go_wp2_with fail
            refine (LEASC _).mono ?_
            rintro e w3 ⟨rfl, m3', rfl⟩
            go_wp2_with fail
            refine (hT.drewN.count).mono ?_
            rintro e w4 ⟨rfl, m4, rfl⟩
            go_wp2_with fail
            go_cut [16] from 33 to 133 (fun v wx => v = .bool false ∧ One w wx w.heap.size p w.heap.size n s)
            case first =>
              go_region_with (go_at_call 29; refine (JOIN _).mono ?_; rintro e w5 ⟨rfl, hT5⟩)
              all_goals
                go_wp2_with fail
                go_meet
                case rel => exact ⟨rfl, hT5⟩
            case rest =>
              obtain ⟨rfl, hT5⟩ := hcut
              clear d0 d1 d2 SAME LEAST LEASC JOIN
              go_wp2_with fail
              go_quiet ((go_at_call 26; exact Calls.quiet_of ((hT5.drewN).count)))
              go_wp2
              go_roundw
              case rel => exact ⟨k + 1, by omega, by go_num, s, hT5.drewN⟩
              case measure => simp [intOf]; omega
          · cases hS : sameB n s.1 A C
            · have hJ := joins_same (g := s.1) hA hC
              rw [hS] at hJ
              have hL := leastV_in (g := s.1) hA
              have hM := leastV_in (g := s.1) hC
              have hlen := stp_yes hJ
              have hSn := same_joined (s := s) hA hC hS
              have SAME := fun m => (hT.drewN (m := m)).same A C
              have LEAST := fun m => (hT.drewN (m := m)).least A
              have LEASC := fun m => (hT.drewN (m := m)).least C
              have JOIN := fun m => (hT.drewN (m := m)).join A C
              rw [hS] at SAME
              rw [hL] at LEAST
              rw [hM] at LEASC
              rw [hJ] at JOIN
              generalize s.1.lo A.toNat = la at LEAST
              generalize s.1.lo C.toNat = lc at LEASC
              generalize stp n s (A, C) = s' at JOIN hlen hSn
              have hle := hT.ok.num_le
              have CNT := fun m => (hT.drewN (m := m)).count
              obtain ⟨cn, hcn, q0, q1⟩ : ∃ cn : Int, (n : Int) - s.2.length = cn ∧ 0 ≤ cn ∧ cn ≤ 60 := ⟨_, rfl, by omega, by omega⟩
              rw [hcn] at CNT
              have HH : Hid ((n : Int) - s'.2.length = cn - 1 ∧ sameB n s'.1 A C = true) := ⟨by rw [hlen]; omega, hSn⟩
              have q2 : IntKind.i64.wrap (cn - 1) = cn - 1 := by rw [IntKind.wrap_i64]; omega
              have q3 : wrap64 (cn - 1) = cn - 1 := by unfold wrap64; omega
              clear hS hJ hL hA hC hM hlen hSn hcn hle
              go_wp2_with fail
              go_quiet ((go_at_call 34; exact Calls.quiet_of (SAME _)))
              go_wp2_with fail
              refine (LEAST _).mono ?_
              rintro e w3 ⟨rfl, m3, rfl⟩
              go_wp2_with fail
              refine (LEASC _).mono ?_
              rintro e w3 ⟨rfl, m3', rfl⟩
              go_wp2_with fail
              refine (CNT _).mono ?_
              rintro e w4 ⟨rfl, m4, rfl⟩
              go_wp2_with fail
              go_cut [16] from 33 to 133 (fun v wx => v = .bool true ∧ One w wx w.heap.size p w.heap.size n s')
              case first =>
                go_region_with (go_at_call 29; refine (JOIN _).mono ?_; rintro e w5 ⟨rfl, hT5⟩)
                all_goals
                  go_wp2_with fail
                  go_meet
                  case rel => exact ⟨rfl, hT5⟩
              case rest =>
                obtain ⟨rfl, hT5⟩ := hcut
                clear d0 d1 d2 SAME LEAST LEASC JOIN CNT
                have d1 := (hT5.below.cell (p := ⟨bb, off + k * 3 + 1, none⟩) hb).trans k1
                have d2 := (hT5.below.cell (p := ⟨bb, off + k * 3 + 2, none⟩) hb).trans k2
                have SAMN := fun m => (hT5.drewN (m := m)).same A C
                have COUN := fun m => (hT5.drewN (m := m)).count
                rw [HH.out.2] at SAMN
                rw [HH.out.1] at COUN
                go_wp2_with fail
                go_quiet (first | (go_at_call 26; exact Calls.quiet_of (COUN _)) | (go_at_call 34; exact Calls.quiet_of (SAMN _)))
                go_wp2
                go_roundw
                case rel => exact ⟨k + 1, by omega, by go_num, s', hT5.drewN⟩
                case measure => simp [intOf]; omega
            · have hJ := joins_same (g := s.1) hA hC
              rw [hS] at hJ
              have hL := leastV_in (g := s.1) hA
              have hM := leastV_in (g := s.1) hC
              have hstp := stp_no hJ
              have SAME := fun m => (hT.drewN (m := m)).same A C
              have LEAST := fun m => (hT.drewN (m := m)).least A
              have LEASC := fun m => (hT.drewN (m := m)).least C
              have JOIN := fun m => (hT.drewN (m := m)).join A C
              rw [hS] at SAME
              rw [hL] at LEAST
              rw [hM] at LEASC
              rw [hJ, hstp] at JOIN
              have HS : Hid (sameB n s.1 A C = true) := hS
              generalize s.1.lo A.toNat = la at LEAST
              generalize s.1.lo C.toNat = lc at LEASC
              clear hS hJ hL hA hC hM hstp
              go_wp2_with fail
              go_quiet ((go_at_call 34; exact Calls.quiet_of (SAME _)))
              go_wp2_with fail
              refine (LEAST _).mono ?_
              rintro e w3 ⟨rfl, m3, rfl⟩
              go_wp2_with fail
              refine (LEASC _).mono ?_
              rintro e w3 ⟨rfl, m3', rfl⟩
              go_wp2_with fail
              refine (hT.drewN.count).mono ?_
              rintro e w4 ⟨rfl, m4, rfl⟩
              go_wp2_with fail
              go_cut [16] from 33 to 133 (fun v wx => v = .bool false ∧ One w wx w.heap.size p w.heap.size n s)
              case first =>
                go_region_with (go_at_call 29; refine (JOIN _).mono ?_; rintro e w5 ⟨rfl, hT5⟩)
                all_goals
                  go_wp2_with fail
                  go_meet
                  case rel => exact ⟨rfl, hT5⟩
              case rest =>
                obtain ⟨rfl, hT5⟩ := hcut
                clear d0 d1 d2 SAME LEAST LEASC JOIN
                have d1 := (hT5.below.cell (p := ⟨bb, off + k * 3 + 1, none⟩) hb).trans k1
                have d2 := (hT5.below.cell (p := ⟨bb, off + k * 3 + 2, none⟩) hb).trans k2
                have SAMN := fun m => (hT5.drewN (m := m)).same A C
                rw [HS.out] at SAMN
                go_wp2_with fail
                go_quiet (first | (go_at_call 26; exact Calls.quiet_of ((hT5.drewN).count)) | (go_at_call 34; exact Calls.quiet_of (SAMN _)))
                go_wp2
                go_roundw
                case rel => exact ⟨k + 1, by omega, by go_num, s, hT5.drewN⟩
                case measure => simp [intOf]; omega
      · have hk0 : (Kd == 0) = false := beq_eq_false_iff_ne.2 hkd
        clear hkd
        go_wp2
        go_roundw
        case rel => exact ⟨k + 1, by omega, by go_num, s, hT⟩
        case measure => simp [intOf]; omega
    · clear T0
      have hok := hT.ok
      have SAM := fun m x y => (hT.drewN (m := m)).same x y
      have LEA := fun m x => (hT.drewN (m := m)).least x
      have AB := (hT.same a b)
      go_wp2_with fail
      refine AB.mono ?_
      rintro e w3 ⟨rfl, m3, rfl⟩
      clear AB
      go_upto_region 15 with fail
      go_cut [17, 170] from 134 to 185 (fun v17 v wx => v17 = .bool (sameB n s.1 a b) ∧ v = .bool false ∧ One w wx w.heap.size p w.heap.size n s)
      case first =>
        cases hab : sameB n s.1 a b
        · have BA := fun m => SAM m b a
          have AA := fun m => SAM m a a
          rw [same_comm, hab] at BA
          rw [same_self] at AA
          cases hA : inB n a
          · have LA := fun m => LEA m a
            rw [leastV_out hA] at LA
            rw [hA] at AA
            clear SAM LEA
            go_wp2_with fail
            refine (BA _).mono ?_
            rintro e w4 ⟨rfl, m4, rfl⟩
            go_wp2_with fail
            refine (LA _).mono ?_
            rintro e w5 ⟨rfl, m5, rfl⟩
            go_wp2_with fail
            refine (AA _).mono ?_
            rintro e w6 ⟨rfl, m6, rfl⟩
            go_wp2_with fail
            go_meet
            case rel => exact ⟨by rw [hab], rfl, hT.drewN⟩
          · have LA := fun m => LEA m a
            rw [leastV_in hA] at LA
            rw [hA] at AA
            clear SAM LEA
            go_wp2_with fail
            refine (BA _).mono ?_
            rintro e w4 ⟨rfl, m4, rfl⟩
            go_wp2_with fail
            refine (LA _).mono ?_
            rintro e w5 ⟨rfl, m5, rfl⟩
            go_wp2_with fail
            refine (AA _).mono ?_
            rintro e w6 ⟨rfl, m6, rfl⟩
            go_wp2_with fail
            go_meet
            case rel => exact ⟨by rw [hab], rfl, hT.drewN⟩
        · have BA := fun m => SAM m b a
          have AA := fun m => SAM m a a
          have BC := fun m => SAM m b c
          have AC := fun m => SAM m a c
          have hA := (same_iff.1 hab).1
          have LA := fun m => LEA m a
          rw [same_comm, hab] at BA
          rw [same_self, hA] at AA
          rw [leastV_in hA] at LA
          cases hbc : sameB n s.1 b c
          · rw [hbc] at BC
            clear SAM LEA
            go_wp2_with fail
            refine (BA _).mono ?_
            rintro e w4 ⟨rfl, m4, rfl⟩
            go_wp2_with fail
            refine (BC _).mono ?_
            rintro e w4 ⟨rfl, m4', rfl⟩
            go_wp2_with fail
            refine (LA _).mono ?_
            rintro e w5 ⟨rfl, m5, rfl⟩
            go_wp2_with fail
            refine (AA _).mono ?_
            rintro e w6 ⟨rfl, m6, rfl⟩
            go_wp2_with fail
            go_meet
            case rel => exact ⟨by rw [hab], rfl, hT.drewN⟩
          · rw [hbc] at BC
            rw [same_trans hab hbc] at AC
            clear SAM LEA
            go_wp2_with fail
            refine (BA _).mono ?_
            rintro e w4 ⟨rfl, m4, rfl⟩
            go_wp2_with fail
            refine (BC _).mono ?_
            rintro e w4 ⟨rfl, m4', rfl⟩
            go_wp2_with fail
            refine (AC _).mono ?_
            rintro e w4 ⟨rfl, m4'', rfl⟩
            go_wp2_with fail
            refine (LA _).mono ?_
            rintro e w5 ⟨rfl, m5, rfl⟩
            go_wp2_with fail
            refine (AA _).mono ?_
            rintro e w6 ⟨rfl, m6, rfl⟩
            go_wp2_with fail
            go_meet
            case rel => exact ⟨by rw [hab], rfl, hT.drewN⟩
      case rest =>
        clear hT SAM LEA
        obtain ⟨rfl, rfl, hT⟩ := hcut
        have LEA := fun m x => (hT.drewN (m := m)).least x
        go_upto_region 17 with fail
        go_cut [17, 185] from 134 to 185 (fun v17 v wx => v17 = .bool (sameB n s.1 a b) ∧ v = .bool false ∧ One w wx w.heap.size p w.heap.size n s)
        case first =>
          have LA := fun m => LEA m a
          have LA0 := hT.least a
          have LB := fun m => LEA m b
          have hsl := same_least hok a b
          cases hA : inB n a
          · have hab : sameB n s.1 a b = false := by rw [← hsl, hA]; rfl
            rw [leastV_out hA] at LA LA0
            clear LEA hsl
            go_wp2_with fail
            refine LA0.mono ?_
            rintro e w4 ⟨rfl, m4, rfl⟩
            go_wp2_with fail
            go_meet
            case rel => exact ⟨by rw [hab], rfl, hT.drewN⟩
          · rw [hA, leastV_in hA] at hsl
            rw [leastV_in hA] at LA LA0
            generalize leastV n s.1 b = lb at hsl LB
            generalize s.1.lo a.toNat = la at hsl LA LA0
            clear LEA
            cases hab : sameB n s.1 a b
            · rw [hab] at hsl
              have hl2 : ((la : Int) == lb) = false := by simpa using hsl
              clear hsl
              go_wp2_with fail
              refine LA0.mono ?_
              rintro e w4 ⟨rfl, m4, rfl⟩
              go_wp2_with fail
              refine (LA _).mono ?_
              rintro e w4 ⟨rfl, m4', rfl⟩
              go_wp2_with fail
              refine (LB _).mono ?_
              rintro e w4 ⟨rfl, m4'', rfl⟩
              go_wp2_with fail
              go_meet
              case rel => exact ⟨by rw [hab], rfl, hT.drewN⟩
            · rw [hab] at hsl
              have hl2 : (la : Int) = lb := by simpa using hsl
              subst hl2
              clear hsl
              go_wp2_with fail
              refine LA0.mono ?_
              rintro e w4 ⟨rfl, m4, rfl⟩
              go_wp2_with fail
              refine (LA _).mono ?_
              rintro e w4 ⟨rfl, m4', rfl⟩
              go_wp2_with fail
              refine (LB _).mono ?_
              rintro e w4 ⟨rfl, m4'', rfl⟩
              go_wp2_with fail
              go_meet
              case rel => exact ⟨by rw [hab], rfl, hT.drewN⟩
        case rest =>
          clear hT LEA
          obtain ⟨rfl, rfl, hT⟩ := hcut
          generalize sameB n s.1 a b = ab
          go_wp2_with fail
          go_loopw [18, 19] (fun l t W => ∃ k : Nat, k ≤ n ∧ t = .int .i64 k ∧ l = .int .i64 (Uf.cnt k (fun i => decide (s.1.lo i = i)) : Nat) ∧ One w W w.heap.size p w.heap.size n s) (fun _ t _ => n - (intOf t).toNat)
          case atStart => exact ⟨0, Nat.zero_le _, rfl, rfl, hT⟩
          case round =>
            clear hT
            obtain ⟨k, hk, rfl, rfl, hT⟩ := hrel
            by_cases hlt : k < n
            · have hin := inB_nat hlt
              have LK0 := hT.least k
              have LK := fun m => (hT.drewN (m := m)).least k
              rw [leastV_in hin, Int.toNat_natCast] at LK0 LK
              have hlo := hok.lole k hlt
              have hsl := same_lo hok hlt
              have SK := fun m => (hT.drewN (m := m)).same k (s.1.lo k : Int)
              rw [hsl] at SK
              have hcs : Uf.cnt (k + 1) (fun i => decide (s.1.lo i = i)) = Uf.cnt k (fun i => decide (s.1.lo i = i)) + (if s.1.lo k = k then 1 else 0) := by simp [Uf.cnt]
              have hcl := Uf.cnt_le k (fun i => decide (s.1.lo i = i))
              by_cases hlk : s.1.lo k = k
              · rw [if_pos hlk] at hcs
                rw [hlk] at LK0 LK SK
                generalize Uf.cnt k (fun i => decide (s.1.lo i = i)) = cn at *
                have HC : Hid (Uf.cnt (k + 1) (fun i => decide (s.1.lo i = i)) = cn + 1) := hcs
                clear hcs hlk hsl hlo hin
                go_wp2_with fail
                refine LK0.mono ?_
                rintro e w4 ⟨rfl, m4, rfl⟩
                go_wp2_with fail
                refine (LK _).mono ?_
                rintro e w4 ⟨rfl, m4', rfl⟩
                go_wp2_with fail
                refine (LK _).mono ?_
                rintro e w4 ⟨rfl, m4'', rfl⟩
                go_wp2_with fail
                refine (SK _).mono ?_
                rintro e w4 ⟨rfl, m5, rfl⟩
                go_wp2
                go_roundw
                case rel => exact ⟨k + 1, by omega, by go_num, by rw [HC.out]; go_num, hT.drewN⟩
                case measure => simp [intOf]; omega
              · rw [if_neg hlk] at hcs
                have hlt2 : s.1.lo k < k := by omega
                generalize Uf.cnt k (fun i => decide (s.1.lo i = i)) = cn at *
                have HC : Hid (Uf.cnt (k + 1) (fun i => decide (s.1.lo i = i)) = cn) := hcs
                clear hcs hsl
                generalize s.1.lo k = lk at *
                have hb : ((lk : Int) == (k : Int)) = false := beq_eq_false_iff_ne.2 (by omega)
                clear hlk hlo hin
                go_wp2_with fail
                refine LK0.mono ?_
                rintro e w4 ⟨rfl, m4, rfl⟩
                go_wp2_with fail
                refine (LK _).mono ?_
                rintro e w4 ⟨rfl, m4', rfl⟩
                go_wp2_with fail
                refine (LK _).mono ?_
                rintro e w4 ⟨rfl, m4'', rfl⟩
                go_wp2_with fail
                refine (SK _).mono ?_
                rintro e w4 ⟨rfl, m5, rfl⟩
                go_wp2
                go_roundw
                case rel => exact ⟨k + 1, by omega, by go_num, by rw [HC.out], hT.drewN⟩
                case measure => simp [intOf]; omega
            · obtain rfl : k = n := by omega
              have hnum := hok.num
              have CN := hT.count
              rw [show ((k : Int) - s.2.length) = ((Uf.cnt k (fun i => decide (s.1.lo i = i)) : Nat) : Int) from by omega] at CN
              generalize Uf.cnt k (fun i => decide (s.1.lo i = i)) = cn at *
              clear hnum
              go_wp2_with fail
              refine CN.mono ?_
              rintro e w5 ⟨rfl, m5, rfl⟩
              go_wp2_with fail
              refine (alive_in _).mono ?_
              rintro e w9 ⟨rfl, hb⟩
              go_wp2
              go_ret
              exact ⟨rfl, (below_drewN hT.below m5).trans (hb.mono (below_drewN hT.below m5).size)⟩

end Go.Proofs.Ytinphcnknionmaa
