/- shows: are all classes the document's? -/
import Derived.Test.YtpipihllofpnaaaFindY
namespace Go.Proofs.Ytpipihllofpnaaa
open Go.RowKit

theorem Three.class {w W : World} {B p nb q mb rp n : Nat} {s r : GT} (h : Three w W B p nb q mb rp n s r) (a : Int) :
    Calls Try.prog 84 #[.pointer (some ⟨p, 0, none⟩), .int .i64 a] W fun e w' => ∃ v, e = .returned v ∧ Below W.heap.size W w' ∧ w'.ownsRow W.heap.size 3 1 v (classL n s.1 a).length (intsC (classL n s.1 a)) := by
  obtain ⟨jv, h1⟩ := h.st
  exact Class_in W B p nb jv n s h1 h.small a
theorem Three.rclass {w W : World} {B p nb q mb rp n : Nat} {s r : GT} (h : Three w W B p nb q mb rp n s r) (a : Int) :
    Calls Try.prog 86 #[.pointer (some ⟨rp, 0, none⟩), .int .i64 a] W fun e w' => ∃ v, e = .returned v ∧ Below W.heap.size W w' ∧ w'.ownsRow W.heap.size 3 1 v (classL n s.1 a).length (intsC (classL n s.1 a)) := by
  obtain ⟨lv, hr⟩ := h.ref
  exact rClass_in W B rp n lv s hr h.len _ h.ok a
theorem Three.least {w W : World} {B p nb q mb rp n : Nat} {s r : GT} (h : Three w W B p nb q mb rp n s r) (a : Int) :
    Calls Try.prog 27 #[.pointer (some ⟨p, 0, none⟩), .int .i64 a] W fun e w' => e = .returned (.int .i64 (leastV n s.1 a)) ∧ ∃ m, w' = W.drewN m := h.two.least a
theorem Three.rleast {w W : World} {B p nb q mb rp n : Nat} {s r : GT} (h : Three w W B p nb q mb rp n s r) (a : Int) :
    Calls Try.prog 79 #[.pointer (some ⟨rp, 0, none⟩), .int .i64 a] W fun e w' => e = .returned (.int .i64 (leastV n s.1 a)) ∧ ∃ m, w' = W.drewN m := by
  obtain ⟨lv, hr⟩ := h.ref
  exact rLeast_in W B rp n lv s hr h.len a
theorem Three.same {w W : World} {B p nb q mb rp n : Nat} {s r : GT} (h : Three w W B p nb q mb rp n s r) (a b : Int) :
    Calls Try.prog 34 #[.pointer (some ⟨p, 0, none⟩), .int .i64 a, .int .i64 b] W fun e w' => e = .returned (.bool (sameB n s.1 a b)) ∧ ∃ m, w' = W.drewN m := by
  obtain ⟨jv, h1⟩ := h.st
  exact Same_in W B p nb n s.1 jv _ h1.lies _ h1.ok a b
theorem Three.rsame {w W : World} {B p nb q mb rp n : Nat} {s r : GT} (h : Three w W B p nb q mb rp n s r) (a b : Int) :
    Calls Try.prog 35 #[.pointer (some ⟨rp, 0, none⟩), .int .i64 a, .int .i64 b] W fun e w' => e = .returned (.bool (sameB n s.1 a b)) ∧ ∃ m, w' = W.drewN m := by
  obtain ⟨lv, hr⟩ := h.ref
  exact rSame_in W B rp n lv s hr h.len _ h.ok a b
theorem Three.rcount {w W : World} {B p nb q mb rp n : Nat} {s r : GT} (h : Three w W B p nb q mb rp n s r) :
    Calls Try.prog 83 #[.pointer (some ⟨rp, 0, none⟩)] W fun e w' => e = .returned (.int .i64 ((n : Int) - s.2.length)) ∧ ∃ m, w' = W.drewN m := by
  obtain ⟨lv, hr⟩ := h.ref
  exact rCount_in W B rp n lv _ hr s.2.length (Uf.logOf_length n s.2 s.1) h.len
theorem Three.cells {w W : World} {B p nb q mb rp n : Nat} {s r : GT} (h : Three w W B p nb q mb rp n s r) : W.cell? ⟨rp, 0, none⟩ = some (.int .i64 (n : Int)) ∧ ∃ a c, W.cell? ⟨rp, 1, none⟩ = some (.slice a (s.2.length + 1) c) := by
  obtain ⟨lv, hr⟩ := h.ref
  obtain ⟨a, c, rfl⟩ := hr.form
  refine ⟨hr.c0, a, c, ?_⟩
  rw [← Uf.logOf_length n s.2 s.1]
  exact hr.c1

theorem quiet_eq {P : Program} {f : FuncId} {args : Array Value} {w : World} {v : Value} (h : Calls P f args w fun e w' => e = .returned v ∧ w = w') : Calls P f args w fun e w' => e = .returned v ∧ ∃ m, w' = w.drewN m :=
  h.mono fun _ _ x => ⟨x.1, 0, x.2.symm⟩

set_option maxRecDepth 100000 in
set_option maxHeartbeats 4000000 in
theorem shows_in (w W : World) (B p nb q mb rp n : Nat) (s r : GT) (h : Three w W B p nb q mb rp n s r) :
    Calls Try.prog 33 #[.pointer (some ⟨p, 0, none⟩), .pointer (some ⟨rp, 0, none⟩)] W fun e W' => e = .returned (.bool true) ∧ Below W.heap.size W W' := by
  obtain ⟨c0, la, lc, c1⟩ := h.cells
  have hlen := h.len
  have hsm := h.small
  have CNT := fun m => (h.drewN (m := m)).two.count
  have RCN := fun m => (h.drewN (m := m)).rcount
  have MRK := fun m => quiet_eq (h.drewN (m := m)).two.mark
  generalize hcn : (n : Int) - s.2.length = cn at *
  have hle := h.ok.num_le
  generalize htt : s.2.length = tt at *
  have q2 : IntKind.i64.wrap ((tt : Int) + 1 - 1) = (tt : Int) := by rw [IntKind.wrap_i64]; omega
  have q3 : wrap64 ((tt : Int) + 1 - 1) = (tt : Int) := by unfold wrap64; omega
  have HLAT : Hid (∀ W', Below W.heap.size W W' → Three w W' B p nb q mb rp n s r) := fun W' hB => h.later hB
  clear hcn htt h hle
  go_enter Try.func33, Try.ntmps33
  go_wp2_with fail
  go_quiet (first | (go_at_call 26; exact Calls.quiet_of (CNT _)) | (go_at_call 83; exact Calls.quiet_of (RCN _)) | (go_at_call 36; exact Calls.quiet_of (MRK _)))
  clear CNT RCN MRK q2 q3 c1
  go_wp2_with fail
  go_loopw [5] (fun t W1 => ∃ k : Nat, k ≤ n + 2 ∧ t = .int .i64 ((k : Int) - 1) ∧ Hid (Below W.heap.size W W1)) (fun t _ => (n + 1 - (intOf t)).toNat)
  case atStart => exact ⟨0, by omega, rfl, below_drewN (Below.refl _ _) _⟩
  case round =>
    obtain ⟨k, hk, rfl, hB⟩ := hrel
    have h1 := HLAT.out _ hB.out
    obtain ⟨c0r, _⟩ := h1.cells
    by_cases hlt : k < n + 2
    · obtain ⟨ai, hai⟩ : ∃ ai : Int, (k : Int) - 1 = ai := ⟨_, rfl⟩
      have hai2 : ai ≤ (n : Int) := by omega
      have hai3 : -1 ≤ ai := by omega
      have HAI : Hid ((k : Int) - 1 = ai) := hai
      rw [hai]
      clear hai
      have CL := h1.class ai
      have hcl := class_length n s.1 ai
      generalize hL : classL n s.1 ai = L at CL hcl
      have HL : Hid (classL n s.1 ai = L) := hL
      clear hL
      go_wp2_with fail
      refine CL.mono ?_
      rintro e w3 ⟨v1, rfl, b3, o3⟩
      clear CL
      have hB3 : Hid (Below W.heap.size W w3) := hB.out.trans (b3.mono hB.out.size)
      have h3 := HLAT.out _ hB3.out
      have RC := h3.rclass ai
      rw [HL.out] at RC
      go_wp2_with fail
      refine RC.mono ?_
      rintro e w4 ⟨v2, rfl, b4, o4⟩
      clear RC
      have hB4 : Hid (Below W.heap.size W w4) := hB3.out.trans (b4.mono hB3.out.size)
      have o34 : w4.ownsRow wr.heap.size 3 1 v1 L.length (intsC L) :=
        owns_kept o3 (S := fun k => w3.heap.size ≤ k) ⟨b4.os, b4.tape, b4.output, b4.size, fun k hk _ => b4.block k hk⟩ (fun k hk => by have := (o3.lt k hk).2; omega)
      have IN := ints_eq w4 _ _ v1 v2 L (by omega) o34 o4
      have h4 := HLAT.out _ hB4.out
      have LE := fun m => (h4.drewN (m := m)).least ai
      have RL := fun m => (h4.drewN (m := m)).rleast ai
      generalize leastV n s.1 ai = lz at LE RL
      obtain ⟨a1, cp1, hv1⟩ : ∃ a c, v1 = .slice a L.length c := by
        rcases o34.2 with ⟨e, h0⟩ | ⟨b, cap, cur, e, _⟩
        · rw [h0]; exact ⟨_, _, e⟩
        · exact ⟨_, _, e⟩
      have b34 : Below wr.heap.size wr w4 := b3.trans (b4.mono b3.size)
      have hww := hB.out.size
      have H34 : Hid (w4.ownsRow wr.heap.size 3 1 v1 L.length (intsC L) ∧ Below wr.heap.size wr w4) := ⟨o34, b34⟩
      subst hv1
      have hL60 : L.length ≤ 60 := by omega
      clear o3 o4 o34 b3 b4 h3 h4 h1 b34 c0r hcl
      go_wp2_with fail
      refine IN.mono ?_
      rintro e w5 ⟨rfl, m5, rfl⟩
      clear IN
      go_wp2_with fail
      refine (LE _).mono ?_
      rintro e w5 ⟨rfl, m6, rfl⟩
      go_wp2_with fail
      refine (RL _).mono ?_
      rintro e w5 ⟨rfl, m7, rfl⟩
      clear LE RL
      go_wp2_with fail
      go_loopw [8] (fun t W1 => ∃ j : Nat, j ≤ L.length ∧ t = .int .i64 j ∧ (∃ xs, W1.ownsRow wr.heap.size 3 1 (.slice a1 L.length cp1) L.length xs) ∧ Hid (Below wr.heap.size wr W1)) (fun t _ => L.length - (intOf t).toNat)
      case atStart => exact ⟨0, Nat.zero_le _, rfl, ⟨_, H34.out.1⟩, below_drewN H34.out.2 _⟩
      case round =>
        obtain ⟨j, hj, rfl, ⟨xs, hox⟩, hBx⟩ := hrel
        by_cases hjl : j < L.length
        · have hfr := hox
          rcases hfr.2 with ⟨e, h0⟩ | ⟨g, cap, cur, e, hg1, hg2, _⟩
          · omega
          · simp only [Value.slice.injEq] at e
            obtain ⟨rfl, _, rfl⟩ := e
            have hst := hox.stored j (.int .i64 (-7))
            have hcl : ∃ u, wr.cell? ⟨g, j, none⟩ = some u := by
              have := hox.cellAt j (by omega)
              rw [this]
              have hxl : j < xs.length := by rw [hox.1]; omega
              exact ⟨_, List.getElem?_eq_getElem hxl⟩
            obtain ⟨u, hcu⟩ := hcl
            have hfz := hox.frozenAt j
            have HST : Hid _ := hst
            clear hst hox hfr
            go_wp2
            go_roundw
            case rel => exact ⟨j + 1, by omega, by go_num, ⟨_, HST.out.1⟩, hBx.out.setCell hg1 _⟩
            case measure => simp [intOf]; omega
        · clear hox
          go_wp2
          go_roundw
          case rel => exact ⟨k + 1, by omega, by rw [← HAI.out]; go_num, hB.out.trans (hBx.out.mono hB.out.size)⟩
          case measure => simp [intOf]; omega
    · go_wp2
      go_ret
      exact ⟨rfl, hB.out⟩

end Go.Proofs.Ytpipihllofpnaaa
