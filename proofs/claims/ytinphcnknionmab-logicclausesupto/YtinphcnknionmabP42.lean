/- The document's Well. The document's Count. Package logic: Clauses, of a formula. -/
import Derived.Test.YtinphcnknionmabP21
import Derived.Test.YtinphcnknionmabP41
import Derived.Test.YtinphcnknionmabP31
import Derived.Test.YtinphcnknionmabFiB
namespace Go.Proofs.Ytinphcnknionmab
open Go.RowKit Go.Maps

/-- A Kid's cells, wherever it lies. -/
def KidC (W : World) (a : Option Addr) (i : Nat) (k : Lf) (sa : Option Addr) (sn sc : Nat) : Prop :=
  ∃ kb ko, a = some ⟨kb, ko, none⟩ ∧ W.cell? ⟨kb, ko + i * 4, none⟩ = some (.int .i64 k.op) ∧ W.cell? ⟨kb, ko + i * 4 + 1, none⟩ = some (.int .i64 k.x) ∧ W.cell? ⟨kb, ko + i * 4 + 2, none⟩ = some (.int .i64 k.y) ∧ W.cell? ⟨kb, ko + i * 4 + 3, none⟩ = some (.slice sa sn sc)

theorem kid_atC {w : World} {a : Option Addr} {cap : Nat} {kids : List Lf} (hk : KidsIn (.slice a kids.length cap) kids) (hks : ∀ k ∈ kids, LayC w k) : ∀ (i : Nat), i < kids.length → ∃ k ∈ kids, kids[i]? = some k ∧ ∃ sa sn sc, k.kv = .slice sa sn sc ∧ KidsIn k.kv k.kids ∧ ∀ W, Below w.heap.size w W → KidC W a i k sa sn sc ∧ ∀ u ∈ k.kids, LayC W u := by
  intro i hi
  obtain ⟨a', cap', hv, _, hkk⟩ := hk
  simp at hv
  obtain ⟨rfl, rfl⟩ := hv
  obtain ⟨kb, ko, rfl, ha⟩ : ∃ kb ko, a = some ⟨kb, ko, none⟩ ∧ ∀ (j : Nat) (t : Lf), kids[j]? = some t → t.b = kb ∧ t.o = ko + j * 4 := by
    rcases hkk with e | h
    · rw [e] at hi; simp at hi
    · exact h
  have g1 : kids[i]? = some kids[i] := List.getElem?_eq_getElem hi
  generalize kids[i] = k at g1
  have hm := List.mem_of_getElem? g1
  have hl := hks k hm
  have C := kid_cells hks ha i k g1
  obtain ⟨_, _, _, sa, sn, sc, hkv, _⟩ := C w (Below.refl _ _)
  refine ⟨k, hm, g1, sa, sn, sc, hkv, ?_, fun W hB => ⟨?_, ?_⟩⟩
  · cases hl with
    | mk d0 d1 d2 d3 dk dh => exact dk
  · obtain ⟨q0, q1, q2, sa', sn', sc', hkv', q3⟩ := C W hB
    rw [hkv] at hkv'
    simp at hkv'
    obtain ⟨rfl, rfl, rfl⟩ := hkv'
    exact ⟨kb, ko, rfl, q0, q1, q2, q3⟩
  · have := hl.kept hB
    cases this with
    | mk d0 d1 d2 d3 dk dh => exact dh

theorem rkids_fb (w : World) (op x y : Int) (a : Option Addr) (n cap : Nat) : Calls Try.prog 22 #[.agg #[.int .i64 op, .int .i64 x, .int .i64 y, .slice a n cap]] (w.alloc (.cells #[.int .i64 op, .int .i64 x, .int .i64 y, .slice a n cap] 26)) fun e w' => e = .returned (.bool (whN op n)) ∧ Below w.heap.size w w' ∧ FB w' w.heap.size op x y (.slice a n cap) := by
  refine (rkids_in _ op x y a n cap).mono ?_
  rintro e w' ⟨rfl, B⟩
  exact ⟨rfl, ((Below.refl _ w).alloc (Nat.le_refl _) _).trans (B.mono (by simp)), (FB.new' w op x y _).keep B⟩

theorem wf_of {op : Int} {kids : List Fo} (h : whN op kids.length = true) (h0 : ¬ op = 0) (hk : ∀ k ∈ kids, WfF k) : WfF (.mk op 0 0 kids) := by
  unfold whN at h
  rw [if_neg h0] at h
  by_cases h1 : op = 1
  · rw [if_pos h1] at h
    obtain ⟨k, rfl⟩ := List.length_eq_one_iff.1 (by simpa using h)
    subst h1
    exact .neg k (hk k (by simp))
  · rw [if_neg h1] at h
    by_cases h2 : op = 2 ∨ op = 3 ∨ op = 4
    · rw [if_pos h2] at h
      match kids, h, hk with
      | [p, q], _, hk => exact .two op p q h2 (hk p (by simp)) (hk q (by simp))
    · rw [if_neg h2] at h
      cases h

/-- What Well says: if it is true, it is a formula. -/
def WlA (W : World) (f : Fo) (e : Ending) (w' : World) : Prop := ∃ b, e = .returned (.bool b) ∧ (b = true → WfF f) ∧ Below W.heap.size W w'
def WlT (t : Lf) : Prop := ∀ (w : World), Sml t → KidsIn t.kv t.kids → (∀ k ∈ t.kids, LayC w k) →
  Calls Try.prog 13 #[.agg #[.int .i64 t.op, .int .i64 t.x, .int .i64 t.y, t.kv], .int .i64 150] w fun e w' => WlA w t.er e w'

set_option maxRecDepth 100000 in
set_option maxHeartbeats 2000000 in
theorem wl_step (t : Lf) (ih : ∀ k ∈ t.kids, WlT k) : WlT t := by
  intro w hsm hk hks
  obtain ⟨b, o, op, x, y, kv, kids⟩ := t
  simp only [Lf.op, Lf.x, Lf.y, Lf.kv, Lf.kids, Lf.er] at ih hk hks ⊢
  obtain ⟨hnb, hsm2⟩ : kids.length ≤ 1048576 ∧ ∀ k ∈ kids, Sml k := by cases hsm with | mk h1 h2 => exact ⟨h1, h2⟩
  obtain ⟨a, cap, hkv, _⟩ := id hk
  subst hkv
  have KD : Hid (∀ (i : Nat), i < kids.length → ∃ k, kids[i]? = some k ∧ ∃ sa sn sc, ∀ W, Below w.heap.size w W → KidC W a i k sa sn sc ∧ Calls Try.prog 13 #[.agg #[.int .i64 k.op, .int .i64 k.x, .int .i64 k.y, .slice sa sn sc], .int .i64 150] W fun e w' => WlA W k.er e w') := fun i hi => by
    obtain ⟨k, hm, hj, sa, sn, sc, h1, h2, h3⟩ := kid_atC hk hks i hi
    refine ⟨k, hj, sa, sn, sc, fun W hB => ⟨(h3 W hB).1, ?_⟩⟩
    have := ih k hm W (hsm2 k hm) h2 (h3 W hB).2
    rw [h1] at this
    exact this
  have RK := rkids_fb w op x y a kids.length cap
  have HWF : Hid (whN op kids.length = true → ¬ op = 0 → x = 0 → y = 0 → (∀ k ∈ kids, WfF k.er) → WfF (.mk op x y (kids.map Lf.er))) := fun h1 h2 h3 h4 h5 => by
    subst h3 h4
    exact wf_of (by simpa using h1) h2 (fun k hk => by obtain ⟨t, ht, rfl⟩ := List.mem_map.1 hk; exact h5 t ht)
  have HAll : Hid (∀ i k, kids[i]? = some k → WfF k.er → (∀ u ∈ kids.take i, WfF u.er) → ∀ u ∈ kids.take (i + 1), WfF u.er) := fun i k h1 h2 h3 u hu => by
    rw [List.take_add_one, h1] at hu
    rcases List.mem_append.1 hu with hu | hu
    · exact h3 u hu
    · simp at hu
      subst hu
      exact h2
  clear ih hks hk hsm hsm2
  generalize hn : kids.length = n at *
  cases hw : whN op n with
  | false =>
    rw [hw] at RK
    go_enter Try.func13, Try.ntmps13
    go_wp2_with (first | (go_at_call 22; refine RK.mono ?_; rintro e w2 ⟨rfl, B2, _⟩))
    go_ret
    exact ⟨_, rfl, by simp, B2⟩
  | true =>
    rw [hw] at RK
    by_cases h0 : op = 0
    · subst h0
      have hn0 : n = 0 := by simpa [whN] using hw
      have hk0 : kids = [] := List.length_eq_zero_iff.1 (by omega)
      have HE : Hid (WfF (.mk 0 x y (kids.map Lf.er))) := by rw [hk0]; exact WfF.eq x y
      clear KD HWF HAll hk0 hn
      subst hn0
      go_enter Try.func13, Try.ntmps13
      by_cases hx0 : 0 ≤ x
      · by_cases hx1 : x < 150
        · by_cases hy0 : 0 ≤ y
          · by_cases hy1 : y < 150
            · have d1 : decide (0 ≤ x) = true := decide_eq_true hx0
              have d2 : decide (x < 150) = true := decide_eq_true hx1
              have d3 : decide (0 ≤ y) = true := decide_eq_true hy0
              have d4 : decide (y < 150) = true := decide_eq_true hy1
              go_wp2_with (first | (go_at_call 22; refine RK.mono ?_; rintro e w2 ⟨rfl, B2, f2⟩; obtain ⟨c0, c1, c2, c3⟩ := f2))
              go_ret
              exact ⟨_, rfl, fun _ => HE.out, B2⟩
            · have d1 : decide (0 ≤ x) = true := decide_eq_true hx0
              have d2 : decide (x < 150) = true := decide_eq_true hx1
              have d3 : decide (0 ≤ y) = true := decide_eq_true hy0
              have d4 : decide (y < 150) = false := decide_eq_false hy1
              clear hy1
              go_wp2_with (first | (go_at_call 22; refine RK.mono ?_; rintro e w2 ⟨rfl, B2, f2⟩; obtain ⟨c0, c1, c2, c3⟩ := f2))
              go_ret
              exact ⟨_, rfl, fun _ => HE.out, B2⟩
          · have d1 : decide (0 ≤ x) = true := decide_eq_true hx0
            have d2 : decide (x < 150) = true := decide_eq_true hx1
            have d3 : decide (0 ≤ y) = false := decide_eq_false hy0
            clear hy0
            go_wp2_with (first | (go_at_call 22; refine RK.mono ?_; rintro e w2 ⟨rfl, B2, f2⟩; obtain ⟨c0, c1, c2, c3⟩ := f2))
            go_ret
            exact ⟨_, rfl, fun _ => HE.out, B2⟩
        · have d1 : decide (0 ≤ x) = true := decide_eq_true hx0
          have d2 : decide (x < 150) = false := decide_eq_false hx1
          clear hx1
          go_wp2_with (first | (go_at_call 22; refine RK.mono ?_; rintro e w2 ⟨rfl, B2, f2⟩; obtain ⟨c0, c1, c2, c3⟩ := f2))
          go_ret
          exact ⟨_, rfl, fun _ => HE.out, B2⟩
      · have d1 : decide (0 ≤ x) = false := decide_eq_false hx0
        clear hx0
        go_wp2_with (first | (go_at_call 22; refine RK.mono ?_; rintro e w2 ⟨rfl, B2, f2⟩; obtain ⟨c0, c1, c2, c3⟩ := f2))
        go_ret
        exact ⟨_, rfl, fun _ => HE.out, B2⟩
    · have d0 : (op == 0) = false := by simpa using h0
      go_enter Try.func13, Try.ntmps13
      go_wp2_with (first | (go_at_call 22; refine RK.mono ?_; rintro e w2 ⟨rfl, B2, f2⟩; have f3 : Hid _ := f2; obtain ⟨c0, c1, c2, c3⟩ := f2))
      clear c0 c1 c2 c3
      go_loopw [6] (fun t6 W => ∃ i : Nat, i ≤ n ∧ t6 = .int .i64 (i : Int) ∧ Hid (Below w.heap.size w W) ∧ Hid (FB W w.heap.size op x y (.slice a n cap)) ∧ Hid (∀ u ∈ kids.take i, WfF u.er)) (fun t6 _ => n - (intOf t6).toNat)
      case atStart => exact ⟨0, by omega, rfl, B2, f3.out, by simp [Hid]⟩
      case round =>
        obtain ⟨i, hi, rfl, HB, HF, HA⟩ := hrel
        obtain ⟨c0, c1, c2, c3⟩ := HF.out
        by_cases hi2 : i < n
        · have di : decide ((i : Int) < (n : Int)) = true := decide_eq_true (by omega)
          obtain ⟨k, hj, sa, sn, sc, hW⟩ := KD.out i hi2
          obtain ⟨⟨kb, ko, rfl, q0, q1, q2, q3⟩, CK⟩ := hW wr HB.out
          have HN : Hid (WfF k.er → ∀ u ∈ kids.take (i + 1), WfF u.er) := fun h => HAll.out i k hj h HA.out
          generalize k.op = kop at *
          generalize k.x = kx at *
          generalize k.y = ky at *
          clear KD HAll hj hW
          go_wp2_with (first | (go_at_call 13; refine CK.mono ?_; rintro e w4 ⟨gb, rfl, hgb, B4⟩; refine Aside.out ?_))
          delta Aside
          have HB4 : Hid (Below w.heap.size w w4) := HB.out.trans (B4.mono HB.out.size)
          have HF4 : Hid (FB w4 w.heap.size op x y (.slice (some ⟨kb, ko, none⟩) n cap)) := HF.out.keep B4
          cases gb with
          | true =>
            have HN2 := HN.out (hgb rfl)
            have HN3 : Hid _ := HN2
            clear HN HN2 hgb B4 HB HF HA
            apply_assumption
            go_wp2_with fail
            exact ⟨⟨i + 1, hi2, by simp, HB4, HF4, HN3⟩, by simp [intOf]; omega⟩
          | false =>
            clear HN hgb B4 HB HF HA
            apply_assumption
            go_wp2_with fail
            go_ret
            exact ⟨_, rfl, by simp, HB4.out⟩
        · have di : decide ((i : Int) < (n : Int)) = false := decide_eq_false (by omega)
          obtain rfl : i = n := by omega
          have hall : Hid (∀ u ∈ kids, WfF u.er) := by
            have := HA.out
            rw [List.take_of_length_le (by omega)] at this
            exact this
          clear KD HAll HA HF
          by_cases hx : x = 0
          · subst hx
            by_cases hy : y = 0
            · subst hy
              go_wp2_with fail
              go_ret
              exact ⟨_, rfl, fun _ => HWF.out hw h0 (by trivial) (by trivial) hall.out, HB.out⟩
            · have dy : (y == 0) = false := by simpa using hy
              clear hy
              go_wp2_with fail
              go_ret
              exact ⟨_, rfl, by simp, HB.out⟩
          · have dx : (x == 0) = false := by simpa using hx
            clear hx
            go_wp2_with fail
            go_ret
            exact ⟨_, rfl, by simp, HB.out⟩

theorem wlt : ∀ t : Lf, WlT t
  | .mk b o op x y kv kids => wl_step _ (fun k hk => by
      have : k ∈ kids := hk
      have := List.sizeOf_lt_of_mem this
      exact wlt k)
termination_by t => SizeOf.sizeOf t
decreasing_by simp; omega

end Go.Proofs.Ytinphcnknionmab

namespace Go.Proofs.Ytinphcnknionmab
open Go.RowKit Go.Maps

theorem cnt_sum {op x y : Int} {ks : List Fo} (h : WfF (.mk op x y ks)) (h0 : ¬ op = 0) : Cn.cnt (.mk op x y ks) = (1 + (ks.map fun k => (Cn.cnt k).1).sum, 1 + (ks.map fun k => (Cn.cnt k).2).sum) := by
  cases h with
  | eq => exact absurd rfl h0
  | neg f hf => simp [Cn.cnt]; omega
  | two o f g ho hf hg => rcases ho with rfl | rfl | rfl <;> simp [Cn.cnt] <;> omega
theorem cnt_le {f : Fo} (h : WfF f) : (Cn.cnt f).1 ≤ szF f ∧ (Cn.cnt f).2 ≤ (Cn.cnt f).1 := by
  induction h with
  | eq x y => simp [Cn.cnt, szF]
  | neg f hf ih => simp [Cn.cnt, szF]; omega
  | two o f g ho hf hg ih1 ih2 => rcases ho with rfl | rfl | rfl <;> simp [Cn.cnt, szF] <;> omega
theorem wf_kids {op x y : Int} {ks : List Fo} (h : WfF (.mk op x y ks)) : ∀ k ∈ ks, WfF k := by
  cases h with
  | eq => simp
  | neg f hf => simpa using hf
  | two o f g ho hf hg => intro k hk; simp at hk; rcases hk with rfl | rfl <;> assumption
theorem sz_kids {op x y : Int} {ks : List Fo} (h : WfF (.mk op x y ks)) : ∀ k ∈ ks, szF k ≤ szF (.mk op x y ks) := by
  cases h with
  | eq => simp
  | neg f hf => intro k hk; simp at hk; subst hk; simp [szF]
  | two o f g ho hf hg => intro k hk; simp at hk; rcases hk with rfl | rfl <;> (rcases ho with rfl | rfl | rfl <;> simp [szF] <;> omega)

def sumT (xs : List Nat) (i : Nat) : Nat := (xs.take i).sum
theorem sumT_succ {xs : List Nat} {i x : Nat} (h : xs[i]? = some x) : sumT xs (i + 1) = sumT xs i + x := by
  unfold sumT
  rw [List.take_add_one, h]
  simp
theorem sumT_le (xs : List Nat) (i : Nat) : sumT xs i ≤ xs.sum := by
  unfold sumT
  conv => rhs; rw [← List.take_append_drop i xs, List.sum_append]
  omega

def CtT (t : Lf) : Prop := ∀ (w : World), Sml t → WfF t.er → szF t.er ≤ 1048576 → KidsIn t.kv t.kids → (∀ k ∈ t.kids, LayC w k) →
  Calls Try.prog 15 #[.agg #[.int .i64 t.op, .int .i64 t.x, .int .i64 t.y, t.kv]] w fun e w' => e = .returned (.tuple #[.int .i64 ((Cn.cnt t.er).1 : Int), .int .i64 ((Cn.cnt t.er).2 : Int)]) ∧ Below w.heap.size w w'

set_option maxRecDepth 100000 in
set_option maxHeartbeats 2000000 in
theorem ct_step (t : Lf) (ih : ∀ k ∈ t.kids, CtT k) : CtT t := by
  intro w hsm hwf hsz hk hks
  obtain ⟨b, o, op, x, y, kv, kids⟩ := t
  simp only [Lf.op, Lf.x, Lf.y, Lf.kv, Lf.kids, Lf.er] at ih hk hks hwf hsz ⊢
  obtain ⟨hnb, hsm2⟩ : kids.length ≤ 1048576 ∧ ∀ k ∈ kids, Sml k := by cases hsm with | mk h1 h2 => exact ⟨h1, h2⟩
  obtain ⟨a, cap, hkv, _⟩ := id hk
  subst hkv
  have KD : Hid (∀ (i : Nat), i < kids.length → ∃ k, kids[i]? = some k ∧ ∃ sa sn sc, ∀ W, Below w.heap.size w W → KidC W a i k sa sn sc ∧ Calls Try.prog 15 #[.agg #[.int .i64 k.op, .int .i64 k.x, .int .i64 k.y, .slice sa sn sc]] W fun e w' => e = .returned (.tuple #[.int .i64 ((Cn.cnt k.er).1 : Int), .int .i64 ((Cn.cnt k.er).2 : Int)]) ∧ Below W.heap.size W w') := fun i hi => by
    obtain ⟨k, hm, hj, sa, sn, sc, h1, h2, h3⟩ := kid_atC hk hks i hi
    refine ⟨k, hj, sa, sn, sc, fun W hB => ⟨(h3 W hB).1, ?_⟩⟩
    have hme : k.er ∈ kids.map Lf.er := List.mem_map.2 ⟨k, hm, rfl⟩
    have := ih k hm W (hsm2 k hm) (wf_kids hwf _ hme) (Nat.le_trans (sz_kids hwf _ hme) hsz) h2 (h3 W hB).2
    rw [h1] at this
    exact this
  have Y1 := FB.new' w op x y (.slice a kids.length cap)
  have B1 := Below.new w (.cells #[.int .i64 op, .int .i64 x, .int .i64 y, .slice a kids.length cap] 26)
  by_cases h0 : op = 0
  · subst h0
    have HC : Hid (Cn.cnt (.mk 0 x y (kids.map Lf.er)) = (1, 0)) := by show _ = _; simp [Cn.cnt]
    obtain ⟨c0, c1, c2, c3⟩ := Y1
    clear KD ih hks hk hsm hsm2
    go_enter Try.func15, Try.ntmps15
    go_wp2_with fail
    refine ⟨rfl, .tuple #[.int .i64 1, .int .i64 0], by simp [results, Try.results15], ?_⟩
    rw [HC.out]
    exact ⟨rfl, B1⟩
  · have d0 : (op == 0) = false := by simpa using h0
    have HC : Hid (Cn.cnt (.mk op x y (kids.map Lf.er)) = _) := cnt_sum hwf h0
    have hle := cnt_le hwf
    have hS1 : Hid (∀ i k, kids[i]? = some k → sumT ((kids.map Lf.er).map fun k => (Cn.cnt k).1) (i + 1) = sumT ((kids.map Lf.er).map fun k => (Cn.cnt k).1) i + (Cn.cnt k.er).1) := fun i k hi => sumT_succ (by simp [hi])
    have hS2 : Hid (∀ i k, kids[i]? = some k → sumT ((kids.map Lf.er).map fun k => (Cn.cnt k).2) (i + 1) = sumT ((kids.map Lf.er).map fun k => (Cn.cnt k).2) i + (Cn.cnt k.er).2) := fun i k hi => sumT_succ (by simp [hi])
    have l1 := fun i => sumT_le ((kids.map Lf.er).map fun k => (Cn.cnt k).1) i
    have l2 := fun i => sumT_le ((kids.map Lf.er).map fun k => (Cn.cnt k).2) i
    have t1 : sumT ((kids.map Lf.er).map fun k => (Cn.cnt k).1) kids.length = ((kids.map Lf.er).map fun k => (Cn.cnt k).1).sum := by unfold sumT; rw [List.take_of_length_le (by simp)]
    have t2 : sumT ((kids.map Lf.er).map fun k => (Cn.cnt k).2) kids.length = ((kids.map Lf.er).map fun k => (Cn.cnt k).2).sum := by unfold sumT; rw [List.take_of_length_le (by simp)]
    have z1 : sumT ((kids.map Lf.er).map fun k => (Cn.cnt k).1) 0 = 0 := by simp [sumT]
    have z2 : sumT ((kids.map Lf.er).map fun k => (Cn.cnt k).2) 0 = 0 := by simp [sumT]
    rw [HC.out] at hle
    simp only at hle
    generalize ((kids.map Lf.er).map fun k => (Cn.cnt k).1) = xs at *
    generalize ((kids.map Lf.er).map fun k => (Cn.cnt k).2) = ys at *
    have HL : Hid ((∀ i, sumT xs i ≤ 1048576) ∧ (∀ i, sumT ys i ≤ 1048576)) := ⟨fun i => by have := l1 i; omega, fun i => by have := l2 i; omega⟩
    have HT : Hid (xs.sum = sumT xs kids.length ∧ ys.sum = sumT ys kids.length) := ⟨t1.symm, t2.symm⟩
    have Y2 : Hid _ := Y1
    obtain ⟨c0, c1, c2, c3⟩ := Y1
    clear ih hks hk hsm hsm2 l1 l2 t1 t2 hle hwf hsz
    generalize hn : kids.length = n at *
    go_enter Try.func15, Try.ntmps15
    go_wp2_with fail
    generalize w.alloc (.cells #[.int .i64 op, .int .i64 x, .int .i64 y, .slice a n cap] 26) = w1 at *
    clear c0 c1 c2 c3
    go_loopw [4, 5, 6] (fun t4 t5 t6 W => ∃ i : Nat, i ≤ n ∧ t4 = .int .i64 ((1 + sumT xs i : Nat) : Int) ∧ t5 = .int .i64 ((1 + sumT ys i : Nat) : Int) ∧ t6 = .int .i64 (i : Int) ∧ Hid (Below w.heap.size w W) ∧ Hid (FB W w.heap.size op x y (.slice a n cap))) (fun _ _ t6 _ => n - (intOf t6).toNat)
    case atStart => exact ⟨0, by omega, by rw [z1]; rfl, by rw [z2]; rfl, rfl, B1, Y2.out⟩
    case round =>
      obtain ⟨i, hi, rfl, rfl, rfl, HB, HF⟩ := hrel
      obtain ⟨c0, c1, c2, c3⟩ := HF.out
      have m1 := HL.out.1 i
      have m2 := HL.out.2 i
      by_cases hi2 : i < n
      · have di : decide ((i : Int) < (n : Int)) = true := decide_eq_true (by omega)
        obtain ⟨k, hj, sa, sn, sc, hW⟩ := KD.out i hi2
        obtain ⟨⟨kb, ko, rfl, q0, q1, q2, q3⟩, CK⟩ := hW wr HB.out
        have s1 : Hid _ := hS1.out i k hj
        have s2 : Hid _ := hS2.out i k hj
        have m3 := HL.out.1 (i + 1)
        have m4 := HL.out.2 (i + 1)
        have s1' := s1.out
        have s2' := s2.out
        rw [s1'] at m3
        rw [s2'] at m4
        generalize (Cn.cnt k.er).1 = ca at *
        generalize (Cn.cnt k.er).2 = cb at *
        generalize k.op = kop at *
        generalize k.x = kx at *
        generalize k.y = ky at *
        clear KD hS1 hS2 hj hW s1' s2'
        have w1' : IntKind.i64.wrap (((1 + sumT xs i : Nat) : Int) + (ca : Int)) = ((1 + sumT xs i + ca : Nat) : Int) := by rw [IntKind.wrap_i64]; omega
        have w2' : IntKind.i64.wrap (((1 + sumT ys i : Nat) : Int) + (cb : Int)) = ((1 + sumT ys i + cb : Nat) : Int) := by rw [IntKind.wrap_i64]; omega
        generalize hxa : 1 + sumT xs i = xa at *
        generalize hya : 1 + sumT ys i = ya at *
        have HX : Hid (1 + sumT xs (i + 1) = xa + ca ∧ 1 + sumT ys (i + 1) = ya + cb) := ⟨by rw [s1.out]; omega, by rw [s2.out]; omega⟩
        clear s1 s2 hxa hya
        go_wp2_with (first | (go_at_call 15; refine CK.mono ?_; rintro e w4 ⟨rfl, B4⟩))
        refine ⟨⟨i + 1, hi2, ?_, ?_, by simp, HB.out.trans (B4.mono HB.out.size), HF.out.keep B4⟩, by simp [intOf]; omega⟩
        · rw [HX.out.1]; simp
        · rw [HX.out.2]; simp
      · have di : decide ((i : Int) < (n : Int)) = false := decide_eq_false (by omega)
        obtain rfl : i = n := by omega
        clear KD hS1 hS2
        generalize hxa : 1 + sumT xs i = xa at *
        generalize hya : 1 + sumT ys i = ya at *
        have HX : Hid (1 + xs.sum = xa ∧ 1 + ys.sum = ya) := ⟨by rw [HT.out.1]; exact hxa, by rw [HT.out.2]; exact hya⟩
        clear hxa hya HT HL m1 m2
        go_wp2_with fail
        refine ⟨rfl, .tuple #[.int .i64 (xa : Int), .int .i64 (ya : Int)], by simp [results, Try.results15], ?_⟩
        rw [HC.out]
        exact ⟨by rw [HX.out.1, HX.out.2], HB.out⟩

theorem ctt : ∀ t : Lf, CtT t
  | .mk b o op x y kv kids => ct_step _ (fun k hk => by
      have : k ∈ kids := hk
      have := List.sizeOf_lt_of_mem this
      exact ctt k)
termination_by t => SizeOf.sizeOf t
decreasing_by simp; omega

end Go.Proofs.Ytinphcnknionmab

namespace Go.Proofs.Ytinphcnknionmab
open Go.RowKit Go.Shelf

theorem ClauseF_in (w : World) (v : Value) (f : Fo) (hv : FIs w v f) (hwf : WfF f) (hN : szF f ≤ 1048576) (hR : RF f) (ps : List (Int × Int)) (hps : ps = ats (eqF f)) (hpl : ps.length ≤ 1048576) (R : Int × Sc) (hRR : R = Cn.tse (numP ps) f (ps.length, [])) :
    Calls Try.prog 14 #[v] w fun e w' => ∃ ca cc, e = .returned (.tuple #[.slice ca (R.2.2 ++ [[R.1]]).length cc, .int .i64 (R.2.1 : Int)]) ∧ Cl2 w' ca (R.2.2 ++ [[R.1]]) ∧ Below w.heap.size w w' := by
  have hv0 := hv
  obtain ⟨op, x, y, kv, kids, rfl, hk, hks, hfe⟩ := hv
  obtain ⟨ka, kc, hkv, _⟩ := id hk
  subst hkv
  obtain ⟨t, ht⟩ : ∃ t, t = Lf.mk w.heap.size 0 op x y (.slice ka kids.length kc) kids := ⟨_, rfl⟩
  have hkt : t.kids = kids := by rw [ht]; rfl
  have he : t.er = f := by rw [ht, Lf.er, hfe]
  have hte : t = .mk w.heap.size 0 op x y (.slice ka kids.length kc) t.kids := by rw [hkt]; exact ht
  rw [← hkt] at hk hks
  have htb : t.b = w.heap.size ∧ t.o = 0 := by rw [hte]; exact ⟨rfl, rfl⟩
  have hlen : (es t).length ≤ 1048576 := by
    have h1 : (es t).length ≤ (wk t 0).length := List.length_filterMap_le isEnd (wk t 0)
    rw [len_wk, he] at h1
    omega
  have FO : Hid (∀ (W : World) (u : Value), ClS w W t u ps ps.length → Calls Try.prog 30 #[.pointer (some ⟨w.heap.size, 0, none⟩), .func (.func 31) #[.pointer (some ⟨w.heap.size + 2, 0, none⟩)] #[]] W fun e w' => e = .returned (.int .i64 R.1) ∧ Made (fun k => k = w.heap.size + 2 ∨ k = w.heap.size + 1) W w' (w.heap.size + 2) (w.heap.size + 1) ps (.slice none 0 0) R.2) := fun W u h => by
    have hm := h.maker
    rw [List.take_length] at hm
    have hwt : WfF t.er := by rw [he]; exact hwf
    have hok := stC_ok (numP ps) hwt ps.length (fun p _ => numP_le ps p)
    have := foldi_in W t (numP ps) ps.length _ (w.heap.size + 2) (w.heap.size + 1) ps (.slice none 0 0) h.here (by rw [len_wk, he]; omega) hm (fun W' S rv i z sv args hz hM hH ha hA hal => by
      have hil := (List.getElem?_eq_some_iff.1 hz).1
      obtain ⟨o1, o2, o3, o4⟩ := hok i (by omega)
      have hzm := List.mem_of_getElem? hz
      exact literal_in W' S (w.heap.size + 2) (w.heap.size + 1) ps rv _ hM (by omega) (by omega) z hH (whl_wf (es_wf hwt t rfl z hzm)) (es_R (by rw [he]; exact hR) z hzm) sv args hA hal (fun v hv => by
        rw [ha] at hv
        have := o1 v (List.mem_of_mem_drop hv)
        omega)) R.1 R.2 (by rw [stC_all _ hwt, he, ← hRR])
    rw [htb.1, htb.2] at this
    exact this
  have hcn := Cn.tse_count (numP ps) hwf (ps.length, [])
  have hct := Cn.cnt_told hwf
  have hcl := cnt_le hwf
  have h := clauses_w w op x y ka kids.length kc t f hte he hv0 hN hR (by rw [hkt] at hk ⊢; exact hk) hks ps hps hpl R (by rw [hRR, hcn.2]; simp; omega) FO
  exact h

end Go.Proofs.Ytinphcnknionmab
