/- Package find, the functions that only read: has, root, Count, Mark, Least, Same. -/
import Derived.Test.YtjfekcjhflcnaaaRows
import Derived.Test.YtjfekcjhflcnaaaUf
import Derived.WalkKit
import Derived.WalkSpells
import Derived.WalkLawsBesides
import Derived.Deep.OwnRows
import Derived.Deep.LoopGhost
import Derived.Deep.QuietTactic
import Derived.BigRegion
import Derived.BigQuiet
namespace Go.Proofs.Ytjfekcjhflcnaaa
open Go.RowKit

/-- What cell j of the nodes' array holds. -/
def nodeC (g : Uf.G) (j : Nat) : Value :=
  .int .i64 (if j % 4 = 0 then ((g.N (j / 4)).par : Int) else if j % 4 = 1 then ((g.N (j / 4)).nxt : Int) else if j % 4 = 2 then ((g.N (j / 4)).siz : Int) else ((g.N (j / 4)).lst : Int))

def joinC (js : List (Nat × Nat)) : List Value := js.flatMap fun x => [.int .i64 (x.1 : Int), .int .i64 (x.2 : Int)]

def setsC (nb n : Nat) (jv : Value) (j : Nat) : Value := if j = 0 then .slice (some ⟨nb, 0, none⟩) n n else jv

/-- A Sets that lies at block p, its nodes at block nb, its joins owned from base on. -/
structure Lies (w : World) (base p nb n : Nat) (g : Uf.G) (jv : Value) (js : List (Nat × Nat)) : Prop where
  sets : w.rowIs p 128 2 (setsC nb n jv)
  nodes : w.rowIs nb 130 (n * 4) (nodeC g)
  joins : w.ownsRow base 135 2 jv js.length (joinC js)
  ne : p ≠ nb
  jp : jv.ownBlock ≠ some p
  jn : jv.ownBlock ≠ some nb
  bp : base ≤ p
  bn : base ≤ nb
  small : n ≤ 100000

theorem Lies.jform {w : World} {base p nb n : Nat} {g : Uf.G} {jv : Value} {js : List (Nat × Nat)} (h : Lies w base p nb n g jv js) : ∃ a cap, jv = .slice a js.length cap := by
  rcases h.joins.2 with ⟨rfl, h0⟩ | ⟨b, cap, cur, rfl, _⟩
  · rw [h0]; exact ⟨none, 0, rfl⟩
  · exact ⟨_, cap, rfl⟩

theorem Lies.c0 {w : World} {base p nb n : Nat} {g : Uf.G} {jv : Value} {js : List (Nat × Nat)} (h : Lies w base p nb n g jv js) : w.cell? ⟨p, 0, none⟩ = some (.slice (some ⟨nb, 0, none⟩) n n) := h.sets.cell (by omega)
theorem Lies.c1 {w : World} {base p nb n : Nat} {g : Uf.G} {jv : Value} {js : List (Nat × Nat)} (h : Lies w base p nb n g jv js) : w.cell? ⟨p, 1, none⟩ = some jv := h.sets.cell (i := 1) (by omega)

/-- Is it a number of it? -/
def inB (n : Nat) (a : Int) : Bool := decide (0 ≤ a ∧ a < n)
theorem inB_true {n : Nat} {a : Int} (h : inB n a = true) : 0 ≤ a ∧ a < n := of_decide_eq_true h
theorem inB_false {n : Nat} {a : Int} (h : inB n a = false) : ¬ (0 ≤ a ∧ a < n) := of_decide_eq_false h
theorem inB_nat {n a : Nat} (h : a < n) : inB n a = true := decide_eq_true (by omega)
theorem ret_bool {a b : Bool} (h : a = b) : Ending.returned (.bool a) = .returned (.bool b) := by rw [h]
theorem ret_int {k : IntKind} {a b : Int} (h : a = b) : Ending.returned (.int k a) = .returned (.int k b) := by rw [h]
theorem inB_lt {n : Nat} {a : Int} (h : a < 0) : false = inB n a := (decide_eq_false (by omega)).symm
theorem inB_ge {n : Nat} {a : Int} (h : 0 ≤ a) : decide (a < n) = inB n a := by unfold inB; simp [h]

set_option maxHeartbeats 400000 in
theorem has_in (w : World) (base p nb n : Nat) (g : Uf.G) (jv : Value) (js : List (Nat × Nat)) (h : Lies w base p nb n g jv js) (a : Int) :
    Calls Try.prog 75 #[.pointer (some ⟨p, 0, none⟩), .int .i64 a] w fun e w' => e = .returned (.bool (inB n a)) ∧ w = w' := by
  have c0 := h.c0
  have hn := h.small
  clear h
  go_enter Try.func75, Try.ntmps75
  go_wp2
  · go_ret
    exact ⟨ret_bool (inB_ge ‹_›), rfl⟩
  · go_ret
    exact ⟨ret_bool (inB_lt ‹_›), rfl⟩

set_option maxHeartbeats 400000 in
theorem has_nil (w : World) (a : Int) :
    Calls Try.prog 75 #[.pointer none, .int .i64 a] w fun e w' => e = .returned (.bool false) ∧ w = w' := by
  go_enter Try.func75, Try.ntmps75
  go_wp2
  go_ret
  exact ⟨rfl, rfl⟩

theorem nodeC_par (g : Uf.G) (i : Nat) : nodeC g (i * 4) = .int .i64 ((g.N i).par : Int) := by
  have h1 : (i * 4) % 4 = 0 := by omega
  have h2 : (i * 4) / 4 = i := by omega
  simp [nodeC]
theorem nodeC_nxt (g : Uf.G) (i : Nat) : nodeC g (i * 4 + 1) = .int .i64 ((g.N i).nxt : Int) := by
  have h1 : (i * 4 + 1) % 4 = 1 := by omega
  have h2 : (i * 4 + 1) / 4 = i := by omega
  simp [nodeC, h1, h2]
theorem nodeC_siz (g : Uf.G) (i : Nat) : nodeC g (i * 4 + 2) = .int .i64 ((g.N i).siz : Int) := by
  have h1 : (i * 4 + 2) % 4 = 2 := by omega
  have h2 : (i * 4 + 2) / 4 = i := by omega
  simp [nodeC, h1, h2]
theorem nodeC_lst (g : Uf.G) (i : Nat) : nodeC g (i * 4 + 3) = .int .i64 ((g.N i).lst : Int) := by
  have h1 : (i * 4 + 3) % 4 = 3 := by omega
  have h2 : (i * 4 + 3) / 4 = i := by omega
  simp [nodeC, h1, h2]

theorem Lies.par {w : World} {base p nb n : Nat} {g : Uf.G} {jv : Value} {js : List (Nat × Nat)} (h : Lies w base p nb n g jv js) {i : Nat} (hi : i < n) : w.cell? ⟨nb, i * 4, none⟩ = some (.int .i64 ((g.N i).par : Int)) := by
  rw [← nodeC_par]; exact h.nodes.cell (by omega)
theorem Lies.nxt {w : World} {base p nb n : Nat} {g : Uf.G} {jv : Value} {js : List (Nat × Nat)} (h : Lies w base p nb n g jv js) {i : Nat} (hi : i < n) : w.cell? ⟨nb, i * 4 + 1, none⟩ = some (.int .i64 ((g.N i).nxt : Int)) := by
  rw [← nodeC_nxt]; exact h.nodes.cell (by omega)
theorem Lies.siz {w : World} {base p nb n : Nat} {g : Uf.G} {jv : Value} {js : List (Nat × Nat)} (h : Lies w base p nb n g jv js) {i : Nat} (hi : i < n) : w.cell? ⟨nb, i * 4 + 2, none⟩ = some (.int .i64 ((g.N i).siz : Int)) := by
  rw [← nodeC_siz]; exact h.nodes.cell (by omega)
theorem Lies.lst {w : World} {base p nb n : Nat} {g : Uf.G} {jv : Value} {js : List (Nat × Nat)} (h : Lies w base p nb n g jv js) {i : Nat} (hi : i < n) : w.cell? ⟨nb, i * 4 + 3, none⟩ = some (.int .i64 ((g.N i).lst : Int)) := by
  rw [← nodeC_lst]; exact h.nodes.cell (by omega)

set_option maxHeartbeats 400000 in
theorem root_in (w : World) (base p nb n : Nat) (g : Uf.G) (jv : Value) (js : List (Nat × Nat)) (h : Lies w base p nb n g jv js) (k : Nat) (hg : Uf.Ok n g k) (a : Nat) (ha : a < n) :
    Calls Try.prog 76 #[.pointer (some ⟨p, 0, none⟩), .int .i64 a] w fun e w' => e = .returned (.int .i64 (g.rt a)) ∧ w = w' := by
  have c0 := h.c0
  have hn := h.small
  go_enter Try.func76, Try.ntmps76
  go_wp2
  go_loop [1] (fun t => ∃ i : Nat, i < n ∧ t = .int .i64 i ∧ Hid (g.rt i = g.rt a)) (fun t => g.dp (intOf t).toNat)
  case atStart => exact ⟨a, ha, rfl, rfl⟩
  case round =>
    obtain ⟨i, hi, rfl, hrt⟩ := hrel
    have cp := h.par hi
    have hpl := hg.parlt i hi
    by_cases hr : (g.N i).par = i
    · have hroot := hg.root i hi hr
      have Hroot : Hid (g.rt i = i) := hroot
      rw [hr] at cp
      clear hroot hr h hg
      go_wp2
      go_ret
      exact ⟨ret_int (by rw [← hrt.out, Hroot.out]), rfl⟩
    · have hst := hg.step i hi hr
      have Hst : Hid (_ ∧ _) := hst
      have hne : (((g.N i).par : Int) != (i : Int)) = true := by rw [bne_iff_ne]; omega
      generalize hq : (g.N i).par = q at *
      clear hst h hg hr
      go_wp2
      go_round
      case rel => exact ⟨q, hpl, rfl, Hst.out.1.trans hrt.out⟩
      case measure => simp [intOf]; exact Hst.out.2

set_option maxHeartbeats 400000 in
theorem Count_in (w : World) (base p nb n : Nat) (g : Uf.G) (jv : Value) (js : List (Nat × Nat)) (h : Lies w base p nb n g jv js) (hj : js.length ≤ n) :
    Calls Try.prog 26 #[.pointer (some ⟨p, 0, none⟩)] w fun e w' => e = .returned (.int .i64 ((n : Int) - js.length)) ∧ ∃ m, w' = w.drewN m := by
  have c0 := h.c0
  have c1 := h.c1
  have hn := h.small
  obtain ⟨ja, jc, rfl⟩ := h.jform
  clear h
  go_enter Try.func26, Try.ntmps26
  go_wp2_with fail
  go_quiet (fail)
  go_wp2
  go_ret
  exact ⟨rfl, _, rfl⟩

set_option maxHeartbeats 400000 in
theorem Mark_in (w : World) (base p nb n : Nat) (g : Uf.G) (jv : Value) (js : List (Nat × Nat)) (h : Lies w base p nb n g jv js) :
    Calls Try.prog 36 #[.pointer (some ⟨p, 0, none⟩)] w fun e w' => e = .returned (.int .i64 (js.length : Int)) ∧ w = w' := by
  have c1 := h.c1
  obtain ⟨ja, jc, rfl⟩ := h.jform
  clear h
  go_enter Try.func36, Try.ntmps36
  go_wp2
  go_ret
  exact ⟨rfl, rfl⟩

theorem Lies.drewN {w : World} {base p nb n : Nat} {g : Uf.G} {jv : Value} {js : List (Nat × Nat)} (h : Lies w base p nb n g jv js) {m : Nat} : Lies (w.drewN m) base p nb n g jv js :=
  ⟨h.sets, h.nodes, h.joins, h.ne, h.jp, h.jn, h.bp, h.bn, h.small⟩

set_option maxHeartbeats 400000 in
theorem Least_in (w : World) (base p nb n : Nat) (g : Uf.G) (jv : Value) (js : List (Nat × Nat)) (h : Lies w base p nb n g jv js) (k : Nat) (hg : Uf.Ok n g k) (a : Int) :
    Calls Try.prog 27 #[.pointer (some ⟨p, 0, none⟩), .int .i64 a] w fun e w' => e = .returned (.int .i64 (if inB n a then (g.lo a.toNat : Int) else -1)) ∧ ∃ m, w' = w.drewN m := by
  have c0 := h.c0
  have hn := h.small
  cases hb : inB n a
  · have hb' := inB_false hb
    go_enter Try.func27, Try.ntmps27
    go_wp2_with (go_at_call 75; refine (has_in _ _ _ _ _ _ _ _ h _).mono ?_; rintro e w' ⟨rfl, rfl⟩; rw [hb])
    go_ret
    exact ⟨rfl, 0, rfl⟩
  · obtain ⟨h1, h2⟩ := inB_true hb
    obtain ⟨i, rfl⟩ := Int.eq_ofNat_of_zero_le h1
    have hi : i < n := by omega
    have hlt := hg.rtlt i hi
    have cl := h.lst hlt
    go_enter Try.func27, Try.ntmps27
    go_wp2_with (go_at_call 75; refine (has_in _ _ _ _ _ _ _ _ h _).mono ?_; rintro e w' ⟨rfl, rfl⟩; rw [hb])
    go_quiet ((go_at_call 76; exact Calls.quiet_of_same ((root_in _ _ _ _ _ _ _ _ h.drewN _ hg _ hi).mono fun _ _ x => ⟨x.1, x.2.symm⟩)))
    go_wp2
    go_ret
    exact ⟨rfl, _, rfl⟩

/-- Are two numbers in one class? -/
def sameB (n : Nat) (g : Uf.G) (a b : Int) : Bool := inB n a && inB n b && decide (g.rt a.toNat = g.rt b.toNat)

set_option maxHeartbeats 400000 in
theorem Same_in (w : World) (base p nb n : Nat) (g : Uf.G) (jv : Value) (js : List (Nat × Nat)) (h : Lies w base p nb n g jv js) (k : Nat) (hg : Uf.Ok n g k) (a b : Int) :
    Calls Try.prog 34 #[.pointer (some ⟨p, 0, none⟩), .int .i64 a, .int .i64 b] w fun e w' => e = .returned (.bool (sameB n g a b)) ∧ ∃ m, w' = w.drewN m := by
  cases ha : inB n a
  · have fin : sameB n g a b = false := by simp [sameB, ha]
    rw [fin]
    clear fin
    go_enter Try.func34, Try.ntmps34
    go_wp2_with fail
    refine (has_in _ _ _ _ _ _ _ _ h a).mono ?_
    rintro e w' ⟨rfl, rfl⟩
    rw [ha]
    go_wp2
    go_ret
    exact ⟨rfl, 0, rfl⟩
  · cases hb : inB n b
    · have fin : sameB n g a b = false := by simp [sameB, hb]
      rw [fin]
      clear fin
      go_enter Try.func34, Try.ntmps34
      go_wp2_with fail
      refine (has_in _ _ _ _ _ _ _ _ h a).mono ?_
      rintro e w' ⟨rfl, rfl⟩
      rw [ha]
      go_wp2_with fail
      refine (has_in _ _ _ _ _ _ _ _ h b).mono ?_
      rintro e w' ⟨rfl, rfl⟩
      rw [hb]
      go_wp2
      go_ret
      exact ⟨rfl, 0, rfl⟩
    · obtain ⟨a1, a2⟩ := inB_true ha
      obtain ⟨b1, b2⟩ := inB_true hb
      obtain ⟨i, rfl⟩ := Int.eq_ofNat_of_zero_le a1
      obtain ⟨j, rfl⟩ := Int.eq_ofNat_of_zero_le b1
      have hi : i < n := by omega
      have hj : j < n := by omega
      have fin : sameB n g i j = ((g.rt i : Int) == (g.rt j : Int)) := by
        simp only [sameB, ha, hb, Bool.true_and, Int.toNat_natCast]
        by_cases e : g.rt i = g.rt j
        · simp [e]
        · rw [decide_eq_false e]; exact (beq_eq_false_iff_ne.2 (by omega)).symm
      rw [fin]
      clear fin
      go_enter Try.func34, Try.ntmps34
      go_wp2_with fail
      refine (has_in _ _ _ _ _ _ _ _ h i).mono ?_
      rintro e w' ⟨rfl, rfl⟩
      rw [ha]
      go_wp2_with fail
      refine (has_in _ _ _ _ _ _ _ _ h j).mono ?_
      rintro e w' ⟨rfl, rfl⟩
      rw [hb]
      go_wp2_with fail
      refine (root_in _ _ _ _ _ _ _ _ h _ hg i hi).mono ?_
      rintro e w' ⟨rfl, rfl⟩
      go_wp2_with fail
      refine (root_in _ _ _ _ _ _ _ _ h _ hg j hj).mono ?_
      rintro e w' ⟨rfl, rfl⟩
      go_wp2
      go_ret
      exact ⟨rfl, 0, rfl⟩

end Go.Proofs.Ytjfekcjhflcnaaa
