/- The document's lists of terms: clashes, put. -/
import Derived.Test.YtjfekcjhflcnaaaRefC
import Derived.Deep.RegionWith
namespace Go.Proofs.Ytjfekcjhflcnaaa
open Go.RowKit

def clashP (t u : Tm) : Bool := decide (u.name = t.name) && decide (u.args.length ≠ t.args.length)
def clashB (l : List Tm) (t : Tm) : Bool := l.any (clashP t)

theorem any_take {l : List Tm} {p : Tm → Bool} {k : Nat} (hk : k < l.length) (h : (l.take k).any p = false) (hp : p l[k] = false) : (l.take (k + 1)).any p = false := by
  rw [List.take_add_one, List.getElem?_eq_getElem hk]
  simp only [Option.toList_some, List.any_append, h, List.any_cons, hp, List.any_nil, Bool.or_false]

set_option maxHeartbeats 1000000 in
theorem clashes_in (w : World) (base : Nat) (av : Value) (l : List Tm) (vs : List Value) (h : Ls w base av l vs) (hl : l.length ≤ 1000) (t : Tm) (v : Value) (hv : ArgsAt1 w base t.args v) (_ht4 : t.args.length ≤ 5) (hu4 : ∀ u ∈ l, u.args.length ≤ 4) :
    Calls Try.prog 115 #[av, .agg #[.string t.name, v]] w fun e w' => e = .returned (.bool (clashB l t)) ∧ Kept0 w w' := by
  obtain ⟨ta, tc, rfl⟩ := row_form hv
  obtain ⟨aa, ac, rfl⟩ := h.form
  have K1 : Kept0 w (w.alloc (.cells #[.string t.name, .slice ta t.args.length tc] 114)) := Kept.alloc (Kept.refl _ w) _
  have R1 := made_row w #[.string t.name, .slice ta t.args.length tc] 114
  generalize hw1 : w.alloc (.cells #[.string t.name, .slice ta t.args.length tc] 114) = w1 at *
  have L1 := h.kept0 K1
  have a0 : w1.cell? ⟨w.heap.size, 0, none⟩ = some (.string t.name) := World.rowIs.cell R1 (i := 0) (by simp)
  have a1 : w1.cell? ⟨w.heap.size, 1, none⟩ = some (.slice ta t.args.length tc) := World.rowIs.cell R1 (i := 1) (by simp)
  go_enter Try.func115, Try.ntmps115
  go_wp2_with fail
  go_loopw [5] (fun t5 W => ∃ k : Nat, k ≤ l.length ∧ t5 = .int .i64 (k : Int) ∧ Hid ((l.take k).any (clashP t) = false) ∧ ∃ m, W = w1.drewN m) (fun t5 _ => l.length - (intOf t5).toNat)
  case atStart => exact ⟨0, by omega, rfl, by simp [Hid], 0, rfl⟩
  case round =>
    obtain ⟨k, hk, rfl, htk, m, rfl⟩ := hrel
    by_cases hk2 : k < l.length
    · have dk : decide ((k : Int) < (l.length : Int)) = true := decide_eq_true (by omega)
      have hu : l[k]? = some l[k] := List.getElem?_eq_getElem hk2
      have hu4' := hu4 _ (List.getElem_mem hk2)
      generalize hgu : l[k] = u at hu hu4'
      obtain ⟨g, cap, vu, hg, _, g0, g1, hvu⟩ := L1.at hu
      injection hg with e1 _ e3
      subst e1 e3
      obtain ⟨ua, uc, rfl⟩ := row_form hvu
      by_cases hn : u.name = t.name
      · have dn : (u.name.toList == t.name.toList) = true := by rw [hn]; simp
        by_cases hq : u.args.length = t.args.length
        · have dq : ((u.args.length : Int) != (t.args.length : Int)) = false := by simp [hq]
          have hc : Hid ((l.take (k + 1)).any (clashP t) = false) := any_take hk2 htk.out (by rw [hgu]; simp [clashP, hq])
          clear hn hq
          go_wp2_with fail
          go_quiet (fail)
          go_wp2_with fail
          go_roundw
          case rel => exact ⟨k + 1, by omega, by go_num, hc, _, rfl⟩
          case measure => simp [intOf]; omega
        · have dq : ((u.args.length : Int) != (t.args.length : Int)) = true := by simp; omega
          have hB : clashB l t = true := List.any_eq_true.2 ⟨u, List.mem_of_getElem? hu, by simp [clashP, hn, hq]⟩
          clear hn hq
          go_wp2_with fail
          go_quiet (fail)
          go_wp2_with fail
          go_ret
          exact ⟨ret_bool hB.symm, Kept.drewN (Kept.drewN K1 _) _⟩
      · have dn : (u.name.toList == t.name.toList) = false := beq_eq_false_iff_ne.2 (fun e => hn (toList_name e))
        have hc : Hid ((l.take (k + 1)).any (clashP t) = false) := any_take hk2 htk.out (by rw [hgu]; simp [clashP, hn])
        clear hn
        go_wp2_with fail
        go_quiet (fail)
        go_wp2_with fail
        go_roundw
        case rel => exact ⟨k + 1, by omega, by go_num, hc, _, rfl⟩
        case measure => simp [intOf]; omega
    · have dk : decide ((k : Int) < (l.length : Int)) = false := decide_eq_false (by omega)
      have hB : clashB l t = false := by
        have := htk.out
        rw [show k = l.length from by omega, List.take_length] at this
        exact this
      go_wp2_with fail
      go_ret
      exact ⟨ret_bool hB.symm, Kept.drewN K1 _⟩
