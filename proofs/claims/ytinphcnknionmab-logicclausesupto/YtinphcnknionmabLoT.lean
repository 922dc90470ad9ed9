/- Package logic: Eval's functions. -/
import Derived.Test.YtinphcnknionmabP22
import Derived.Laws.Bits64
namespace Go.Proofs.Ytinphcnknionmab
open Go.RowKit Go.Shelf

/-- Classes, and how many there are, in two boxes. -/
structure Cls (W : World) (bb cb : Nat) (ca : Option Addr) (cn cc : Nat) (cls : List Int) : Prop where
  bnd : W.rowIs bb 50 1 (fun _ => .int .u64 (cn : Int))
  cbx : W.rowIs cb 27 1 (fun _ => .slice ca cn cc)
  len : cls.length = cn
  cells : cls = [] ∨ ∃ g off, ca = some ⟨g, off, none⟩ ∧ ∀ (j : Nat) (c : Int), cls[j]? = some c → W.cell? ⟨g, off + j, none⟩ = some (.int .i64 c)
  small : cn ≤ 9223372036854775807

theorem u_in {n : Nat} {a : Int} (hn : n ≤ 9223372036854775807) (ha : R64 a) : decide (IntKind.u64.wrap a < (n : Int)) = inC n a := by
  unfold inC
  obtain ⟨h1, h2⟩ := ha
  rw [IntKind.wrap_u64, decide_eq_decide]
  omega

set_option maxRecDepth 100000 in
set_option maxHeartbeats 2000000 in
theorem same_in (w : World) (bb cb : Nat) (ca : Option Addr) (cn cc : Nat) (cls : List Int) (h : Cls w bb cb ca cn cc cls) (a b : Int) (ha : R64 a) (hb : R64 b) :
    Calls Try.prog 18 #[.agg #[.int .i64 a, .int .i64 b], .pointer (some ⟨bb, 0, none⟩), .pointer (some ⟨cb, 0, none⟩)] w fun e w' => e = .returned (.bool (sameC cls a b)) ∧ Kept0 w w' := by
  have c0 := h.bnd.cell (i := 0) (by omega)
  have c1 := h.cbx.cell (i := 0) (by omega)
  have z0 := h.bnd.lt
  have z1 := h.cbx.lt
  have ua := u_in h.small ha
  have ub := u_in h.small hb
  have hl := h.len
  have K1 : ∀ m, Kept0 w ((w.alloc (.cells #[.int .i64 a, .int .i64 b] 28)).drewN m) := fun m => ((Kept.refl _ w).alloc _).drewN m
  have HS : Hid (sameC cls a b = (inC cn a && inC cn b && (cls[a.toNat]?.getD 0 == cls[b.toNat]?.getD 0))) := by show _ = _; rw [← hl]; rfl
  go_enter Try.func18, Try.ntmps18
  cases hia : inC cn a with
  | false =>
    rw [hia] at ua HS
    go_wp2_with fail
    go_quiet (fail)
    go_wp2_with fail
    go_ret
    exact ⟨ret_bool (by rw [HS.out]; rfl), K1 _⟩
  | true =>
    rw [hia] at ua HS
    cases hib : inC cn b with
    | false =>
      rw [hib] at ub HS
      go_wp2_with fail
      go_quiet (fail)
      go_wp2_with fail
      go_ret
      exact ⟨ret_bool (by rw [HS.out]; rfl), K1 _⟩
    | true =>
      rw [hib] at ub HS
      have ia := of_decide_eq_true hia
      have ib := of_decide_eq_true hib
      obtain ⟨i, rfl⟩ : ∃ i : Nat, a = (i : Int) := ⟨a.toNat, by omega⟩
      obtain ⟨j, rfl⟩ : ∃ j : Nat, b = (j : Int) := ⟨b.toNat, by omega⟩
      have hi : i < cls.length := by omega
      have hj : j < cls.length := by omega
      rcases h.cells with hc | ⟨g, off, rfl, hc⟩
      · rw [hc] at hi; simp at hi
      · have e1 := hc i _ (List.getElem?_eq_getElem hi)
        have e2 := hc j _ (List.getElem?_eq_getElem hj)
        have zg : g < w.heap.size := World.block_lt_of_cell? w _ e1
        have hi2 : (i : Int) < (cn : Int) := ia.2
        have hj2 : (j : Int) < (cn : Int) := ib.2
        have HS2 : Hid (sameC cls i j = (cls[i] == cls[j])) := by
          show _ = _
          rw [HS.out]
          simp [hi, hj]
        clear HS hc hia hib ha hb ia ib
        generalize cls[i] = ci at *
        generalize cls[j] = cj at *
        go_wp2_with fail
        go_quiet (fail)
        go_wp2_with fail
        go_ret
        exact ⟨ret_bool (by rw [HS2.out]), K1 _⟩

end Go.Proofs.Ytinphcnknionmab
