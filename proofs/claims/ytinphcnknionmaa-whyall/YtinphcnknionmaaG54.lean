/- Package why: turn. slices.Reverse of a row of numbers. Package why: Why, what it keeps to. Package why: Follows and Why. law04: Given. -/
import Derived.Test.YtinphcnknionmaaG53
import Derived.Deep.RegionLaw
import Derived.Deep.RegionWith
namespace Go.Proofs.Ytinphcnknionmaa
open Go.RowKit Go.Maps

/-- What turn has come to: j of the numbers are told. -/
structure Tn (w W : World) (base : Nat) (l : List Tm) (ps : List (Int × Int)) (rest : List Nat) (c : Ks) (P : List (Nat × Nat)) (c' : Ks) (j : Nat) : Prop where
  cq : Cq W base l c' (P ++ Wm.prs l.length ps (rest.take j))
  kept : Kept c.All w W
  pc : c'.pc = c.pc
  all : ∀ k, c'.All k → c.All k ∨ w.heap.size ≤ k

theorem Tn.kept0 {w W W' : World} {base : Nat} {l : List Tm} {ps : List (Int × Int)} {rest : List Nat} {c : Ks} {P : List (Nat × Nat)} {c' : Ks} {j : Nat} (h : Tn w W base l ps rest c P c' j) (K : Kept0 W W') : Tn w W' base l ps rest c P c' j :=
  ⟨h.cq.kept0 K, h.kept.into K (fun _ e => e.elim), h.pc, h.all⟩

theorem prs_take_len (N : Nat) (ps : List (Int × Int)) (rest : List Nat) (j : Nat) : (Wm.prs N ps (rest.take j)).length ≤ rest.length := by
  have h1 := Wm.prs_len N ps (rest.take j)
  have h2 : (rest.take j).length ≤ rest.length := by rw [List.length_take]; exact Nat.min_le_right _ _
  omega

theorem okP_some {N : Nat} {p : Int × Int} {q : Nat × Nat} (h : Wm.okP N p = some q) : (inB N p.1 && inB N p.2) = true ∧ q = (p.1.toNat, p.2.toNat) := by
  unfold Wm.okP at h
  cases hi : inB N p.1 && inB N p.2
  · rw [hi] at h; simp at h
  · rw [hi] at h; simp at h; exact ⟨rfl, h.symm⟩

theorem Tn.tell {w W : World} {base : Nat} {l : List Tm} {ps : List (Int × Int)} {rest : List Nat} {c : Ks} {P : List (Nat × Nat)} {c' : Ks} {j : Nat} (h : Tn w W base l ps rest c P c' j) {n : Nat} (hn : rest[j]? = some n) {p : Int × Int} (hp : ps[n]? = some p) (hin : (inB l.length p.1 && inB l.length p.2) = true) (hb : (P.length + rest.length + 1) * 8 ≤ 140737488355328) :
    Calls Try.prog 39 #[.pointer (some ⟨c.pc, 0, none⟩), .int .i64 p.1, .int .i64 p.2] W fun e W' => (∃ x, e = .returned (.int .i64 x)) ∧ ∃ c2 : Ks, Tn w W' base l ps rest c P c2 (j + 1) := by
  have hq : (ps[n]?).bind (Wm.okP l.length) = some (p.1.toNat, p.2.toNat) := by rw [hp]; simp [Wm.okP, hin]
  have hl := prs_take_len l.length ps rest j
  have M := qMerge_in W base l c' _ h.cq p.1 p.2 (by rw [List.length_append]; omega)
  rw [h.pc] at M
  refine M.mono ?_
  rintro e W' ⟨rfl, c2, C2, K, hpc, hA⟩
  refine ⟨⟨_, rfl⟩, c2, ?_, h.kept.into K (fun k hk => h.all k hk.all), hpc, fun k hk => ?_⟩
  · rw [List.take_add_one, hn, Option.toList_some, Wm.prs_snoc hq, ← List.append_assoc]
    rw [mergeP, hin, if_pos rfl] at C2
    exact C2
  · rcases hA k hk with e | e
    · exact h.all k e
    · exact .inr (Nat.le_trans h.kept.size e)

theorem Tn.back {w W : World} {base : Nat} {l : List Tm} {ps : List (Int × Int)} {rest : List Nat} {c : Ks} {P : List (Nat × Nat)} {c' : Ks} {j : Nat} (h : Tn w W base l ps rest c P c' j) :
    Calls Try.prog 42 #[.pointer (some ⟨c.pc, 0, none⟩), .int .i64 (P.length : Int)] W fun e W' => (∃ x, e = .returned (.bool x)) ∧ ∃ c2 : Ks, Cq W' base l c2 P ∧ Kept c.All w W' ∧ c2.pc = c.pc ∧ (∀ k, c2.All k → c.All k ∨ w.heap.size ≤ k) := by
  have M := qUndo_in W base l c' _ h.cq (P.length : Int)
  rw [h.pc] at M
  refine M.mono ?_
  rintro e W' ⟨rfl, c2, C2, K, hpc, hA⟩
  refine ⟨⟨_, rfl⟩, c2, ?_, h.kept.into K (fun k hk => h.all k hk.all), hpc, fun k hk => h.all k (hA k hk)⟩
  have e : undoP (P ++ Wm.prs l.length ps (rest.take j)) (P.length : Int) = P := by
    rw [undoP, if_pos (by simp [undoB]; omega)]
    simp
  rw [e] at C2
  exact C2

set_option maxHeartbeats 4000000 in
set_option maxRecDepth 100000 in
theorem turn_in (w : World) (base : Nat) (l : List Tm) (c : Ks) (P : List (Nat × Nat)) (h : Cq w base l c P) (a : Option Addr) (cp : Nat) (ps : List (Int × Int)) (g cap : Nat) (rest : List Nat)
    (hM : ∀ W, Kept c.All w W → Prw W a ps ∧ ∀ (j n : Nat), rest[j]? = some n → W.cell? ⟨g, j, none⟩ = some (.int .i64 (n : Int)))
    (hok : ∀ n, n ∈ rest → ∃ q, (ps[n]?).bind (Wm.okP l.length) = some q)
    (x y : Int) (i : Nat) (hi : i < rest.length) (hy : cgB l (P ++ Wm.prs l.length ps (rest.take (i + 1))) x y = true) (hno : ∀ j, j ≤ i → cgB l (P ++ Wm.prs l.length ps (rest.take j)) x y = false)
    (hn : (P.length + rest.length + 1) * 8 ≤ 140737488355328) :
    Calls Try.prog 94 #[.pointer (some ⟨c.pc, 0, none⟩), .slice a ps.length cp, .slice (some ⟨g, 0, none⟩) rest.length cap, .int .i64 x, .int .i64 y] w fun e w' => e = .returned (.int .i64 (i : Int)) ∧
      ∃ c' : Ks, Cq w' base l c' P ∧ Kept c.All w w' ∧ c'.pc = c.pc ∧ (∀ k, c'.All k → c.All k ∨ w.heap.size ≤ k) := by
  have MK := kMark_in w base l c P h.cl
  have T0 : Tn w w base l ps rest c P c 0 := ⟨by simpa [Wm.prs] using h, Kept.refl _ _, rfl, fun k hk => .inl hk⟩
  have HM : Hid _ := hM
  have HNO : Hid _ := hno
  have HOK : Hid _ := hok
  have HN : Hid ((P.length + rest.length + 1) * 8 ≤ 140737488355328) := hn
  have HY : Hid (cgB l (P ++ Wm.prs l.length ps (rest.take (i + 1))) x y = true) := hy
  clear hM hno hok hn hy
  clear h
  go_enter Try.func94, Try.ntmps94
  go_wp2_with (go_at_call 46; refine MK.mono ?_; rintro e w2 ⟨rfl, rfl⟩)
  clear MK
  go_loopw [12] (fun t12 W => ∃ (j : Nat) (c' : Ks), j ≤ i + 1 ∧ t12 = .int .i64 ((j : Int) - 1) ∧ Tn w W base l ps rest c P c' j) (fun t12 _ => (i - intOf t12).toNat)
  case atStart => exact ⟨0, c, Nat.zero_le _, rfl, T0⟩
  case round =>
    clear T0
    obtain ⟨j, c', hj, rfl, T⟩ := hrel
    have SM : Calls Try.prog 47 #[.pointer (some ⟨c.pc, 0, none⟩), .int .i64 x, .int .i64 y] wr fun e w' => e = .returned (.bool (cgB l (P ++ Wm.prs l.length ps (rest.take j)) x y)) ∧ Kept0 wr w' := by
      rw [← T.pc]
      exact qSame_k wr base l c' _ T.cq.cl x y
    by_cases hj2 : j ≤ i
    · rw [HNO.out j hj2] at SM
      have hx : rest[j]? = some rest[j] := List.getElem?_eq_getElem (by omega)
      have hjl : j < rest.length := by omega
      generalize hrj : rest[j] = n at hx
      clear hrj
      obtain ⟨q, hq⟩ := HOK.out n (List.mem_of_getElem? hx)
      obtain ⟨p, hp, hpo⟩ := Option.bind_eq_some_iff.1 hq
      obtain ⟨hin, _⟩ := okP_some hpo
      have hnl : n < ps.length := (List.getElem?_eq_some_iff.1 hp).1
      have CN : Hid (∀ W, Kept0 wr W → W.cell? ⟨g, j, none⟩ = some (.int .i64 (n : Int))) := fun W K => (HM.out W (T.kept0 K).kept).2 j n hx
      obtain ⟨b, off, rfl, hbl, _, _⟩ := (HM.out wr T.kept).1 n p hp
      have Y : Hid (∀ W, Kept0 wr W → W.cell? ⟨b, off + n * 2, none⟩ = some (.int .i64 p.1) ∧ W.cell? ⟨b, off + n * 2 + 1, none⟩ = some (.int .i64 p.2)) := fun W K => by
        obtain ⟨b', off', he, _, y1, y2⟩ := (HM.out W (T.kept0 K).kept).1 n p hp
        cases he
        exact ⟨y1, y2⟩
      have TM : Hid (∀ W, Kept0 wr W → Calls Try.prog 39 #[.pointer (some ⟨c.pc, 0, none⟩), .int .i64 p.1, .int .i64 p.2] W fun e W' => (∃ x, e = .returned (.int .i64 x)) ∧ ∃ c2 : Ks, Tn w W' base l ps rest c P c2 (j + 1)) := fun W K => (T.kept0 K).tell hx hp hin HN.out
      have hjb : rest.length ≤ 17592186044416 := by have := HN.out; omega
      clear hx hq hp hpo hin T
      generalize p.1 = pa at *
      generalize p.2 = pb at *
      go_wp2_with (first | (go_at_call 47; refine SM.mono ?_; rintro e w3 ⟨rfl, K3⟩; have cn := CN.out w3 K3; obtain ⟨y1, y2⟩ := Y.out w3 K3; have TM1 := TM.out (w3.alloc (.cells #[.int .i64 pa, .int .i64 pb] 86)) (K3.alloc _); clear SM) | (go_at_call 39; refine TM1.mono ?_; rintro e w4 ⟨⟨x4, rfl⟩, c4, T4⟩))
      exact ⟨⟨j + 1, c4, by omega, by simp, T4⟩, by simp [intOf]; omega⟩
    · obtain rfl : j = i + 1 := by omega
      rw [HY.out] at SM
      have BK : Hid (∀ W, Kept0 wr W → Calls Try.prog 42 #[.pointer (some ⟨c.pc, 0, none⟩), .int .i64 (P.length : Int)] W fun e W' => (∃ x, e = .returned (.bool x)) ∧ ∃ c2 : Ks, Cq W' base l c2 P ∧ Kept c.All w W' ∧ c2.pc = c.pc ∧ (∀ k, c2.All k → c.All k ∨ w.heap.size ≤ k)) := fun W K => (T.kept0 K).back
      have e0 : (((i + 1 : Nat) : Int) - 1) = (i : Int) := by omega
      rw [e0]
      clear T
      go_wp2_with (first | (go_at_call 47; refine SM.mono ?_; rintro e w3 ⟨rfl, K3⟩; have BK1 := BK.out w3 K3) | (go_at_call 42; refine BK1.mono ?_; rintro e w4 ⟨⟨x4, rfl⟩, c4, C4, K4, p4, A4⟩))
      go_ret
      exact ⟨rfl, c4, C4, K4, p4, A4⟩

end Go.Proofs.Ytinphcnknionmaa

namespace Go.Proofs.Ytinphcnknionmaa
open Go.RowKit Go.Maps

theorem ownsRow_put {W : World} {base : Nat} {e : TypeId} {g cap m : Nat} {ys : List Value} (h : W.ownsRow base e 1 (.slice (some ⟨g, 0, none⟩) m cap) m ys) {o : Nat} (v : Value) : (W.setCell ⟨g, o, none⟩ v).ownsRow base e 1 (.slice (some ⟨g, 0, none⟩) m cap) m (ys.set o v) := by
  refine ⟨by rw [List.length_set]; exact h.1, ?_⟩
  rcases h.2 with ⟨e', _⟩ | ⟨g', c, cur, e', h1, h2, h3, h4, h5, h6⟩
  · cases e'
  · simp only [Value.slice.injEq, Option.some.injEq, Addr.mk.injEq, and_true, true_and] at e'
    obtain ⟨rfl, rfl⟩ := e'
    refine .inr ⟨g, cap, cur.setIfInBounds o v, rfl, h1, ?_, h3, h4, by simpa using h5, ?_⟩
    · simp [World.setCell, Array.getElem?_modify, h2]
    · rw [← h6, Array.toList_setIfInBounds, List.take_set]

/-- Reversed from both ends on. -/
def revTo (xs : List Nat) (i : Nat) : List Nat := (List.range xs.length).map fun k => if k < i ∨ xs.length ≤ k + i then xs[xs.length - 1 - k]?.getD 0 else xs[k]?.getD 0
theorem revTo_len (xs : List Nat) (i : Nat) : (revTo xs i).length = xs.length := by simp [revTo]
theorem revTo_get (xs : List Nat) (i k : Nat) (hk : k < xs.length) : (revTo xs i)[k]? = some (if k < i ∨ xs.length ≤ k + i then xs[xs.length - 1 - k]?.getD 0 else xs[k]?.getD 0) := by
  simp [revTo, hk]
theorem revTo_zero (xs : List Nat) : revTo xs 0 = xs := by
  apply List.ext_getElem?
  intro k
  by_cases hk : k < xs.length
  · rw [revTo_get xs 0 k hk, if_neg (by omega), List.getElem?_eq_getElem hk]
    rfl
  · rw [List.getElem?_eq_none (by rw [revTo_len]; omega), List.getElem?_eq_none (by omega)]
theorem revTo_all (xs : List Nat) (i : Nat) (h : xs.length ≤ 2 * i + 1) : revTo xs i = xs.reverse := by
  apply List.ext_getElem?
  intro k
  by_cases hk : k < xs.length
  · rw [revTo_get xs i k hk, List.getElem?_reverse hk]
    by_cases e : k < i ∨ xs.length ≤ k + i
    · rw [if_pos e, List.getElem?_eq_getElem (by omega)]
      rfl
    · rw [if_neg e, show xs.length - 1 - k = k by omega, List.getElem?_eq_getElem hk]
      rfl
  · rw [List.getElem?_eq_none (by rw [revTo_len]; omega), List.getElem?_eq_none (by rw [List.length_reverse]; omega)]
theorem revTo_succ (xs : List Nat) (i : Nat) (h : 2 * i + 1 < xs.length) : revTo xs (i + 1) = ((revTo xs i).set i (xs[xs.length - 1 - i]?.getD 0)).set (xs.length - 1 - i) (xs[i]?.getD 0) := by
  apply List.ext_getElem?
  intro k
  by_cases hk : k < xs.length
  · rw [revTo_get xs (i + 1) k hk]
    by_cases e1 : k = xs.length - 1 - i
    · have hc : k < i + 1 ∨ xs.length ≤ k + (i + 1) := by omega
      have hl : xs.length - 1 - i < ((revTo xs i).set i (xs[xs.length - 1 - i]?.getD 0)).length := by rw [List.length_set, revTo_len]; omega
      rw [if_pos hc, List.getElem?_set, if_pos e1.symm, if_pos hl, e1, show xs.length - 1 - (xs.length - 1 - i) = i by omega]
    · rw [List.getElem?_set_ne (Ne.symm e1)]
      by_cases e2 : k = i
      · subst e2
        have hc : k < k + 1 ∨ xs.length ≤ k + (k + 1) := by omega
        have hl : k < (revTo xs k).length := by rw [revTo_len]; omega
        rw [if_pos hc, List.getElem?_set, if_pos rfl, if_pos hl]
      · rw [List.getElem?_set_ne (Ne.symm e2), revTo_get xs i k hk]
        congr 1
        by_cases e3 : k < i ∨ xs.length ≤ k + i
        · rw [if_pos e3, if_pos (by omega)]
        · rw [if_neg e3, if_neg (by omega)]
  · rw [List.getElem?_eq_none (by rw [revTo_len]; omega), List.getElem?_eq_none (by rw [List.length_set, List.length_set, revTo_len]; omega)]
theorem natC_set (xs : List Nat) (i x : Nat) : natC (xs.set i x) = (natC xs).set i (.int .i64 (x : Int)) := by simp [natC, List.map_set]

set_option maxHeartbeats 2000000 in
set_option maxRecDepth 100000 in
theorem reverse_in (w : World) (base : Nat) (v : Value) (xs : List Nat) (h : w.ownsRow base 3 1 v xs.length (natC xs)) (hn : xs.length ≤ 17592186044416) :
    Calls Try.prog 95 #[v] w fun e w' => e = .returned (.tuple #[]) ∧ w'.ownsRow base 3 1 v xs.length (natC xs.reverse) ∧ Kept (fun k => v.ownBlock = some k) w w' := by
  obtain ⟨va, vc, hv⟩ := row_form' h
  subst hv
  have h0 : w.ownsRow base 3 1 (.slice va xs.length vc) xs.length (natC (revTo xs 0)) := by rw [revTo_zero]; exact h
  clear h
  go_enter Try.func95, Try.ntmps95
  go_wp2_with fail
  go_loopw [2, 3] (fun t2 t3 W => ∃ i : Nat, 2 * i ≤ xs.length + 1 ∧ t2 = .int .i64 (i : Int) ∧ t3 = .int .i64 ((xs.length : Int) - 1 - i) ∧ W.ownsRow base 3 1 (.slice va xs.length vc) xs.length (natC (revTo xs i)) ∧ Kept (fun k => (Value.slice va xs.length vc).ownBlock = some k) w W) (fun t2 _ _ => xs.length - (intOf t2).toNat)
  case atStart => exact ⟨0, by omega, rfl, by simp, h0, Kept.refl _ _⟩
  case round =>
    clear h0
    obtain ⟨i, hi, rfl, rfl, R, K⟩ := hrel
    by_cases hi2 : 2 * i + 1 < xs.length
    · have di : decide ((i : Int) < (xs.length : Int) - 1 - i) = true := decide_eq_true (by omega)
      have hg : ∃ g, va = some ⟨g, 0, none⟩ := by
        rcases R.2 with ⟨_, e2⟩ | ⟨g, c, cur, e', _⟩
        · omega
        · simp only [Value.slice.injEq] at e'
          exact ⟨g, e'.1⟩
      obtain ⟨g, rfl⟩ := hg
      obtain ⟨j, hj⟩ : ∃ j, j = xs.length - 1 - i := ⟨_, rfl⟩
      have ej : ((xs.length : Int) - 1 - i) = (j : Int) := by omega
      rw [ej] at di ⊢
      have c1 : wr.cell? ⟨g, i, none⟩ = some (.int .i64 ((xs[i]?.getD 0 : Nat) : Int)) := by
        have := R.cellAt i (by omega)
        rw [natC_get, revTo_get xs i i (by omega), if_neg (by omega)] at this
        exact this
      have c2 : wr.cell? ⟨g, j, none⟩ = some (.int .i64 ((xs[j]?.getD 0 : Nat) : Int)) := by
        have := R.cellAt j (by omega)
        rw [natC_get, revTo_get xs i j (by omega), if_neg (by omega)] at this
        exact this
      have f1 := R.frozenAt i
      have f2 := R.frozenAt j
      have hne : i ≠ j := by omega
      have FIN : Hid (((wr.setCell ⟨g, i, none⟩ (.int .i64 ((xs[j]?.getD 0 : Nat) : Int))).setCell ⟨g, j, none⟩ (.int .i64 ((xs[i]?.getD 0 : Nat) : Int))).ownsRow base 3 1 (.slice (some ⟨g, 0, none⟩) xs.length vc) xs.length (natC (revTo xs (i + 1))) ∧ Kept (fun k => (Value.slice (some ⟨g, 0, none⟩) xs.length vc).ownBlock = some k) w ((wr.setCell ⟨g, i, none⟩ (.int .i64 ((xs[j]?.getD 0 : Nat) : Int))).setCell ⟨g, j, none⟩ (.int .i64 ((xs[i]?.getD 0 : Nat) : Int)))) := by
        refine ⟨?_, Kept.setCell (p := ⟨g, j, none⟩) (Kept.setCell (p := ⟨g, i, none⟩) K (by simp [Value.ownBlock]) _) (by simp [Value.ownBlock]) _⟩
        rw [revTo_succ xs i hi2, natC_set, natC_set, ← hj]
        exact ownsRow_put (ownsRow_put R _) _
      have HJ : Hid (j = xs.length - 1 - i) := hj
      have hjl : j < xs.length := by omega
      have hil : i < xs.length := by omega
      have hij : i < j := by omega
      clear R K hj ej
      generalize xs[i]?.getD 0 = x1 at *
      generalize xs[j]?.getD 0 = x2 at *
      go_wp2_with fail
      go_region
      all_goals
        go_wp2_with fail
        refine ⟨⟨i + 1, by omega, by simp, ?_, ownsRow_block FIN.out.1 (fun _ _ => rfl), FIN.out.2.drew⟩, by simp [intOf]; omega⟩
        have := HJ.out
        congr 1
        omega
    · have di : decide ((i : Int) < (xs.length : Int) - 1 - i) = false := decide_eq_false (by omega)
      go_wp2_with fail
      go_end0
      have e := revTo_all xs i (by omega)
      rw [e] at R
      exact ⟨rfl, R, K⟩

end Go.Proofs.Ytinphcnknionmaa

namespace Go.Proofs.Ytinphcnknionmaa
open Go.RowKit Go.Maps

def slLen : Value → Nat
  | .slice _ n _ => n
  | _ => 0

/-- A closure, and two rows of numbers apart from it. -/
structure Yz (w W : World) (l : List Tm) (c : Ks) (P : List (Nat × Nat)) (needed rest : List Nat) (nv rv : Value) : Prop where
  cq : Cq W w.heap.size l c P
  nrow : W.ownsRow w.heap.size 3 1 nv needed.length (natC needed)
  rrow : W.ownsRow w.heap.size 3 1 rv rest.length (natC rest)
  farN : ∀ j, nv.ownBlock = some j → ¬ c.All j
  farR : ∀ j, rv.ownBlock = some j → ¬ c.All j
  apart : ∀ j, nv.ownBlock = some j → rv.ownBlock ≠ some j
  bel : Kept0 w W

theorem Yz.moved {w W W' : World} {l : List Tm} {c c' : Ks} {P P' : List (Nat × Nat)} {needed rest : List Nat} {nv rv : Value} (h : Yz w W l c P needed rest nv rv) (K : Kept c.All W W') (hc : Cq W' w.heap.size l c' P') (hA : ∀ k, c'.All k → c.All k ∨ W.heap.size ≤ k) : Yz w W' l c' P' needed rest nv rv := by
  refine ⟨hc, ownsRow_block h.nrow (fun j hj => K.block j (h.nrow.lt j hj).2 (h.farN j hj)), ownsRow_block h.rrow (fun j hj => K.block j (h.rrow.lt j hj).2 (h.farR j hj)), fun j hj hA' => ?_, fun j hj hA' => ?_, h.apart, h.bel.into K (fun i hi => .inr (h.cq.cl.all_ge hi))⟩
  · rcases hA j hA' with e | e
    · exact h.farN j hj e
    · have := (h.nrow.lt j hj).2; omega
  · rcases hA j hA' with e | e
    · exact h.farR j hj e
    · have := (h.rrow.lt j hj).2; omega
theorem Yz.kept0 {w W W' : World} {l : List Tm} {c : Ks} {P : List (Nat × Nat)} {needed rest : List Nat} {nv rv : Value} (h : Yz w W l c P needed rest nv rv) (K : Kept0 W W') : Yz w W' l c P needed rest nv rv :=
  h.moved (Kept.mono K (fun _ _ e => e.elim)) (h.cq.kept0 K) (fun _ hk => .inl hk)
theorem Yz.cut {w W : World} {l : List Tm} {c : Ks} {P : List (Nat × Nat)} {needed rest : List Nat} {nv : Value} {g cap : Nat} (h : Yz w W l c P needed rest nv (.slice (some ⟨g, 0, none⟩) rest.length cap)) (i : Nat) (hi : i ≤ rest.length) : Yz w W l c P needed (rest.take i) nv (.slice (some ⟨g, 0, none⟩) i cap) := by
  have hr := ownsRow_cut h.rrow rfl hi
  rw [Nat.mul_one] at hr
  have e : (rest.take i).length = i := by rw [List.length_take]; omega
  refine ⟨h.cq, h.nrow, ?_, h.farN, h.farR, h.apart, h.bel⟩
  rw [e]
  have e2 : natC (rest.take i) = (natC rest).take i := by simp [natC, List.map_take]
  rw [e2]
  exact hr
theorem Yz.note {w W wa w1 : World} {l : List Tm} {c : Ks} {P : List (Nat × Nat)} {needed rest : List Nat} {nv rv v' : Value} {n : Nat} (h : Yz w W l c P needed rest nv rv) (K0 : Kept0 W wa)
    (hown : w1.ownsRow w.heap.size 3 1 v' (needed.length + 1) (natC needed ++ [.int .i64 (n : Int)])) (hgrow : wa.grownBy w1 nv.ownBlock) (hloc : v'.ownBlock = nv.ownBlock ∨ ∀ k, v'.ownBlock = some k → wa.heap.size ≤ k) : Yz w w1 l c P (needed ++ [n]) rest v' rv := by
  have K1 : Kept (fun j => nv.ownBlock = some j) W w1 := Kept.grown (Kept.mono K0 (fun _ _ e => e.elim)) hgrow (fun _ e => e)
  refine ⟨⟨h.cq.cl.keep K1 (fun j hj e => h.farN j e hj), h.cq.past⟩, ?_, ownsRow_block h.rrow (fun j hj => K1.block j (h.rrow.lt j hj).2 (fun e => h.apart j e hj)), fun j hj hA => ?_, h.farR, fun j hj e2 => ?_, h.bel.into K1 (fun i hi => .inr (h.nrow.lt i hi).1)⟩
  · rw [List.length_append, ← natC_app]
    exact hown
  · rcases hloc with e | e
    · exact h.farN j (e ▸ hj) hA
    · have h1 := e j hj
      have h2 := h.cq.cl.all_lt hA
      have h3 := K0.size
      omega
  · rcases hloc with e | e
    · exact h.apart j (e ▸ hj) e2
    · have h1 := e j hj
      have h2 := (h.rrow.lt j e2).2
      have h3 := K0.size
      omega

/-- The pair with the number n is told. -/
theorem Yz.tell {w W : World} {l : List Tm} {ps : List (Int × Int)} {c : Ks} {needed rest : List Nat} {nv rv : Value} (h : Yz w W l c (Wm.prs l.length ps needed) needed rest nv rv) {n : Nat} {p : Int × Int} (hp : ps[n]? = some p) (hin : (inB l.length p.1 && inB l.length p.2) = true) (hb : (needed.length + 1) * 8 ≤ 140737488355328) :
    Calls Try.prog 39 #[.pointer (some ⟨c.pc, 0, none⟩), .int .i64 p.1, .int .i64 p.2] W fun e W' => (∃ x, e = .returned (.int .i64 x)) ∧ ∃ c2 : Ks, c2.pc = c.pc ∧ Yz w W' l c2 (Wm.prs l.length ps (needed ++ [n])) needed rest nv rv := by
  have hq : (ps[n]?).bind (Wm.okP l.length) = some (p.1.toNat, p.2.toNat) := by rw [hp]; simp [Wm.okP, hin]
  have hl := Wm.prs_len l.length ps needed
  refine (qMerge_in W w.heap.size l c _ h.cq p.1 p.2 (by omega)).mono ?_
  rintro e W' ⟨rfl, c2, C2, K, hpc, hA⟩
  refine ⟨⟨_, rfl⟩, c2, hpc, h.moved (Kept.mono K (fun _ _ e => e.all)) ?_ hA⟩
  rw [Wm.prs_snoc hq]
  rw [mergeP, hin, if_pos rfl] at C2
  exact C2

/-- Of which Why answers. -/
structure Fits (l : List Tm) (ps : List (Int × Int)) (x y : Int) (ns : List Nat) : Prop where
  up : ns.Pairwise (· < ·)
  lt : ∀ n, n ∈ ns → n < ps.length
  ok : ∀ n, n ∈ ns → ∃ q, (ps[n]?).bind (Wm.okP l.length) = some q
  fol : cgB l (Wm.prs l.length ps ns) x y = true
  less : ∀ m, m ∈ ns → ∀ xs : List Nat, (∀ k, k ∈ xs → k ∈ ns ∧ k ≠ m) → cgB l (Wm.prs l.length ps xs) x y = false

theorem cgB_fol {l : List Tm} {ps : List (Int × Int)} {x y : Int} (hx : inB l.length x = true) (hy : inB l.length y = true) (ns : List Nat) : cgB l (Wm.prs l.length ps ns) x y = true ↔ Wm.Fol l ps x.toNat y.toNat ns := by
  rw [cgB_iff]
  exact ⟨fun h => h.2.2, fun h => ⟨hx, hy, h⟩⟩
theorem cgB_in {l : List Tm} {P : List (Nat × Nat)} {x y : Int} (h : cgB l P x y = true) : inB l.length x = true ∧ inB l.length y = true := ⟨(cgB_iff.1 h).1, (cgB_iff.1 h).2.1⟩

theorem Fits.of {l : List Tm} {ps : List (Int × Int)} {x y : Int} (hx : inB l.length x = true) (hy : inB l.length y = true) {needed rest : List Nat} (h : Wm.Wy (Wm.Fol l ps x.toNat y.toNat) needed rest) (hok : ∀ n, n ∈ needed → ∃ q, (ps[n]?).bind (Wm.okP l.length) = some q) (hf : cgB l (Wm.prs l.length ps needed) x y = true) : Fits l ps x y needed.reverse := by
  obtain ⟨h1, h2, h3⟩ := h.fin (Wm.fol_mon l ps _ _) ((cgB_fol hx hy _).1 hf)
  have hok' : ∀ n, n ∈ needed.reverse → ∃ q, (ps[n]?).bind (Wm.okP l.length) = some q := fun n hn => hok n (List.mem_reverse.1 hn)
  refine ⟨h1, fun n hn => ?_, hok', (cgB_fol hx hy _).2 h2, fun m hm xs hxs => ?_⟩
  · obtain ⟨q, hq⟩ := hok' n hn
    obtain ⟨p, hp, _⟩ := Option.bind_eq_some_iff.1 hq
    exact (List.getElem?_eq_some_iff.1 hp).1
  · rw [Bool.eq_false_iff]
    exact fun e => h3 m hm xs hxs ((cgB_fol hx hy _).1 e)

/-- By all the pairs, or by those that enough has chosen. -/
theorem enough_all {l : List Tm} {ps : List (Int × Int)} {x y : Int} {k : Nat} {ns : List Nat} (h : Wm.En l ps k ns) (hk : k ≤ ps.length) (hn : cgB l (Wm.prs l.length ps ns) x y = false → k = ps.length) : cgB l (Wm.prs l.length ps ns) x y = cgB l (Wm.prs l.length ps (List.range ps.length)) x y := by
  rw [Bool.eq_iff_iff]
  constructor
  · intro e
    obtain ⟨hx, hy⟩ := cgB_in e
    rw [cgB_fol hx hy] at e ⊢
    exact h.some hk e
  · intro e
    obtain ⟨hx, hy⟩ := cgB_in e
    cases hc : cgB l (Wm.prs l.length ps ns) x y
    · obtain rfl := hn hc
      rw [cgB_fol hx hy] at e
      rw [← hc, cgB_fol hx hy]
      exact (h.fin _ _).2 e
    · rfl

end Go.Proofs.Ytinphcnknionmaa

namespace Go.Proofs.Ytinphcnknionmaa
open Go.RowKit Go.Maps

set_option maxHeartbeats 1000000 in
set_option maxRecDepth 100000 in
theorem follows_in (w : World) (base p : Nat) (ev : Value) (nb fb : Nat) (l : List Tm) (h : Bk w base p ev nb fb l) (hb : Cc.Bd l) (hl : l.length ≤ 150) (a : Option Addr) (cp : Nat) (ps : List (Int × Int)) (hP : Prw w a ps) (hr : ps.length * 16 ≤ 140737488355328) (x y : Int) :
    Calls Try.prog 51 #[.pointer (some ⟨p, 0, none⟩), .slice a ps.length cp, .int .i64 x, .int .i64 y] w fun e w' => e = .returned (.bool (cgB l (Wm.prs l.length ps (List.range ps.length)) x y)) ∧ Kept0 w w' := by
  have EN : Calls Try.prog 93 #[.pointer (some ⟨p, 0, none⟩), .slice a ps.length cp, .int .i64 x, .int .i64 y] w fun e w' => ∃ va n vc, e = .returned (.tuple #[.slice va n vc, .bool (cgB l (Wm.prs l.length ps (List.range ps.length)) x y)]) ∧ Kept0 w w' := by
    refine (enough_in w base p ev nb fb l h hb hl a cp ps hP hr x y).mono ?_
    rintro e w' ⟨ns, v, k, rfl, R, E, hk, hn, K, _⟩
    obtain ⟨va, vc, rfl⟩ := row_form' R
    exact ⟨va, _, vc, by rw [enough_all E hk hn], K⟩
  generalize cgB l (Wm.prs l.length ps (List.range ps.length)) x y = B at *
  clear h hP hr
  go_enter Try.func51, Try.ntmps51
  go_wp2_with (go_at_call 93; refine EN.mono ?_; rintro e w1 ⟨va, n, vc, rfl, K1⟩)
  go_ret
  exact ⟨rfl, K1⟩

/-- What Why answers. -/
def WhyIs (w : World) (l : List Tm) (ps : List (Int × Int)) (x y : Int) (e : Ending) (w' : World) : Prop :=
  Kept0 w w' ∧ ((cgB l (Wm.prs l.length ps (List.range ps.length)) x y = false ∧ e = .returned (.tuple #[.slice none 0 0, .bool false])) ∨
    (cgB l (Wm.prs l.length ps (List.range ps.length)) x y = true ∧ ∃ (ns : List Nat) (v : Value), e = .returned (.tuple #[v, .bool true]) ∧ w'.ownsRow w.heap.size 3 1 v ns.length (natC ns) ∧ Fits l ps x y ns ∧ ns.length ≤ ps.length))

/-- What Why's loop keeps to. -/
structure Yl (w W : World) (l : List Tm) (ps : List (Int × Int)) (x y : Int) (c : Ks) (needed rest : List Nat) (nv rv : Value) : Prop where
  yz : Yz w W l c (Wm.prs l.length ps needed) needed rest nv rv
  wy : Wm.Wy (Wm.Fol l ps x.toNat y.toNat) needed rest
  ok : ∀ n, n ∈ needed ++ rest → ∃ q, (ps[n]?).bind (Wm.okP l.length) = some q
  few : needed.length + rest.length ≤ ps.length

theorem Yl.next {w W : World} {l : List Tm} {ps : List (Int × Int)} {x y : Int} {c : Ks} {needed rest : List Nat} {nv rv : Value} (h : Yl w W l ps x y c needed rest nv rv) (hx : inB l.length x = true) (hy : inB l.length y = true) (hn : cgB l (Wm.prs l.length ps needed) x y = false) :
    ∃ i n, rest[i]? = some n ∧ cgB l (Wm.prs l.length ps needed ++ Wm.prs l.length ps (rest.take (i + 1))) x y = true ∧ (∀ j, j ≤ i → cgB l (Wm.prs l.length ps needed ++ Wm.prs l.length ps (rest.take j)) x y = false) ∧ Wm.Wy (Wm.Fol l ps x.toNat y.toNat) (needed ++ [n]) (rest.take i) ∧
      (∀ k, k ∈ (needed ++ [n]) ++ rest.take i → ∃ q, (ps[k]?).bind (Wm.okP l.length) = some q) ∧ (needed ++ [n]).length + (rest.take i).length ≤ ps.length := by
  have hF := Wm.fol_mon l ps x.toNat y.toNat
  obtain ⟨i, hi, h1, h2⟩ := h.wy.turn hF (fun e => by rw [(cgB_fol hx hy _).2 e] at hn; cases hn)
  have hfew := h.few
  refine ⟨i, rest[i], List.getElem?_eq_getElem hi, ?_, fun j hj => ?_, h.wy.step hF hi h1 (h2 i (Nat.le_refl _)), fun k hk => h.ok k ?_, by simp; omega⟩
  · rw [← Wm.prs_app]
    exact (cgB_fol hx hy _).2 h1
  · rw [← Wm.prs_app, Bool.eq_false_iff]
    exact fun e => h2 j hj ((cgB_fol hx hy _).1 e)
  · simp only [List.mem_append, List.mem_singleton] at hk ⊢
    rcases hk with (hk | hk) | hk
    · exact .inl hk
    · exact .inr (hk ▸ List.getElem_mem hi)
    · exact .inr (List.mem_of_mem_take hk)

set_option maxHeartbeats 4000000 in
set_option maxRecDepth 100000 in
theorem why_in (w : World) (base p : Nat) (ev : Value) (nb fb : Nat) (l : List Tm) (h : Bk w base p ev nb fb l) (hb : Cc.Bd l) (hl : l.length ≤ 150) (a : Option Addr) (cp : Nat) (ps : List (Int × Int)) (hP : Prw w a ps) (hr : ps.length * 16 ≤ 140737488355328) (x y : Int) :
    Calls Try.prog 52 #[.pointer (some ⟨p, 0, none⟩), .slice a ps.length cp, .int .i64 x, .int .i64 y] w (WhyIs w l ps x y) := by
  have EN := enough_in w base p ev nb fb l h hb hl a cp ps hP hr x y
  have hps : ps.length ≤ 8796093022208 := by omega
  cases hB : cgB l (Wm.prs l.length ps (List.range ps.length)) x y
  · have EN' : Calls Try.prog 93 #[.pointer (some ⟨p, 0, none⟩), .slice a ps.length cp, .int .i64 x, .int .i64 y] w fun e w' => ∃ va n vc, e = .returned (.tuple #[.slice va n vc, .bool false]) ∧ Kept0 w w' := by
      refine EN.mono ?_
      rintro e w' ⟨ns, v, k, rfl, R, E, hk, hn, K, _⟩
      obtain ⟨va, vc, rfl⟩ := row_form' R
      exact ⟨va, _, vc, by rw [enough_all E hk hn, hB], K⟩
    have HB : Hid _ := hB
    clear h hP hr EN hB
    go_enter Try.func52, Try.ntmps52
    go_wp2_with (go_at_call 93; refine EN'.mono ?_; rintro e w1 ⟨va, n, vc, rfl, K1⟩)
    go_ret2
    exact ⟨K1, .inl ⟨HB.out, rfl⟩⟩
  · obtain ⟨hx, hy⟩ := cgB_in hB
    have EN' : Calls Try.prog 93 #[.pointer (some ⟨p, 0, none⟩), .slice a ps.length cp, .int .i64 x, .int .i64 y] w fun e w' => ∃ (ns : List Nat) (va : Option Addr) (vc : Nat), e = .returned (.tuple #[.slice va ns.length vc, .bool true]) ∧ w'.ownsRow w.heap.size 3 1 (.slice va ns.length vc) ns.length (natC ns) ∧
        Wm.Wy (Wm.Fol l ps x.toNat y.toNat) [] ns ∧ (∀ n, n ∈ ns → ∃ q, (ps[n]?).bind (Wm.okP l.length) = some q) ∧ Kept0 w w' ∧ ns.length ≤ ps.length := by
      refine EN.mono ?_
      rintro e w' ⟨ns, v, k, rfl, R, E, hk, hn, K, hf⟩
      obtain ⟨va, vc, rfl⟩ := row_form' R
      have e1 := enough_all E hk hn
      rw [hB] at e1
      exact ⟨ns, va, vc, by rw [e1], R, .start ((cgB_fol hx hy _).1 e1) E.up, E.ok, K, hf⟩
    have HB : Hid _ := hB
    have HX : Hid (_ ∧ _) := And.intro hx hy
    have HP : Hid (Prw w a ps) := hP
    have HR : Hid (ps.length * 16 ≤ 140737488355328) := hr
    have NC : ∀ W, Kept0 w W → Calls Try.prog 38 #[.pointer (some ⟨p, 0, none⟩)] W fun e w' => ∃ c : Ks, e = .returned (.pointer (some ⟨c.pc, 0, none⟩)) ∧ Cl w' W.heap.size l c [] ∧ Kept0 W w' := fun W K => kNew_in W base p ev nb fb l (h.kept0 K) hb hl
    have HN : Hid _ := NC
    obtain ⟨i0, hi0, hz0, hz1, hz2⟩ := info_parts infoIntK
    clear h hP hr EN hB hx hy NC
    go_enter Try.func52, Try.ntmps52
    go_wp2_with (first | (go_at_call 93; refine EN'.mono ?_; rintro e w1 ⟨ns, va, vc, rfl, R1, Y1, ok1, K1, few1⟩; have NC1 := HN.out w1 K1) | (go_at_call 38; refine NC1.mono ?_; rintro e w2 ⟨c, rfl, C2, K2⟩))
    have L0 : Yl w w2 l ps x y c [] ns (.slice none 0 0) (.slice va ns.length vc) := by
      refine ⟨⟨(C2.base K1.size).fresh, World.ownsRow_nil _ _ _ _, ownsRow_block R1 (fun j hj => K2.block j (R1.lt j hj).2 (fun e => e)), fun j hj => by simp [Value.ownBlock] at hj, fun j hj hA => ?_, fun j hj => by simp [Value.ownBlock] at hj, K1.trans K2⟩, Y1, fun n hn => ok1 n hn, by simpa using few1⟩
      have h1 := C2.all_ge hA
      have h2 := (R1.lt j hj).2
      omega
    clear R1 Y1 ok1 K1 few1 C2 K2 EN' NC1
    go_loopw [10, 12] (fun t10 t12 W => ∃ (c' : Ks) (needed rest : List Nat), c'.pc = c.pc ∧ Yl w W l ps x y c' needed rest t12 t10) (fun t10 _ _ => slLen t10)
    case atStart => exact ⟨c, [], ns, rfl, L0⟩
    case round =>
      clear L0
      obtain ⟨c', needed, rest, hpc, L⟩ := hrel
      obtain ⟨na, nc, hnv⟩ := row_form' L.yz.nrow
      obtain ⟨ra, rc, hrv⟩ := row_form' L.yz.rrow
      subst hnv hrv
      have hfew := L.few
      have SM : Calls Try.prog 47 #[.pointer (some ⟨c.pc, 0, none⟩), .int .i64 x, .int .i64 y] wr fun e w' => e = .returned (.bool (cgB l (Wm.prs l.length ps needed) x y)) ∧ Kept0 wr w' := by
        rw [← hpc]
        exact qSame_k wr w.heap.size l c' _ L.yz.cq.cl x y
      cases hc : cgB l (Wm.prs l.length ps needed) x y
      · obtain ⟨i, n, hin, hyes, hno, hWy, hok, hfw⟩ := L.next HX.out.1 HX.out.2 hc
        rw [hc] at SM
        have hil : i < rest.length := (List.getElem?_eq_some_iff.1 hin).1
        obtain ⟨g, hg, hrc⟩ : ∃ g, ra = some ⟨g, 0, none⟩ ∧ rest.length ≤ rc := by
          rcases L.yz.rrow.2 with ⟨_, e2⟩ | ⟨g, c9, cur, e', _, _, h3, _⟩
          · omega
          · simp only [Value.slice.injEq] at e'
            exact ⟨g, e'.1, by rw [e'.2.2]; exact h3⟩
        subst hg
        obtain ⟨q, hq⟩ := hok n (by simp)
        obtain ⟨pr, hpr, hpo⟩ := Option.bind_eq_some_iff.1 hq
        obtain ⟨hpin, _⟩ := okP_some hpo
        have hnl : n < ps.length := (List.getElem?_eq_some_iff.1 hpr).1
        have TN : Hid (∀ W, Kept0 wr W → Calls Try.prog 94 #[.pointer (some ⟨c.pc, 0, none⟩), .slice a ps.length cp, .slice (some ⟨g, 0, none⟩) rest.length rc, .int .i64 x, .int .i64 y] W fun e w' => e = .returned (.int .i64 (i : Int)) ∧ ∃ c2 : Ks, c2.pc = c.pc ∧ Yz w w' l c2 (Wm.prs l.length ps needed) needed rest (.slice na needed.length nc) (.slice (some ⟨g, 0, none⟩) rest.length rc)) := fun W K => by
          have Lk := L.yz.kept0 K
          have hpl := Wm.prs_len l.length ps needed
          have hRR := HR.out
          rw [← hpc]
          refine (turn_in W w.heap.size l c' _ Lk.cq a cp ps g rc rest (fun W' K' => ⟨?_, fun j m hj => ?_⟩) (fun m hm => L.ok m (List.mem_append_right _ hm)) x y i hil hyes hno (by omega)).mono ?_
          · exact HP.out.kept0 (Lk.bel.into K' (fun i hi => .inr (Lk.cq.cl.all_ge hi)))
          · have R' := ownsRow_block Lk.rrow (fun j hj => K'.block j (Lk.rrow.lt j hj).2 (Lk.farR j hj))
            have hcell := R'.cellAt j (by rw [Nat.mul_one]; exact (List.getElem?_eq_some_iff.1 hj).1)
            rw [natC_get, hj] at hcell
            exact hcell
          · rintro e w' ⟨he, c2, C2, K2, p2, A2⟩
            exact ⟨he, c2, p2, Lk.moved K2 C2 A2⟩
        have CN : Hid (∀ W c2, Yz w W l c2 (Wm.prs l.length ps needed) needed rest (.slice na needed.length nc) (.slice (some ⟨g, 0, none⟩) rest.length rc) → W.cell? ⟨g, i, none⟩ = some (.int .i64 (n : Int))) := fun W c2 Z => by
          have hcell := Z.rrow.cellAt i (by rw [Nat.mul_one]; exact hil)
          rw [natC_get, hin] at hcell
          exact hcell
        obtain ⟨b, off, rfl, hbl, _, _⟩ := HP.out n pr hpr
        have PC : Hid (∀ W, Kept0 w W → W.cell? ⟨b, off + n * 2, none⟩ = some (.int .i64 pr.1) ∧ W.cell? ⟨b, off + n * 2 + 1, none⟩ = some (.int .i64 pr.2)) := fun W K => by
          obtain ⟨b', off', he, _, y1, y2⟩ := HP.out.kept0 K n pr hpr
          cases he
          exact ⟨y1, y2⟩
        have MGX : Hid (∀ W c2 m, c2.pc = c.pc → Yz w W l c2 (Wm.prs l.length ps needed) needed rest (.slice na needed.length nc) (.slice (some ⟨g, 0, none⟩) rest.length rc) → Calls Try.prog 39 #[.pointer (some ⟨c.pc, 0, none⟩), .int .i64 pr.1, .int .i64 pr.2] (W.drewN m) fun e W' => (∃ x, e = .returned (.int .i64 x)) ∧ ∃ c3 : Ks, c3.pc = c.pc ∧ Yz w W' l c3 (Wm.prs l.length ps (needed ++ [n])) needed rest (.slice na needed.length nc) (.slice (some ⟨g, 0, none⟩) rest.length rc)) := fun W c2 m h2 Z => by
          have hRR := HR.out
          rw [← h2]
          exact (Z.kept0 ((Kept.refl _ W).drewN m)).tell hpr hpin (by omega)
        have LN : Hid (∀ W c3 v', Yz w W l c3 (Wm.prs l.length ps (needed ++ [n])) (needed ++ [n]) rest v' (.slice (some ⟨g, 0, none⟩) rest.length rc) → Yl w W l ps x y c3 (needed ++ [n]) (rest.take i) v' (.slice (some ⟨g, 0, none⟩) i rc)) := fun W c3 v' Z => ⟨Z.cut i (by omega), hWy, hok, hfw⟩
        have hirc : i ≤ rc := by omega
        clear L hc hpc hyes hno hWy hok hfw hq hpr hpo hpin hin HP HN
        generalize pr.1 = pa at *
        generalize pr.2 = pb at *
        go_wp2_with (first | (go_at_call 47; refine SM.mono ?_; rintro e w3 ⟨rfl, K3⟩; have TN3 := TN.out w3 K3) | (go_at_call 94; refine TN3.mono ?_; rintro e w4 ⟨rfl, c4, hc4, Z4⟩; have cn := CN.out w4 c4 Z4; obtain ⟨y1, y2⟩ := PC.out w4 Z4.bel; have MG := fun m => MGX.out w4 c4 m hc4 Z4; replace Z4 : Hid _ := Z4))
        clear TN3 SM
        go_region_with (go_at_call 39; refine (MG 1).mono ?_; rintro e w5 ⟨⟨x5, rfl⟩, c5, hc5, Z5⟩)
        all_goals
          have R5 := Z5.nrow
          have K5 := Z5.bel
          replace Z5 : Hid _ := Z5
          clear cn y1 y2 MG
          go_wp2_with (at_builtin; go_loud (refine wpList_append_here rfl _ _ 40 rfl w.heap.size 3 i0 _ 1 8 Try.underlying40 hi0 hz0 hz1 hz2 rfl (by decide) _ _ (natC needed) rfl (R5.alloc _) ⟨w5.heap.size, 0, none⟩ 1 1 [.int .i64 (n : Int)] rfl rfl (by exact one_newD w5 0 _ _) (by simp [Value.oneCell']) (by unfold maxLen; omega) (by omega) (by have := K5.size; simp; omega) ?_; intro v6 w6 hown6 hgr6 hloc6))
          exact ⟨⟨c5, needed ++ [n], rest.take i, hc5, LN.out w6 c5 v6 (Z5.out.note ((Kept.refl _ w5).alloc _) hown6 hgr6 hloc6)⟩, by simp [slLen]; omega⟩
      · rw [hc] at SM
        have RV : Hid (∀ W, Kept0 wr W → Calls Try.prog 95 #[.slice na needed.length nc] W fun e w' => e = .returned (.tuple #[]) ∧ w'.ownsRow w.heap.size 3 1 (.slice na needed.length nc) needed.length (natC needed.reverse) ∧ Kept0 w w') := fun W K => by
          have Lk := L.yz.kept0 K
          refine (reverse_in W w.heap.size _ needed Lk.nrow (by omega)).mono ?_
          rintro e w' ⟨he, R, KR⟩
          exact ⟨he, R, Lk.bel.into KR (fun j hj => .inr (Lk.nrow.lt j hj).1)⟩
        have FT : Hid (Fits l ps x y needed.reverse) := Fits.of HX.out.1 HX.out.2 L.wy (fun n hn => L.ok n (List.mem_append_left _ hn)) hc
        clear L hc hpc
        go_wp2_with (first | (go_at_call 47; refine SM.mono ?_; rintro e w3 ⟨rfl, K3⟩; have RV3 := RV.out w3 K3) | (go_at_call 95; refine RV3.mono ?_; rintro e w4 ⟨rfl, R4, K4⟩))
        go_ret2
        exact ⟨K4, .inr ⟨HB.out, needed.reverse, .slice na needed.length nc, rfl, by rw [List.length_reverse]; exact R4, FT.out, by rw [List.length_reverse]; omega⟩⟩

end Go.Proofs.Ytinphcnknionmaa

namespace Go.Proofs.Ytinphcnknionmaa
open Go.RowKit Go.Maps

def pairC (ps : List (Int × Int)) : List Value := ps.flatMap fun p => [.int .i64 p.1, .int .i64 p.2]
theorem pairC_snoc (ps : List (Int × Int)) (p : Int × Int) : pairC (ps ++ [p]) = pairC ps ++ [.int .i64 p.1, .int .i64 p.2] := by simp [pairC]
theorem pairC_get (ps : List (Int × Int)) : ∀ (i : Nat) (p : Int × Int), ps[i]? = some p → (pairC ps)[i * 2]? = some (.int .i64 p.1) ∧ (pairC ps)[i * 2 + 1]? = some (.int .i64 p.2) := by
  induction ps with
  | nil => intro i p h; simp at h
  | cons x xs ih =>
    intro i p h
    have e : pairC (x :: xs) = .int .i64 x.1 :: .int .i64 x.2 :: pairC xs := rfl
    rw [e]
    cases i with
    | zero => simp at h; subst h; exact ⟨rfl, rfl⟩
    | succ i =>
      have h' := ih i p (by simpa using h)
      rw [show (i + 1) * 2 = i * 2 + 1 + 1 by omega]
      simpa using h'

theorem Prw.of_row {w : World} {base : Nat} {v : Value} {ps : List (Int × Int)} (h : w.ownsRow base 86 2 v ps.length (pairC ps)) : ∃ a cap, v = .slice a ps.length cap ∧ Prw w a ps := by
  rcases h.2 with ⟨e1, e2⟩ | ⟨g, cap, cur, e1, _⟩
  · have : ps = [] := List.length_eq_zero_iff.1 e2
    subst this
    exact ⟨none, 0, e1, fun k x hk => by simp at hk⟩
  · subst e1
    refine ⟨_, _, rfl, fun k x hk => ?_⟩
    obtain ⟨g1, g2⟩ := pairC_get ps k x hk
    have hkl := (List.getElem?_eq_some_iff.1 hk).1
    have c1 := h.cellAt (k * 2) (by omega)
    have c2 := h.cellAt (k * 2 + 1) (by omega)
    exact ⟨g, 0, rfl, (h.lt g (by simp [Value.ownBlock])).2, by rw [Nat.zero_add, c1, g1], by rw [Nat.zero_add, c2, g2]⟩

set_option maxHeartbeats 2000000 in
set_option maxRecDepth 100000 in
theorem given_in (w : World) (a : Option Addr) (cp : Nat) (ps : List (Int × Int)) (hP : Prw w a ps) (hr : ps.length * 16 ≤ 140737488355328) :
    Calls Try.prog 50 #[.slice a ps.length cp] w fun e w' => ∃ b c, e = .returned (.slice b ps.length c) ∧ w'.ownsRow w.heap.size 86 2 (.slice b ps.length c) ps.length (pairC ps) ∧ Prw w' b ps ∧ Kept0 w w' := by
  obtain ⟨i0, hi0, hz0, hz1, hz2⟩ := info_parts infoPair
  have hpb : ps.length ≤ 8796093022208 := by omega
  clear hr
  go_enter Try.func50, Try.ntmps50
  go_wp2_with fail
  go_loopw [3, 4] (fun t3 t4 W => ∃ k : Nat, k ≤ ps.length ∧ t4 = .int .i64 (k : Int) ∧ W.ownsRow w.heap.size 86 2 t3 k (pairC (ps.take k)) ∧ Kept0 w W) (fun _ t4 _ => ps.length - (intOf t4).toNat)
  case atStart => exact ⟨0, by omega, rfl, by simpa [pairC] using World.ownsRow_nil _ _ _ _, Kept.refl _ _⟩
  case round =>
    obtain ⟨k, hk, rfl, R, K⟩ := hrel
    obtain ⟨va, vc, hv⟩ := row_form' R
    subst hv
    by_cases hk2 : k < ps.length
    · have dk : decide ((k : Int) < (ps.length : Int)) = true := decide_eq_true (by omega)
      have hx : ps[k]? = some ps[k] := List.getElem?_eq_getElem hk2
      generalize hok : ps[k] = q at hx
      clear hok
      obtain ⟨b, off, rfl, hbl, y1, y2⟩ := hP.kept0 K k q hx
      have hks := K.size
      have FIN : Hid (∀ w1 v' O, w1.ownsRow w.heap.size 86 2 v' (k + 1) (pairC (ps.take k) ++ [.int .i64 q.1, .int .i64 q.2]) → (wr.alloc O).drew.grownBy w1 (Value.slice va k vc).ownBlock → w1.ownsRow w.heap.size 86 2 v' (k + 1) (pairC (ps.take (k + 1))) ∧ Kept0 w w1) := fun w1 v' O h1 h2 => by
        refine ⟨?_, ?_⟩
        · rw [List.take_add_one, hx, Option.toList_some, pairC_snoc]
          exact h1
        · have K1 : Kept (fun j => (Value.slice va k vc).ownBlock = some j) wr w1 := Kept.grown (((Kept.refl _ wr).alloc O).drew) h2 (fun _ e => e)
          exact K.into K1 (fun j hj => .inr (R.lt j hj).1)
      have OWN : ∀ O, (wr.alloc O).drew.ownsRow w.heap.size 86 2 (.slice va k vc) k (pairC (ps.take k)) := fun O => World.ownsRow.alloc R O
      have NEW := cell_two_news wr 0 (.int .i64 q.1) (.int .i64 q.2) 86
      clear hx hP K
      generalize q.1 = qa at *
      generalize q.2 = qb at *
      go_wp2_with fail
      go_region_law (refine step_append_here rfl (.tmp 11) (.tmp 23) 77 rfl w.heap.size 86 i0 _ 2 16 Try.underlying77 hi0 hz0 hz1 hz2 rfl (by decide) _ k (pairC (ps.take k)) (by simp [Act.eval]; rfl) (by exact OWN _) ⟨wr.heap.size, 0, none⟩ 1 1 [.int .i64 qa, .int .i64 qb] (by simp [Act.eval]) rfl (by exact NEW) (by simp [Value.oneCell']) (by unfold maxLen; omega) (by omega) (by simp; omega) ?_; intro v' w1 hown1 hgrow hloc; obtain ⟨b1, cap1, hv1⟩ := ownsRow_succ hown1; subst hv1; replace hown1 : Hid _ := hown1; replace hgrow : Hid _ := hgrow; replace hloc : Hid _ := hloc)
      all_goals
        clear OWN NEW R
        go_wp2_with fail
        obtain ⟨f1, f2⟩ := FIN.out w1 _ _ hown1.out hgrow.out
        exact ⟨⟨k + 1, hk2, by simp, f1, f2⟩, by simp [intOf]; omega⟩
    · have dk : decide ((k : Int) < (ps.length : Int)) = false := decide_eq_false (by omega)
      obtain rfl : k = ps.length := by omega
      rw [List.take_length] at R
      obtain ⟨a2, c2, e2, hP2⟩ := Prw.of_row R
      cases e2
      go_wp2_with fail
      go_ret
      exact ⟨va, vc, rfl, R, hP2, K⟩

end Go.Proofs.Ytinphcnknionmaa
