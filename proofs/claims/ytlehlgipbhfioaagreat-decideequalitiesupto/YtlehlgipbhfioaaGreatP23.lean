/- Package decide: told. Package decide: what wrong answers, plainly. Package decide, plainly: what the steps of a proof are about; how many variables they want; in which order variables are numbered. Package close: the steps that take back. slices.Backward over steps. Package close: takeBack: what it does, plainly. Package close: takeBack. -/
import Derived.Test.YtlehlgipbhfioaaGreatP22
import Derived.Test.YtlehlgipbhfioaaGreatP14
import Derived.Test.YtlehlgipbhfioaaGreatP20
import Derived.Test.YtlehlgipbhfioaaGreatP03
import Derived.RangeFuncNested
import Derived.RangeFuncBound
import Derived.RangeFuncCalls
import Derived.RangeFuncLeaves
import Derived.Shelf.Abstract
import Derived.Shelf.RegionOpen
import Derived.OwnWalkIn
import Derived.TacticsInMore
import Derived.LoopNIn
import Derived.LoopIn
namespace Go.Proofs.YtlehlgipbhfioaaGreat
open Go.RowKit Go.Maps

/-- The atoms of formulas in memory. -/
def AmAt (W : World) (v : Value) (k : Nat) (am : Nat → List Pr) : Prop := ∃ a c, v = .slice a k c ∧ ∀ n, n < k → ∃ b off u, a = some ⟨b, off, none⟩ ∧ W.cell? ⟨b, off + n * 6 + 4, none⟩ = some u ∧ PsAt W u (am n)
/-- Truth values in memory. -/
def BsAt (W : World) (v : Value) (k : Nat) (val : Nat → Bool) : Prop := ∃ b off c, v = .slice (some ⟨b, off, none⟩) k c ∧ ∀ n, n < k → W.cell? ⟨b, off + n, none⟩ = some (.bool (val n))

def TS (w W : World) (v : Value) (acc : List Pr) : Prop := W.ownsRow w.heap.size 34 2 v acc.length (rowP acc) ∧ Below w.heap.size w W
theorem TS.below {w W W' : World} {v : Value} {acc : List Pr} (h : TS w W v acc) (B : Below W.heap.size W W') : TS w W' v acc := ⟨ownsRow_below h.1 B, h.2.trans (B.mono h.2.size)⟩
theorem TS.get {w W : World} {v : Value} {acc : List Pr} (h : TS w W v acc) {a : Addr} {u : Value} (hc : w.cell? a = some u) : W.cell? a = some u := (h.2.cell (World.block_lt_of_cell? w _ hc)).trans hc
theorem TS.add {w W : World} {v : Value} {acc : List Pr} (h : TS w W v acc) (x1 x2 : Nat) (hn : (acc.length + 1) * 16 ≤ 140737488355328) {W1 : World} (B : Below W.heap.size W W1) (g : Nat) (hg : W1.heap.size = g) :
    Calls Tryz.prog 89 #[v, .slice (some ⟨g, 0, none⟩) 1 1] (W1.alloc (.cells #[.int .i64 (x1 : Int), .int .i64 (x2 : Int)] 34)) fun e w' => ∃ v', e = .returned v' ∧ TS w w' v' (addP acc [(x1, x2)]) := by
  subst hg
  have B2 : Below W.heap.size W (W1.alloc (.cells #[.int .i64 (x1 : Int), .int .i64 (x2 : Int)] 34)) := B.trans ((Below.refl _ _).alloc B.size _)
  have h2 := h.below B2
  refine (addPairs_in _ w.heap.size h2.2.size v acc h2.1 (some ⟨W1.heap.size, 0, none⟩) 1 [(x1, x2)] ⟨_, _, rfl, Or.inr ⟨_, _, rfl, fun j p hj => ?_⟩⟩ (fun b off e hv => ?_) (by simpa using hn)).mono ?_
  · match j, hj with
    | 0, hj => simp at hj; subst hj; exact ⟨by simp, by simp⟩
    | j + 1, hj => simp at hj
  · cases e
    have := (ownsRow_lt h.1 hv).2
    have := B.size
    omega
  · rintro e w' ⟨v', rfl, R⟩
    exact ⟨v', rfl, R.row, h2.2.trans (R.kept.below h2.2.size (fun k hk => (ownsRow_lt h2.1 hk).1))⟩

set_option maxRecDepth 100000 in
set_option maxHeartbeats 1000000 in
theorem told_in (S : Nat → Prop) (w : World) (pb vb kb : Nat) (bk tv fv lv : Value) (P : Pb) (h : Pm S w pb vb kb bk tv fv lv P) (k : Nat) (am : Nat → List Pr) (ha : AmAt w fv k am) (vv : Value) (m : Nat) (val : Nat → Bool) (hv : BsAt w vv m val) (xa : Option Addr) (xc : Nat) (ns : List Nat) (hx : NsAt w (.slice xa ns.length xc) ns) (hns : ∀ n ∈ ns, n < k) (hnl : ns.length ≤ 1000000) (hpr : ∀ n, n < k → (am n).length ≤ 1000000 ∧ ∀ a ∈ am n, PrOk a ∧ ∃ z, numV P.vars a = some z ∧ 1 ≤ z ∧ z ≤ m) (hm : m ≤ 1000000) :
    Calls Tryz.prog 46 #[.pointer (some ⟨pb, 0, none⟩), vv, .slice xa ns.length xc] w fun e w' => ∃ v', e = .returned v' ∧ w'.ownsRow w.heap.size 34 2 v' (toldN val P.vars am [] ns).length (rowP (toldN val P.vars am [] ns)) ∧ Below w.heap.size w w' := by
  obtain ⟨fa, fc, rfl, ha⟩ := ha
  obtain ⟨tb, tq, tc, rfl, hv⟩ := hv
  have HD : Hid (_ ∧ _ ∧ _ ∧ _ ∧ _ ∧ _) := ⟨h, ha, hv, hx, hns, hpr⟩
  obtain ⟨n, hn⟩ : ∃ n, ns.length = n := ⟨_, rfl⟩
  have HN : Hid _ := hn
  rw [hn] at hnl ⊢
  have HI0 : Hid (TS w w (.slice none 0 0) (toldN val P.vars am [] (ns.take 0)) ∧ (toldN val P.vars am [] (ns.take 0)).length ≤ 0 * 1000000) := ⟨⟨⟨by simp [toldN, rowP], Or.inl ⟨rfl, rfl⟩⟩, Below.refl _ _⟩, by simp [toldN]⟩
  clear h ha hv hx hns hpr hn
  go_enter Tryz.func46, Tryz.ntmps46
  go_wp2_with fail
  go_loopw [7, 14] (fun t7 t14 W => ∃ i : Nat, i ≤ n ∧ t14 = .int .i64 (i : Int) ∧ Hid (TS w W t7 (toldN val P.vars am [] (ns.take i)) ∧ (toldN val P.vars am [] (ns.take i)).length ≤ i * 1000000)) (fun _ t14 _ => n - (intOf t14).toNat)
  case atStart => exact ⟨0, Nat.zero_le _, rfl, HI0⟩
  case round =>
    obtain ⟨i, hi, rfl, HJ⟩ := hrel
    clear HI0
    by_cases hlt : i < n
    · have di : decide ((i : Int) < (n : Int)) = true := decide_eq_true (by omega)
      have hwi : IntKind.i64.wrap ((i : Int) + 1) = (i : Int) + 1 := wrap_nat1 (by omega)
      have hil : i < ns.length := by rw [HN.out]; exact hlt
      obtain ⟨xb, xo, xc', ex, qx⟩ := HD.out.2.2.2.1.get (List.getElem?_eq_getElem hil)
      cases ex
      have hxk := HD.out.2.2.2.2.1 _ (List.getElem_mem hil)
      have HS : Hid (toldN val P.vars am [] (ns.take (i + 1)) = tellL val P.vars (toldN val P.vars am [] (ns.take i)) (am ns[i])) := by
        show _ = _
        rw [List.take_add_one, List.getElem?_eq_getElem hil, Option.toList_some]
        unfold toldN
        rw [List.foldl_append]
        rfl
      generalize ns[i] = x at *
      obtain ⟨fb, fo, u, hfa, qu, pu⟩ := HD.out.2.1 x hxk
      subst hfa
      obtain ⟨ua, uc, rfl, pu⟩ := pu
      have qx := HJ.out.1.get qx
      have qu := HJ.out.1.get qu
      have c2 := HJ.out.1.get (HD.out.1.cells.cell (i := 2) (by omega))
      simp only [pmC] at c2
      have hpx := HD.out.2.2.2.2.2 x hxk
      generalize toldN val P.vars am [] (ns.take i) = acc at *
      generalize am x = al at *
      have HU : Hid (_ ∧ _) := And.intro pu hpx
      clear pu hpx
      go_wp2_with fail
      obtain ⟨y, hy⟩ : ∃ y, al.length = y := ⟨_, rfl⟩
      have HY : Hid _ := hy
      have hyl : y ≤ 1000000 := by rw [← hy]; exact HU.out.2.1
      simp only [hy]
      clear hy qx qu c2
      have HJ0 : Hid (TS w wr u7 (tellL val P.vars acc (al.take 0)) ∧ (tellL val P.vars acc (al.take 0)).length ≤ i * 1000000 + 0) := by
        rw [List.take_zero]
        refine ⟨HJ.out.1, ?_⟩
        exact Nat.le_trans HJ.out.2 (Nat.le_add_right _ _)
      have HD3 : Hid (_ ∧ _) := And.intro HD.out.1 HD.out.2.2.1
      clear HJ HD
      go_loopw [7, 27] (fun t7 t27 W => ∃ j : Nat, j ≤ y ∧ t27 = .int .i64 (j : Int) ∧ Hid (TS w W t7 (tellL val P.vars acc (al.take j)) ∧ (tellL val P.vars acc (al.take j)).length ≤ i * 1000000 + j)) (fun _ t27 _ => y - (intOf t27).toNat)
      case atStart => exact ⟨0, Nat.zero_le _, rfl, HJ0⟩
      case round =>
        obtain ⟨j, hj, rfl, HK⟩ := hrel
        clear HJ0
        by_cases hjt : j < y
        · have dj : decide ((j : Int) < (y : Int)) = true := decide_eq_true (by omega)
          have hwj : IntKind.i64.wrap ((j : Int) + 1) = (j : Int) + 1 := wrap_nat1 (by omega)
          have hjl : j < al.length := by rw [HY.out]; exact hjt
          have hge := List.getElem?_eq_getElem hjl
          have hmem := List.getElem_mem hjl
          have HS2 : Hid (tellL val P.vars acc (al.take (j + 1)) = tell1 val P.vars (tellL val P.vars acc (al.take j)) al[j]) := by
            show _ = _
            rw [List.take_add_one, hge, Option.toList_some]
            unfold tellL
            rw [List.foldl_append]
            rfl
          obtain ⟨ub, uo, eu, pu⟩ : ∃ b off, ua = some ⟨b, off, none⟩ ∧ ∀ (j : Nat) (p : Pr), al[j]? = some p → w.cell? ⟨b, off + j * 2, none⟩ = some (.int .i64 (p.1 : Int)) ∧ w.cell? ⟨b, off + j * 2 + 1, none⟩ = some (.int .i64 (p.2 : Int)) := by
            rcases HU.out.1 with e | e
            · rw [e] at hjl; exact absurd hjl (Nat.not_lt_zero _)
            · exact e
          subst eu
          have q1 := HK.out.1.get (pu j _ hge).1
          have q2 := HK.out.1.get (pu j _ hge).2
          obtain ⟨hok, z, hz, hz1, hzm⟩ := HU.out.2.2 _ hmem
          clear hge hmem pu
          generalize al[j] = x at *
          obtain ⟨x1, x2⟩ := x
          generalize tellL val P.vars acc (al.take j) = acc2 at *
          have hBx : Below wr.heap.size wr (wr.alloc (.cells #[.int .i64 (x1 : Int), .int .i64 (x2 : Int)] 34)) := (Below.refl _ _).alloc (Nat.le_refl _) _
          have HK1 := HK.out.1.below hBx
          have c3 := HK1.get (HD3.out.1.cells.cell (i := 3) (by omega))
          simp only [pmC] at c3
          have hvr : VrIs (wr.alloc (.cells #[.int .i64 (x1 : Int), .int .i64 (x2 : Int)] 34)) vb P.vars := by
            obtain ⟨es, ck, he⟩ := HD3.out.1.vars.lt
            exact HD3.out.1.vars.keep (HK1.2.block vb (Array.getElem?_eq_some_iff.1 he).1)
          have LK : ∀ m, _ := fun m => (show VrIs ((wr.alloc (.cells #[.int .i64 (x1 : Int), .int .i64 (x2 : Int)] 34)).drewN m) vb P.vars from hvr.keep rfl).look1 hok
          rw [hz] at LK
          simp only [Option.getD_some] at LK
          obtain ⟨z', rfl⟩ : ∃ z', z = z' + 1 := ⟨z - 1, by omega⟩
          have hb := HK1.get (HD3.out.2 z' (by omega))
          have hzl : z' < m := by omega
          have ADD : Hid _ := fun mm : Nat => HK.out.1.add x1 x2 (by have := HK.out.2; omega) (W1 := (wr.alloc (.cells #[.int .i64 (x1 : Int), .int .i64 (x2 : Int)] 34)).drewN mm) ⟨hBx.os, hBx.tape, hBx.output, hBx.size, hBx.block⟩ (wr.heap.size + 1) (by simp)
          have HT : Hid (∀ b, val z' = b → tell1 val P.vars acc2 (x1, x2) = if b then addP acc2 [(x1, x2)] else acc2) := fun b hb => by rw [tell1, hz, ← hb]; rfl
          have hwz : IntKind.i64.wrap ((z' : Int) + 1 - 1) = (z' : Int) := by rw [IntKind.wrap_i64]; omega
          have HK2 : Hid _ := HK1
          have hl2 := HK.out.2
          clear HK HK1 hvr hBx hz hok hz1 hzm
          have HDr : Hid (∀ m, TS w ((wr.alloc (.cells #[.int .i64 (x1 : Int), .int .i64 (x2 : Int)] 34)).drewN m) u7 acc2) := fun m => TS.below HK2.out ⟨rfl, rfl, rfl, Nat.le_refl _, fun _ _ => rfl⟩
          clear HK2
          cases hvz : val z'
          · rw [hvz] at hb
            have HE : Hid (tellL val P.vars acc (al.take (j + 1)) = acc2) := by
              show _ = _
              rw [HS2.out, HT.out _ hvz]
              rfl
            clear ADD hvz HT HS2
            go_wp2_with fail
            go_quiet (fail)
            go_wp2_with fail
            refine ⟨⟨j + 1, hjt, by simp, ?_⟩, by simp [intOf]; omega⟩
            rw [HE.out]
            exact ⟨HDr.out _, by omega⟩
          · rw [hvz] at hb
            have HE : Hid (tellL val P.vars acc (al.take (j + 1)) = addP acc2 [(x1, x2)]) := by
              show _ = _
              rw [HS2.out, HT.out _ hvz]
              rfl
            have HL : Hid ((addP acc2 [(x1, x2)]).length ≤ i * 1000000 + (j + 1)) := by
              have := addP_len acc2 [(x1, x2)]
              simp only [List.length_singleton] at this
              show _ ≤ _
              omega
            clear hvz HT HS2
            go_wp2_with fail
            go_quiet (fail)
            have A1 := ADD.out nq
            clear ADD
            go_wp2_with (first | (go_at_call 89; refine A1.mono ?_; rintro e w3 ⟨v3, rfl, T3⟩))
            refine ⟨⟨j + 1, hjt, by simp, ?_⟩, by simp [intOf]; omega⟩
            rw [HE.out]
            exact ⟨T3, HL.out⟩
        · have dj : decide ((j : Int) < (y : Int)) = false := decide_eq_false (by omega)
          obtain rfl : j = y := by omega
          have HF : Hid (TS w wr u7 (toldN val P.vars am [] (ns.take (i + 1))) ∧ (toldN val P.vars am [] (ns.take (i + 1))).length ≤ (i + 1) * 1000000) := by
            rw [HS.out]
            have := HK.out
            rw [List.take_of_length_le (by rw [HY.out]; exact Nat.le_refl _)] at this
            refine ⟨this.1, ?_⟩
            have := this.2
            omega
          clear HK HS HU HD3
          go_wp2_with fail
          exact ⟨⟨i + 1, hlt, by simp, HF⟩, by simp [intOf]; omega⟩
    · have di : decide ((i : Int) < (n : Int)) = false := decide_eq_false (by omega)
      obtain rfl : i = n := by omega
      have HF : Hid (TS w wr u7 (toldN val P.vars am [] ns)) := by
        have := HJ.out.1
        rw [List.take_of_length_le (by rw [HN.out]; exact Nat.le_refl _)] at this
        exact this
      clear HJ HD
      go_wp2_with fail
      go_ret
      exact ⟨_, rfl, HF.out.1, HF.out.2⟩
end Go.Proofs.YtlehlgipbhfioaaGreat

namespace Go.Proofs.YtlehlgipbhfioaaGreat
open Go.RowKit Go.Maps

/-- An atom is wrong if it is true in the model and its variable is false. -/
def wrng1 (val : Nat → Bool) (vs : List (Pr × Nat)) (cq : Nat → Nat → Bool) (acc : List Pr) (a : Pr) : List Pr := if cq a.1 a.2 = true ∧ val ((numV vs a).getD 0 - 1) = false then addP acc [a] else acc
def wrngL (val : Nat → Bool) (vs : List (Pr × Nat)) (cq : Nat → Nat → Bool) (acc : List Pr) (xs : List Pr) : List Pr := xs.foldl (wrng1 val vs cq) acc
/-- am: the atoms of each formula; ok: whether it is true in the model. -/
def wrongN (val : Nat → Bool) (vs : List (Pr × Nat)) (cq : Nat → Nat → Bool) (am : Nat → List Pr) (ok : Nat → Bool) (acc : List Pr) (ns : List Nat) : List Pr := ns.foldl (fun acc n => if ok n then acc else wrngL val vs cq acc (am n)) acc
theorem wrngL_mem (val : Nat → Bool) (vs : List (Pr × Nat)) (cq : Nat → Nat → Bool) (q : Pr) : ∀ (xs acc : List Pr), q ∈ wrngL val vs cq acc xs ↔ q ∈ acc ∨ (q ∈ xs ∧ cq q.1 q.2 = true ∧ val ((numV vs q).getD 0 - 1) = false)
  | [], acc => by simp [wrngL]
  | a :: xs, acc => by
    have e : wrngL val vs cq acc (a :: xs) = wrngL val vs cq (wrng1 val vs cq acc a) xs := rfl
    rw [e, wrngL_mem val vs cq q xs, wrng1]
    split
    · rename_i h
      rw [addP_one, List.mem_cons]
      constructor
      · rintro ((h1 | rfl) | ⟨h1, h2⟩)
        · exact .inl h1
        · exact .inr ⟨.inl rfl, h⟩
        · exact .inr ⟨.inr h1, h2⟩
      · rintro (h1 | ⟨rfl | h1, h2⟩)
        · exact .inl (.inl h1)
        · exact .inl (.inr rfl)
        · exact .inr ⟨h1, h2⟩
    · rename_i h
      rw [List.mem_cons]
      constructor
      · rintro (h1 | ⟨h1, h2⟩)
        · exact .inl h1
        · exact .inr ⟨.inr h1, h2⟩
      · rintro (h1 | ⟨rfl | h1, h2⟩)
        · exact .inl h1
        · exact absurd h2 h
        · exact .inr ⟨h1, h2⟩
theorem wrongN_mem (val : Nat → Bool) (vs : List (Pr × Nat)) (cq : Nat → Nat → Bool) (am : Nat → List Pr) (ok : Nat → Bool) (q : Pr) : ∀ (ns : List Nat) (acc : List Pr), q ∈ wrongN val vs cq am ok acc ns ↔ q ∈ acc ∨ ((∃ n ∈ ns, ok n = false ∧ q ∈ am n) ∧ cq q.1 q.2 = true ∧ val ((numV vs q).getD 0 - 1) = false)
  | [], acc => by simp [wrongN]
  | n :: ns, acc => by
    have e : wrongN val vs cq am ok acc (n :: ns) = wrongN val vs cq am ok (if ok n then acc else wrngL val vs cq acc (am n)) ns := rfl
    rw [e, wrongN_mem val vs cq am ok q ns]
    cases ho : ok n
    · rw [if_neg (by decide), wrngL_mem]
      constructor
      · rintro ((h1 | ⟨h1, h2⟩) | ⟨⟨m, h1, h3⟩, h2⟩)
        · exact .inl h1
        · exact .inr ⟨⟨n, by simp, ho, h1⟩, h2⟩
        · exact .inr ⟨⟨m, by simp [h1], h3⟩, h2⟩
      · rintro (h1 | ⟨⟨m, h1, h3⟩, h2⟩)
        · exact .inl (.inl h1)
        · rcases List.mem_cons.1 h1 with rfl | h1
          · exact .inl (.inr ⟨h3.2, h2⟩)
          · exact .inr ⟨⟨m, h1, h3⟩, h2⟩
    · rw [if_pos rfl]
      constructor
      · rintro (h1 | ⟨⟨m, h1, h3⟩, h2⟩)
        · exact .inl h1
        · exact .inr ⟨⟨m, by simp [h1], h3⟩, h2⟩
      · rintro (h1 | ⟨⟨m, h1, h3⟩, h2⟩)
        · exact .inl h1
        · rcases List.mem_cons.1 h1 with rfl | h1
          · rw [ho] at h3; exact absurd h3.1 (by decide)
          · exact .inr ⟨⟨m, h1, h3⟩, h2⟩
end Go.Proofs.YtlehlgipbhfioaaGreat

namespace Go.Proofs.YtlehlgipbhfioaaGreat
open Go.RowKit Go.Maps

/-- A pair is told, or one term and itself, or what a step says. -/
def Had (told : List Pr) (S : List Stq) (q : Pr) : Prop := q ∈ told ∨ q.1 = q.2 ∨ ∃ st ∈ S, st.1 = q
theorem Had.mono {told : List Pr} {S S' : List Stq} (h : ∀ st ∈ S, st ∈ S') {q : Pr} (k : Had told S q) : Had told S' q := by
  rcases k with k | k | ⟨st, k1, k2⟩
  · exact .inl k
  · exact .inr (.inl k)
  · exact .inr (.inr ⟨st, h st k1, k2⟩)
theorem addP_sub : ∀ (r l : List Pr), (∀ q ∈ l, q ∈ addP l r) ∧ (∀ q ∈ r, q ∈ addP l r) ∧ ∀ q ∈ addP l r, q ∈ l ∨ q ∈ r
  | [], l => by simp [addP]
  | a :: r, l => by
    obtain ⟨h1, h2, h3⟩ := addP_sub r (if a ∈ l then l else l ++ [a])
    rw [addP]
    refine ⟨fun q hq => h1 q ?_, fun q hq => ?_, fun q hq => ?_⟩
    · split
      · exact hq
      · simp [hq]
    · rcases List.mem_cons.1 hq with rfl | hq
      · refine h1 q ?_
        split
        · assumption
        · simp
      · exact h2 q hq
    · rcases h3 q hq with h | h
      · split at h
        · exact .inl h
        · rcases List.mem_append.1 h with h | h
          · exact .inl h
          · simp at h
            subst h
            exact .inr (by simp)
      · exact .inr (by simp [h])
/-- In range. -/
def InN (n : Nat) (q : Pr) : Prop := q.1 < n ∧ q.2 < n
theorem InN.ord {n x y : Nat} (hx : x < n) (hy : y < n) : InN n (ordP x y) := by
  unfold InN ordP
  exact ⟨by simp; omega, by simp; omega⟩
def StIn (n : Nat) (st : Stq) : Prop := InN n st.1 ∧ ∀ q ∈ st.2, InN n q
/-- What the steps along a way are about. -/
structure Abt (told : List Pr) (n : Nat) (S : List Stq) (G : List Pr) : Prop where
  pre : ∀ st ∈ S, ∀ q ∈ st.2, Had told S q ∨ q ∈ G
  inn : ∀ st ∈ S, StIn n st
  four : ∀ st ∈ S, st.2.length ≤ 4
theorem stepsK_had {told : List Pr} {argp : Pr → List Pr} {n : Nat} (hi : ∀ p, ∀ q ∈ argp p, InN n q) (h4 : ∀ p, (argp p).length ≤ 4) (a : Nat) (ha : a < n) : ∀ (p : List Nat) (t : Bool) (S : List Stq) (G : List Pr), (∀ x r, p = x :: r → (t = true → x = a) ∧ Had told S (ordP a x)) → (∀ x ∈ p, x < n) → Abt told n S G →
    Abt told n (stepsK told argp a t p S G).1 (stepsK told argp a t p S G).2 ∧ (∀ st ∈ S, st ∈ (stepsK told argp a t p S G).1) ∧ (∀ q ∈ G, q ∈ (stepsK told argp a t p S G).2) ∧ (∀ z, p.getLast? = some z → Had told (stepsK told argp a t p S G).1 (ordP a z)) ∧ (stepsK told argp a t p S G).1.length ≤ S.length + 2 * p.length
  | [], t, S, G, _, _, hA => by
    simp only [stepsK]
    exact ⟨hA, fun _ h => h, fun _ h => h, fun z h => by simp at h, by simp⟩
  | [x], t, S, G, hx, _, hA => by
    simp only [stepsK]
    refine ⟨hA, fun _ h => h, fun _ h => h, fun z h => ?_, by simp⟩
    simp at h
    subst h
    exact (hx _ _ rfl).2
  | x :: y :: r, t, S, G, hx, hn, hA => by
    have hxn := hn x (by simp)
    have hyn := hn y (by simp)
    obtain ⟨hxa, hxh⟩ := hx x (y :: r) rfl
    rw [stepsK]
    obtain ⟨S1, hS1⟩ : ∃ S1, S1 = (if ordP x y ∈ told then S else S ++ [(ordP x y, argp (ordP x y))]) := ⟨_, rfl⟩
    obtain ⟨G1, hG1⟩ : ∃ G1, G1 = (if ordP x y ∈ told then G else addP G (argp (ordP x y))) := ⟨_, rfl⟩
    obtain ⟨S2, hS2⟩ : ∃ S2, S2 = S1 ++ (if t then [] else [(ordP a y, [ordP a x, ordP x y])]) := ⟨_, rfl⟩
    rw [← hS1, ← hG1, ← hS2]
    have sub1 : ∀ st ∈ S, st ∈ S1 := fun st h => by rw [hS1]; split <;> simp [h]
    have sub2 : ∀ st ∈ S1, st ∈ S2 := fun st h => by rw [hS2]; simp [h]
    have subG : ∀ q ∈ G, q ∈ G1 := fun q h => by
      rw [hG1]
      split
      · exact h
      · exact (addP_sub _ _).1 q h
    have hl : Had told S1 (ordP x y) := by
      rw [hS1]
      split
      · rename_i h
        exact .inl h
      · exact .inr (.inr ⟨(ordP x y, argp (ordP x y)), by simp, rfl⟩)
    have hA1 : Abt told n S1 G1 := by
      refine ⟨fun st h q hq => ?_, fun st h => ?_, fun st h => ?_⟩
      · have : st ∈ S ∨ (ordP x y ∉ told ∧ st = (ordP x y, argp (ordP x y))) := by
          rw [hS1] at h
          split at h
          · exact .inl h
          · rename_i hno
            rcases List.mem_append.1 h with h | h
            · exact .inl h
            · exact .inr ⟨hno, by simpa using h⟩
        rcases this with h | ⟨hno, rfl⟩
        · rcases hA.pre st h q hq with k | k
          · exact .inl (k.mono sub1)
          · exact .inr (subG q k)
        · right
          rw [hG1, if_neg hno]
          exact (addP_sub _ _).2.1 q hq
      · rw [hS1] at h
        split at h
        · exact hA.inn st h
        · rcases List.mem_append.1 h with h | h
          · exact hA.inn st h
          · simp at h
            subst h
            exact ⟨InN.ord hxn hyn, fun q hq => hi _ q hq⟩
      · rw [hS1] at h
        split at h
        · exact hA.four st h
        · rcases List.mem_append.1 h with h | h
          · exact hA.four st h
          · simp at h
            subst h
            exact h4 _
    have hA2 : Abt told n S2 G1 := by
      refine ⟨fun st h q hq => ?_, fun st h => ?_, fun st h => ?_⟩
      · rw [hS2] at h
        rcases List.mem_append.1 h with h | h
        · rcases hA1.pre st h q hq with k | k
          · exact .inl (k.mono sub2)
          · exact .inr k
        · cases t
          · simp at h
            subst h
            simp at hq
            rcases hq with rfl | rfl
            · exact .inl ((hxh.mono sub1).mono sub2)
            · exact .inl (hl.mono sub2)
          · simp at h
      · rw [hS2] at h
        rcases List.mem_append.1 h with h | h
        · exact hA1.inn st h
        · cases t
          · simp at h
            subst h
            refine ⟨InN.ord ha hyn, fun q hq => ?_⟩
            simp at hq
            rcases hq with rfl | rfl
            · exact InN.ord ha hxn
            · exact InN.ord hxn hyn
          · simp at h
      · rw [hS2] at h
        rcases List.mem_append.1 h with h | h
        · exact hA1.four st h
        · cases t
          · simp at h
            subst h
            simp
          · simp at h
    have hy2 : Had told S2 (ordP a y) := by
      cases t
      · exact .inr (.inr ⟨(ordP a y, [ordP a x, ordP x y]), by rw [hS2]; simp, rfl⟩)
      · have := hxa rfl
        subst this
        exact hl.mono sub2
    have hlen : S2.length ≤ S.length + 2 := by
      have h1 : S1.length ≤ S.length + 1 := by rw [hS1]; split <;> simp
      rw [hS2]
      cases t <;> simp <;> omega
    obtain ⟨k1, k2, k3, k4, k5⟩ := stepsK_had hi h4 a ha (y :: r) false S2 G1 (fun x' r' e => by simp at e; obtain ⟨rfl, rfl⟩ := e; exact ⟨by simp, hy2⟩) (fun z hz => hn z (by simp at hz ⊢; right; exact hz)) hA2
    refine ⟨k1, fun st h => k2 st (sub2 st (sub1 st h)), fun q h => k3 q (subG q h), fun z hz => k4 z ?_, ?_⟩
    · simpa using hz
    · simp at k5 ⊢
      omega
theorem wayTo_last (nx : List Nat) (b : Nat) : ∀ (f n : Nat) (q : List Nat), wayTo nx b f n = some q → (n :: q).getLast? = some b
  | 0, n, q, h => by simp [wayTo] at h
  | f + 1, n, q, h => by
    rw [wayTo] at h
    split at h
    · rename_i e
      subst e
      cases h
      rfl
    · cases hw : wayTo nx b f (nx[n]?.getD 0 - 1) with
      | none => rw [hw] at h; cases h
      | some q' =>
        rw [hw] at h
        cases h
        have := wayTo_last nx b f _ q' hw
        rw [List.getLast?_cons_cons]
        exact this
theorem pathN_ends {L : List (List Nat)} {a b : Nat} {p : List Nat} (h : pathN L a b = some p) : ∃ r, p = a :: r ∧ p.getLast? = some b := by
  unfold pathN at h
  split at h
  · cases h
  · rename_i nx _
    cases hw : wayTo nx b (L.length + 1) a with
    | none => rw [hw] at h; cases h
    | some q =>
      rw [hw] at h
      cases h
      exact ⟨q, rfl, wayTo_last _ _ _ _ _ hw⟩
/-- All steps are about pairs that are told, or that a step says. -/
theorem stepsI_had {L : List (List Nat)} {E : Edges} (hL : LnkIs L E) {told : List Pr} {argp : Pr → List Pr} (hi : ∀ p, ∀ q ∈ argp p, InN L.length q) (h4 : ∀ p, (argp p).length ≤ 4) (ho : ∀ p, ∀ q ∈ argp p, q.1 ≤ q.2)
    (hQ : ∀ x y, AdjE E x y → ordP x y ∉ told → ∀ q ∈ argp (ordP x y), Conn E q.1 q.2 ∧ q.1 < L.length ∧ q.2 < L.length) : ∀ (f i : Nat) (S : List Stq) (G : List Pr) (S' : List Stq), G.Nodup → (∀ q ∈ G, Conn E q.1 q.2 ∧ q.1 < L.length ∧ q.2 < L.length) → (∀ q ∈ G, q.1 ≤ q.2) →
    Abt told L.length S G → (∀ j g, j < i → G[j]? = some g → Had told S g) → S.length ≤ 2 * L.length * i → i ≤ G.length → stepsI L told argp f i S G = some S' → (∀ st ∈ S', ∀ q ∈ st.2, Had told S' q) ∧ (∀ st ∈ S', StIn L.length st) ∧ (∀ st ∈ S', st.2.length ≤ 4) ∧ S'.length ≤ 2 * L.length * (L.length * L.length)
  | 0, i, S, G, S', _, _, _, _, _, _, _, h => by simp [stepsI] at h
  | f + 1, i, S, G, S', hnd, hG, hGo, hA, hd, hSl, hil, h => by
    rw [stepsI] at h
    split at h
    · rename_i hg
      cases h
      have hge : G.length ≤ i := by simpa using hg
      refine ⟨fun st hst q hq => ?_, hA.inn, hA.four, ?_⟩
      · rcases hA.pre st hst q hq with k | k
        · exact k
        · obtain ⟨j, hj, e⟩ := List.getElem_of_mem k
          exact hd j q (by omega) (by rw [← e]; exact List.getElem?_eq_getElem hj)
      · have := pairs_le hnd (fun q hq => (hG q hq).2)
        exact Nat.le_trans hSl (Nat.mul_le_mul_left _ (by omega))
    · rename_i g hg
      split at h
      · cases h
      · rename_i p hp
        have hgm : g ∈ G := List.mem_of_getElem? hg
        obtain ⟨hgc, hg1, hg2⟩ := hG g hgm
        obtain ⟨p0, hp0, hp1, hp2, hp3, hp4⟩ := path_ok hL hgc hg1 hg2
        rw [hp0] at hp
        cases hp
        have hh0 : Had told S (ordP g.1 g.1) := .inr (.inl (by simp [ordP]))
        obtain ⟨k1, k2, k3, k4, k5⟩ := stepsK_had hi h4 g.1 hg1 (g.1 :: p0) true S G (fun x r e => by simp at e; obtain ⟨rfl, rfl⟩ := e; exact ⟨fun _ => rfl, hh0⟩) hp4 hA
        obtain ⟨n1, n2, ⟨u, n3⟩, _⟩ := stepsK_ok (Q := fun q => Conn E q.1 q.2 ∧ q.1 < L.length ∧ q.2 < L.length) hQ g.1 (g.1 :: p0) true S G hp3 hnd hG
        have hil2 : i < G.length := (List.getElem?_eq_some_iff.1 hg).1
        have hpl : (g.1 :: p0).length ≤ L.length := nodup_le hp1 hp4
        refine stepsI_had hL hi h4 ho hQ f (i + 1) _ _ S' n1 n2 (fun q hq => ?_) k1 (fun j g' hj hg' => ?_) ?_ ?_ h
        · have : ∀ (p : List Nat) (t : Bool) (S : List Stq) (G : List Pr), (∀ q ∈ G, q.1 ≤ q.2) → ∀ q ∈ (stepsK told argp g.1 t p S G).2, q.1 ≤ q.2 := by
            intro p
            induction p with
            | nil => intro t S G hG q hq; simp only [stepsK] at hq; exact hG q hq
            | cons x r ih =>
              intro t S G hG q hq
              cases r with
              | nil => simp only [stepsK] at hq; exact hG q hq
              | cons y r =>
                rw [stepsK] at hq
                refine ih _ _ _ (fun q' hq' => ?_) q hq
                split at hq'
                · exact hG q' hq'
                · rcases (addP_sub _ _).2.2 q' hq' with e | e
                  · exact hG q' e
                  · exact ho _ q' e
          exact this _ _ _ _ hGo q hq
        · rw [n3] at hg'
          by_cases hji : j < i
          · rw [List.getElem?_append_left (by omega)] at hg'
            exact (hd j g' hji hg').mono k2
          · have : j = i := by omega
            subst this
            rw [List.getElem?_append_left (by omega), hg] at hg'
            cases hg'
            have := k4 g.2 hp2
            rw [ordP_self (hGo g hgm)] at this
            exact this
        · have e : 2 * L.length * (i + 1) = 2 * L.length * i + 2 * L.length := by rw [Nat.mul_add, Nat.mul_one]
          omega
        · rw [n3]
          simp
          omega
theorem stepsN_had {L : List (List Nat)} {E : Edges} (hL : LnkIs L E) {told : List Pr} {argp : Pr → List Pr} (hi : ∀ p, ∀ q ∈ argp p, InN L.length q) (h4 : ∀ p, (argp p).length ≤ 4) (ho : ∀ p, ∀ q ∈ argp p, q.1 ≤ q.2)
    (hQ : ∀ x y, AdjE E x y → ordP x y ∉ told → ∀ q ∈ argp (ordP x y), Conn E q.1 q.2 ∧ q.1 < L.length ∧ q.2 < L.length) {g : Pr} (hg : Conn E g.1 g.2) (hg1 : g.1 < L.length) (hg2 : g.2 < L.length) (hgo : g.1 ≤ g.2) {S : List Stq} (h : stepsN L told argp g = some S) :
    (∀ st ∈ S, ∀ q ∈ st.2, Had told S q) ∧ (∀ st ∈ S, StIn L.length st) ∧ (∀ st ∈ S, st.2.length ≤ 4) ∧ S.length ≤ 2 * L.length * (L.length * L.length) :=
  stepsI_had hL hi h4 ho hQ _ 0 [] [g] S (by simp) (fun q hq => by simp at hq; subst hq; exact ⟨hg, hg1, hg2⟩) (fun q hq => by simp at hq; subst hq; exact hgo) ⟨fun _ h => (nomatch h), fun _ h => (nomatch h), fun _ h => (nomatch h)⟩ (fun j _ hj => absurd hj (Nat.not_lt_zero _)) (by simp) (by simp) h
/-- How many of some pairs have no variable. -/
def remV (M : List Pr) (P : Pb) : Nat := M.countP fun a => (P.num a).isNone
theorem vari_num (P : Pb) (a b : Pr) : (P.vari a).2.num b = if P.num b = none ∧ a = b then some (P.count + 1) else P.num b := by
  unfold Pb.vari
  cases h : P.num a with
  | some x =>
    simp only
    split
    · rename_i k
      rw [k.2, k.1] at h
      cases h
    · rfl
  | none =>
    simp only
    rw [num_app (V := P.vars) (a := b) (b := a) (x := P.count + 1) { P with count := P.count + 1, vars := P.vars ++ [(a, P.count + 1)], lemmas := if a.1 = a.2 then P.lemmas ++ [[((P.count + 1 : Nat) : Int)]] else P.lemmas } rfl P rfl]
    by_cases hb : P.num b = none
    · by_cases hab : a = b
      · rw [if_pos hb, if_pos hab, if_pos ⟨hb, hab⟩]
      · rw [if_pos hb, if_neg hab, if_neg (fun k => hab k.2), hb]
    · rw [if_neg hb, if_neg (fun k => hb k.1)]
/-- How a problem grows: M are the pairs that may get a variable, j is how many lemmas come besides. -/
structure Gr (M : List Pr) (j : Nat) (P Q : Pb) : Prop where
  cnt : P.count ≤ Q.count
  rem : Q.count + remV M Q ≤ P.count + remV M P
  vars : Q.vars.length + P.count = P.vars.length + Q.count
  lem : Q.lemmas.length + P.count ≤ P.lemmas.length + Q.count + j
  kn : Q.known.length ≤ P.known.length + j
theorem Gr.refl (M : List Pr) (P : Pb) : Gr M 0 P P := ⟨Nat.le_refl _, Nat.le_refl _, rfl, Nat.le_refl _, Nat.le_refl _⟩
theorem Gr.trans {M : List Pr} {i j : Nat} {P Q R : Pb} (h : Gr M i P Q) (k : Gr M j Q R) : Gr M (i + j) P R := by
  refine ⟨Nat.le_trans h.cnt k.cnt, Nat.le_trans k.rem h.rem, ?_, ?_, ?_⟩
  · have := h.vars; have := k.vars; omega
  · have := h.lem; have := k.lem; omega
  · have := h.kn; have := k.kn; omega
theorem Gr.count {M : List Pr} {j : Nat} {P Q : Pb} (h : Gr M j P Q) : Q.count ≤ P.count + M.length := by
  have := h.rem
  have : remV M P ≤ M.length := List.countP_le_length
  omega
theorem remV_vari (M : List Pr) (P : Pb) (a : Pr) (hM : a ∈ M) (h0 : P.num a = none) : remV M (P.vari a).2 + 1 ≤ remV M P := by
  unfold remV
  induction M with
  | nil => cases hM
  | cons b M ih =>
    have hle : ∀ M : List Pr, M.countP (fun a' => ((P.vari a).2.num a').isNone) ≤ M.countP (fun a' => (P.num a').isNone) := fun M => by
      refine List.countP_mono_left fun x _ hx => ?_
      rw [vari_num] at hx
      split at hx
      · simp at hx
      · exact hx
    rw [List.countP_cons, List.countP_cons]
    by_cases hab : b = a
    · subst hab
      have e1 : ((P.vari b).2.num b).isNone = false := by rw [vari_num, if_pos ⟨h0, rfl⟩]; rfl
      have e2 : (P.num b).isNone = true := by rw [h0]; rfl
      rw [e1, e2]
      have := hle M
      simp
      omega
    · have e1 : ((P.vari a).2.num b).isNone = (P.num b).isNone := by rw [vari_num, if_neg (fun k => hab k.2.symm)]
      rw [e1]
      have := ih (by rcases List.mem_cons.1 hM with h | h; exact absurd h.symm hab; exact h)
      omega
theorem Gr.vari (M : List Pr) (P : Pb) (a : Pr) (h : P.num a ≠ none ∨ a ∈ M) : Gr M 0 P (P.vari a).2 := by
  cases hn : P.num a with
  | some x =>
    have : (P.vari a).2 = P := by unfold Pb.vari; rw [hn]
    rw [this]
    exact Gr.refl M P
  | none =>
    have hM : a ∈ M := h.resolve_left (fun k => k hn)
    have e : (P.vari a).2 = { P with count := P.count + 1, vars := P.vars ++ [(a, P.count + 1)], lemmas := if a.1 = a.2 then P.lemmas ++ [[((P.count + 1 : Nat) : Int)]] else P.lemmas } := by unfold Pb.vari; rw [hn]
    have hr := remV_vari M P a hM hn
    refine ⟨?_, ?_, ?_, ?_, ?_⟩
    · rw [e]; exact Nat.le_succ _
    · have : (P.vari a).2.count = P.count + 1 := by rw [e]
      omega
    · rw [e]; simp; omega
    · rw [e]
      simp only
      split <;> simp <;> omega
    · rw [e]; exact Nat.le_refl _
theorem vari_keeps (P : Pb) (a b : Pr) (h : P.num b ≠ none) : (P.vari a).2.num b ≠ none := by
  rw [vari_num]
  split
  · simp
  · exact h
theorem prem_keeps : ∀ (r : List Pr) (P : Pb) (b : Pr), P.num b ≠ none → (Pb.prem r P).2.num b ≠ none
  | [], P, b, h => h
  | a :: r, P, b, h => by
    rw [Pb.prem]
    split
    · exact prem_keeps r P b h
    · exact prem_keeps r _ b (vari_keeps P a b h)
theorem Gr.prem (M : List Pr) : ∀ (r : List Pr) (P : Pb), (∀ q ∈ r, q.1 = q.2 ∨ P.num q ≠ none ∨ q ∈ M) → Gr M 0 P (Pb.prem r P).2
  | [], P, _ => Gr.refl M P
  | a :: r, P, h => by
    rw [Pb.prem]
    split
    · exact Gr.prem M r P (fun q hq => h q (by simp [hq]))
    · rename_i hne
      have h1 := Gr.vari M P a ((h a (by simp)).resolve_left hne)
      have h2 := Gr.prem M r (P.vari a).2 (fun q hq => by
        rcases h q (by simp [hq]) with k | k | k
        · exact .inl k
        · exact .inr (.inl (vari_keeps P a q k))
        · exact .inr (.inr k))
      exact h1.trans h2
theorem Gr.step (M : List Pr) (P : Pb) (st : Stq) (h1 : P.num st.1 ≠ none ∨ st.1 ∈ M) (h2 : ∀ q ∈ st.2, q.1 = q.2 ∨ P.num q ≠ none ∨ q ∈ M) : Gr M 1 P (P.step st) ∧ ∀ b, P.num b ≠ none → (P.step st).num b ≠ none := by
  unfold Pb.step
  split
  · exact ⟨⟨Nat.le_refl _, Nat.le_refl _, rfl, Nat.le_succ _, Nat.le_succ _⟩, fun b h => h⟩
  · obtain ⟨P0, hP0⟩ : ∃ P0 : Pb, P0 = { P with known := P.known ++ [(st.1, pad4 st.2)] } := ⟨_, rfl⟩
    rw [← hP0]
    have hn : ∀ b, P0.num b = P.num b := fun b => by rw [hP0]; rfl
    have hr : remV M P0 = remV M P := by unfold remV; simp only [hn]
    have g1 := Gr.vari M P0 st.1 (by rw [hn]; exact h1)
    have g2 := Gr.prem M (pad4 st.2) (P0.vari st.1).2 (fun q hq => by
      rcases mem_pad4 hq with k | k
      · rcases h2 q k with e | e | e
        · exact .inl e
        · exact .inr (.inl (vari_keeps P0 _ _ (by rw [hn]; exact e)))
        · exact .inr (.inr e)
      · exact .inl (by rw [k]))
    have g := g1.trans g2
    have c0 : P0.count = P.count := by rw [hP0]
    have v0 : P0.vars = P.vars := by rw [hP0]
    have l0 : P0.lemmas = P.lemmas := by rw [hP0]
    have k0 : P0.known.length = P.known.length + 1 := by rw [hP0]; simp
    refine ⟨⟨?_, ?_, ?_, ?_, ?_⟩, fun b hb => ?_⟩
    · have := g.cnt; rw [c0] at this; exact this
    · have := g.rem; rw [c0, hr] at this; exact this
    · have := g.vars; rw [c0, v0] at this; exact this
    · have := g.lem; rw [c0, l0] at this; simp at this ⊢; omega
    · have := g.kn; rw [k0] at this; exact this
    · exact prem_keeps _ _ b (vari_keeps P0 _ _ (by rw [hn]; exact hb))
theorem Gr.steps (M : List Pr) : ∀ (S : List Stq) (P : Pb), (∀ st ∈ S, (P.num st.1 ≠ none ∨ st.1 ∈ M) ∧ ∀ q ∈ st.2, q.1 = q.2 ∨ P.num q ≠ none ∨ q ∈ M) → Gr M S.length P (S.foldl Pb.step P)
  | [], P, _ => Gr.refl M P
  | st :: S, P, h => by
    obtain ⟨g1, k1⟩ := Gr.step M P st (h st (by simp)).1 (h st (by simp)).2
    have g2 := Gr.steps M S (P.step st) (fun st' h' => by
      obtain ⟨a1, a2⟩ := h st' (by simp [h'])
      refine ⟨a1.imp (k1 _) id, fun q hq => ?_⟩
      rcases a2 q hq with e | e | e
      · exact .inl e
      · exact .inr (.inl (k1 _ e))
      · exact .inr (.inr e))
    have := g1.trans g2
    rw [List.foldl_cons, List.length_cons, Nat.add_comm]
    exact this
theorem missN_mem (P : Pb) : ∀ (S : List Stq) (ms : List Pr), (∀ q ∈ ms, q ∈ missN P S ms) ∧ ∀ st ∈ S, P.num st.1 ≠ none ∨ st.1 ∈ missN P S ms
  | [], ms => ⟨fun q h => h, fun _ h => nomatch h⟩
  | s :: r, ms => by
    rw [missN]
    obtain ⟨h1, h2⟩ := missN_mem P r (if (numV P.vars s.1).isSome then ms else addP ms [s.1])
    refine ⟨fun q hq => h1 q ?_, fun st hst => ?_⟩
    · split
      · exact hq
      · exact (addP_sub _ _).1 q hq
    · rcases List.mem_cons.1 hst with rfl | hst
      · by_cases hs : (numV P.vars st.1).isSome = true
        · refine .inl fun k => ?_
          have : numV P.vars st.1 = P.num st.1 := rfl
          rw [this, k] at hs
          cases hs
        · refine .inr (h1 _ ?_)
          rw [if_neg hs]
          exact (addP_sub _ _).2.1 _ (by simp)
      · exact h2 st hst
/-- Behind all steps of a proof there are no more variables than hasRoom has counted. -/
theorem Gr.proof {told : List Pr} {S : List Stq} (P : Pb) (ht : ∀ q ∈ told, P.num q ≠ none) (hS : ∀ st ∈ S, ∀ q ∈ st.2, Had told S q) (k : Nat) : Gr (missN P S []) (S.take k).length P ((S.take k).foldl Pb.step P) := by
  refine Gr.steps _ _ P fun st hst => ?_
  have hm := (missN_mem P S []).2
  have hst' : st ∈ S := List.mem_of_mem_take hst
  refine ⟨hm st hst', fun q hq => ?_⟩
  rcases hS st hst' q hq with e | e | ⟨s2, e1, e2⟩
  · exact .inr (.inl (ht q e))
  · exact .inl e
  · rw [← e2]
    exact .inr (hm s2 e1)
/-- The greatest, and then rising. -/
def Shp (ls : List Nat) : Prop := ∃ m r, ls = m :: r ∧ r.Pairwise (· < ·) ∧ ∀ x ∈ r, x < m
/-- A clause that Solve takes. -/
def ClOk (n : Nat) (c : List Int) : Prop := (c.length ≤ 12 ∨ (c.length ≤ 1000 ∧ Shp (c.map litN))) ∧ ∀ x ∈ c, x ≠ 0 ∧ x.natAbs ≤ n
theorem ClOk.mono {n m : Nat} {c : List Int} (h : ClOk n c) (hm : n ≤ m) : ClOk m c := ⟨h.1, fun x hx => ⟨(h.2 x hx).1, Nat.le_trans (h.2 x hx).2 hm⟩⟩
/-- A problem whose lemmas Solve takes. -/
structure Pk (P : Pb) : Prop where
  vars : ∀ e ∈ P.vars, 1 ≤ e.2 ∧ e.2 ≤ P.count
  lem : ∀ c ∈ P.lemmas, ClOk P.count c
theorem Pk.num {P : Pb} (h : Pk P) {a : Pr} {x : Nat} (hx : P.num a = some x) : 1 ≤ x ∧ x ≤ P.count := by
  unfold Pb.num at hx
  cases hf : P.vars.find? fun e => decide (e.1 = a) with
  | none => rw [hf] at hx; cases hx
  | some e =>
    rw [hf] at hx
    cases hx
    exact h.vars e (List.mem_of_find?_eq_some hf)
theorem Pk.vari {P : Pb} (h : Pk P) (a : Pr) : Pk (P.vari a).2 ∧ (1 ≤ (P.vari a).1 ∧ (P.vari a).1 ≤ (P.vari a).2.count) ∧ P.count ≤ (P.vari a).2.count := by
  unfold Pb.vari
  cases hn : P.num a with
  | some x => exact ⟨h, h.num hn, Nat.le_refl _⟩
  | none =>
    refine ⟨⟨fun e he => ?_, fun c hc => ?_⟩, ⟨Nat.le_add_left _ _, Nat.le_refl _⟩, Nat.le_succ _⟩
    · rcases List.mem_append.1 he with he | he
      · exact ⟨(h.vars e he).1, Nat.le_succ_of_le (h.vars e he).2⟩
      · simp at he
        subst he
        exact ⟨Nat.le_add_left _ _, Nat.le_refl _⟩
    · simp only at hc ⊢
      split at hc
      · rcases List.mem_append.1 hc with hc | hc
        · exact (h.lem c hc).mono (Nat.le_succ _)
        · simp at hc
          subst hc
          refine ⟨.inl (by simp), fun x hx => ?_⟩
          simp at hx
          subst hx
          omega
      · exact (h.lem c hc).mono (Nat.le_succ _)
theorem Pk.prem : ∀ (r : List Pr) (P : Pb), Pk P → Pk (Pb.prem r P).2 ∧ P.count ≤ (Pb.prem r P).2.count ∧ (Pb.prem r P).1.length ≤ r.length ∧ ∀ x ∈ (Pb.prem r P).1, x ≠ 0 ∧ x.natAbs ≤ (Pb.prem r P).2.count
  | [], P, h => ⟨h, Nat.le_refl _, Nat.le_refl _, fun _ h => nomatch h⟩
  | a :: r, P, h => by
    rw [Pb.prem]
    split
    · obtain ⟨h1, h2, h3, h4⟩ := Pk.prem r P h
      exact ⟨h1, h2, Nat.le_succ_of_le h3, h4⟩
    · obtain ⟨v1, v2, v3⟩ := h.vari a
      obtain ⟨h1, h2, h3, h4⟩ := Pk.prem r (P.vari a).2 v1
      refine ⟨h1, Nat.le_trans v3 h2, by simpa using h3, fun x hx => ?_⟩
      rcases List.mem_cons.1 hx with rfl | hx
      · have := v2.1; have := v2.2; simp only; omega
      · exact h4 x hx
theorem pad4_len (ps : List Pr) : (pad4 ps).length = 4 := by simp [pad4]
theorem Pk.step {P : Pb} (h : Pk P) (st : Stq) : Pk (P.step st) := by
  unfold Pb.step
  split
  · exact h
  · have h0 : Pk { P with known := P.known ++ [(st.1, pad4 st.2)] } := ⟨h.vars, h.lem⟩
    generalize { P with known := P.known ++ [(st.1, pad4 st.2)] } = P0 at *
    obtain ⟨v1, v2, v3⟩ := h0.vari st.1
    obtain ⟨h1, h2, h3, h4⟩ := Pk.prem (pad4 st.2) (P0.vari st.1).2 v1
    refine ⟨h1.vars, fun c hc => ?_⟩
    rcases List.mem_append.1 hc with hc | hc
    · exact h1.lem c hc
    · simp at hc
      subst hc
      rw [pad4_len] at h3
      refine ⟨.inl (by simp; omega), fun x hx => ?_⟩
      rcases List.mem_cons.1 hx with rfl | hx
      · have := v2.1; have := v2.2; simp only; omega
      · exact h4 x hx
theorem Pk.steps : ∀ (S : List Stq) (P : Pb), Pk P → Pk (S.foldl Pb.step P)
  | [], _, h => h
  | st :: S, _, h => Pk.steps S _ (h.step st)
/-- The variables of some pairs, one after the other. -/
def Pb.names : List Pr → Pb → List Nat × Pb
  | [], P => ([], P)
  | a :: r, P => ((P.vari a).1 :: (Pb.names r (P.vari a).2).1, (Pb.names r (P.vari a).2).2)
theorem names_snoc : ∀ (r : List Pr) (a : Pr) (P : Pb), Pb.names (r ++ [a]) P = ((Pb.names r P).1 ++ [((Pb.names r P).2.vari a).1], ((Pb.names r P).2.vari a).2)
  | [], _, _ => rfl
  | b :: r, a, P => by
    rw [List.cons_append, Pb.names, names_snoc r a (P.vari b).2]
    rfl
theorem names_len : ∀ (r : List Pr) (P : Pb), (Pb.names r P).1.length = r.length
  | [], _ => rfl
  | a :: r, P => by rw [Pb.names, List.length_cons, names_len r, List.length_cons]
/-- Pairs that have their variables. -/
theorem names_had : ∀ (r : List Pr) (P : Pb), (∀ q ∈ r, P.num q ≠ none) → (Pb.names r P).2 = P ∧ (Pb.names r P).1 = r.map fun q => (P.num q).getD 0
  | [], _, _ => ⟨rfl, rfl⟩
  | a :: r, P, h => by
    have ha := h a (by simp)
    cases hn : P.num a with
    | none => exact absurd hn ha
    | some x =>
      have e : P.vari a = (x, P) := by unfold Pb.vari; rw [hn]
      obtain ⟨h1, h2⟩ := names_had r P (fun q hq => h q (by simp [hq]))
      rw [Pb.names, e]
      refine ⟨h1, ?_⟩
      rw [List.map_cons, hn, h2]
      rfl
/-- One lemma for a pair: it is so by these. -/
def Pb.whole (P : Pb) (a : Pr) (qs : List Pr) : Pb :=
  { (Pb.names qs (P.vari a).2).2 with lemmas := (Pb.names qs (P.vari a).2).2.lemmas ++ [((P.vari a).1 : Int) :: (Pb.names qs (P.vari a).2).1.map fun n : Nat => -(n : Int)] }
/-- The variables are numbered in the order in which their pairs came, each once. -/
structure NumOk (P : Pb) : Prop where
  cnt : P.count = P.vars.length
  at_ : ∀ (i : Nat) (e : Pr × Nat), P.vars[i]? = some e → e.2 = i + 1
  nd : (P.vars.map (·.1)).Nodup
theorem NumOk.num_some {P : Pb} (h : NumOk P) {a : Pr} {x : Nat} (hx : P.num a = some x) : 1 ≤ x ∧ P.vars[x - 1]? = some (a, x) := by
  unfold Pb.num at hx
  cases hf : P.vars.find? fun e => decide (e.1 = a) with
  | none => rw [hf] at hx; cases hx
  | some e =>
    rw [hf] at hx
    cases hx
    have he := List.mem_of_find?_eq_some hf
    have hea : e.1 = a := by simpa using List.find?_some hf
    obtain ⟨i, hi, e2⟩ := List.getElem_of_mem he
    have hg : P.vars[i]? = some e := by rw [← e2]; exact List.getElem?_eq_getElem hi
    have := h.at_ i e hg
    simp only
    rw [this]
    refine ⟨Nat.le_add_left _ _, ?_⟩
    rw [Nat.add_sub_cancel, hg]
    congr 1
    exact Prod.ext hea this
theorem num_none_iff (P : Pb) (a : Pr) : P.num a = none ↔ a ∉ P.vars.map (·.1) := by
  unfold Pb.num
  rw [Option.map_eq_none_iff, List.find?_eq_none]
  constructor
  · intro h k
    obtain ⟨e, he, rfl⟩ := List.mem_map.1 k
    exact h e he (by simp)
  · intro h e he k
    exact h (List.mem_map.2 ⟨e, he, by simpa using k⟩)
theorem NumOk.num_at {P : Pb} (h : NumOk P) {i : Nat} {a : Pr} {x : Nat} (hi : P.vars[i]? = some (a, x)) : P.num a = some (i + 1) := by
  cases hn : P.num a with
  | none => exact absurd (List.mem_map.2 ⟨(a, x), List.mem_of_getElem? hi, rfl⟩) ((num_none_iff P a).1 hn)
  | some y =>
    obtain ⟨h1, h2⟩ := h.num_some hn
    have h3 : (P.vars.map (·.1))[i]? = some a := by rw [List.getElem?_map, hi]; rfl
    have h4 : (P.vars.map (·.1))[y - 1]? = some a := by rw [List.getElem?_map, h2]; rfl
    have hlt : i < (P.vars.map (·.1)).length := (List.getElem?_eq_some_iff.1 h3).1
    have := (List.getElem?_inj hlt h.nd).1 (h3.trans h4.symm)
    congr 1
    omega
theorem NumOk.inj {P : Pb} (h : NumOk P) {a b : Pr} {x : Nat} (ha : P.num a = some x) (hb : P.num b = some x) : a = b := by
  have h1 := (h.num_some ha).2
  have h2 := (h.num_some hb).2
  rw [h1] at h2
  cases h2
  rfl
theorem NumOk.vari {P : Pb} (h : NumOk P) (a : Pr) : NumOk (P.vari a).2 ∧ (P.vari a).2.vars.map (·.1) = addP (P.vars.map (·.1)) [a] := by
  unfold Pb.vari
  cases hn : P.num a with
  | some x =>
    refine ⟨h, ?_⟩
    have : a ∈ P.vars.map (·.1) := by
      refine Classical.byContradiction fun k => ?_
      rw [(num_none_iff P a).2 k] at hn
      cases hn
    simp only [addP, if_pos this]
  | none =>
    have hno := (num_none_iff P a).1 hn
    refine ⟨⟨?_, fun i e hi => ?_, ?_⟩, ?_⟩
    · simp [h.cnt]
    · simp only at hi
      by_cases hlt : i < P.vars.length
      · rw [List.getElem?_append_left hlt] at hi
        exact h.at_ i e hi
      · rw [List.getElem?_append_right (by omega)] at hi
        have : i - P.vars.length = 0 := by
          have := (List.getElem?_eq_some_iff.1 hi).1
          simp at this
          omega
        rw [this] at hi
        simp at hi
        subst hi
        simp only [h.cnt]
        omega
    · simp only [List.map_append, List.map_cons, List.map_nil]
      rw [List.nodup_append]
      refine ⟨h.nd, by simp, fun x hx y hy => ?_⟩
      simp only [List.mem_singleton] at hy
      subst hy
      exact fun e => hno (e ▸ hx)
    · simp only [List.map_append, List.map_cons, List.map_nil, addP, if_neg hno]
theorem addP_app (l : List Pr) : ∀ (r s : List Pr), addP l (r ++ s) = addP (addP l r) s := by
  intro r
  induction r generalizing l with
  | nil => intro s; rfl
  | cons a r ih => intro s; exact ih _ s
theorem NumOk.names : ∀ (r : List Pr) (P : Pb), NumOk P → NumOk (Pb.names r P).2 ∧ (Pb.names r P).2.vars.map (·.1) = addP (P.vars.map (·.1)) r
  | [], P, h => ⟨h, rfl⟩
  | a :: r, P, h => by
    obtain ⟨h1, h2⟩ := h.vari a
    obtain ⟨h3, h4⟩ := NumOk.names r (P.vari a).2 h1
    refine ⟨h3, ?_⟩
    rw [Pb.names]
    simp only
    rw [h4, h2]
    exact (addP_app _ [a] r).symm
end Go.Proofs.YtlehlgipbhfioaaGreat

namespace Go.Proofs.YtlehlgipbhfioaaGreat
open Go.RowKit Go.Maps

theorem st_cell {w : World} {st : List (Nat × Obj)} (hs : Sat st w) {b : Nat} {c : Array Value} {t : TypeId} (hm : (b, Obj.cells c t) ∈ st) (j : Nat) : w.cell? ⟨b, j, none⟩ = c[j]? := by
  have := hs _ hm
  simp [World.cell?, this]

/-- A signature becomes unknown again. -/
theorem Cz.drop {w : World} {base : Nat} {l : List Tm} {z : Zs} (h : Cz w base l z) {s : Tm} (hs : Sk s) (ty : TypeId) :
    ∃ w', (Builtin.delete_ #[68, 98] ty #[.map (some z.mb), sigV s]).run Tryz.prog w = .ok (.tuple #[]) w' ∧ Cz w' base l { z with kn := fun u => if u = s then none else z.kn u, ms := z.ms - (if (z.kn s).isSome then 1 else 0) } ∧ Kept1 z.mb w w' := by
  obtain ⟨D, d1, d2, d3⟩ := h.known
  obtain ⟨w', hr, ho, hturn⟩ := World.ownsMap.drop d1 gLaw Tryz.underlying68 (gkey_of hs.ok) ty
  have K : Kept1 z.mb w w' := Kept1.of_grown hturn.grown
  have A := h.apart
  have tidy := World.ownsMap.tidy d1 gLaw
  refine ⟨w', hr, ⟨h.cls.of_block (K.block _ h.cls.lt A.km), h.sets.other K A.pm A.nm (fun k hk e => A.jm (by rw [hk, e])), h.terms.of_block (K.block _ h.terms.lt A.mt.symm), h.uses.of_block (K.block _ h.uses.lt A.um), ⟨_, mapIs_of ho, ?_, ?_⟩,
    ownsRow_blockC h.back (fun k hk => K.block k (h.back.lt k hk).2 (fun e => A.mb (by rw [hk, e]))), fun x hx => (K.block x.1 (h.st_lt hx) (fun e => (h.far x hx).2 (.inr (.inr (.inr (.inl e)))))).trans (h.sat x hx), h.far, h.argsAt, h.usesAt, h.bd, h.oks, h.len, h.bp, h.bt, h.bu, h.bm⟩, K⟩
  · have := size_del (k := gkey s) tidy
    show _ ≤ z.ms - (if (z.kn s).isSome then 1 else 0)
    by_cases e : (z.kn s).isSome = true
    · rw [(d3 s hs).1, e, if_pos rfl] at this
      rw [if_pos e]
      omega
    · rw [if_neg e]
      omega
  · intro u hu
    show Says _ (gkey u) (if u = s then none else z.kn u)
    by_cases e : u = s
    · subst e
      rw [if_pos rfl]
      exact Says.del_same
    · rw [if_neg e]
      exact (d3 u hu).del_other (fun x => e (gkey_inj hu hs x))

set_option maxHeartbeats 1000000 in
set_option maxRecDepth 100000 in
theorem del_in (w : World) (base : Nat) (l : List Tm) (z : Zs) (h : Cz w base l z) (s : Tm) (hs : Sk s) (bc bx : Nat) (hc : (bc, Obj.cells #[.pointer (some ⟨z.pk, 0, none⟩)] 57) ∈ z.st) (hx : (bx, Obj.cells (sigL s).toArray 98) ∈ z.st) :
    Calls Tryz.prog 75 #[.pointer (some ⟨bc, 0, none⟩), .pointer (some ⟨bx, 0, none⟩)] w fun e w' => e = .returned (.tuple #[]) ∧ Cz w' base l { z with kn := fun u => if u = s then none else z.kn u, ms := z.ms - (if (z.kn s).isSome then 1 else 0) } ∧ Kept1 z.mb w w' := by
  have x0 : w.cell? ⟨bc, 0, none⟩ = some (.pointer (some ⟨z.pk, 0, none⟩)) := st_cell h.sat hc 0
  have y0 : w.cell? ⟨bx, 0, none⟩ = some (.string s.name) := st_cell h.sat hx 0
  have y1 : w.cell? ⟨bx, 1, none⟩ = some (.int .i64 (s.arg 0 : Int)) := st_cell h.sat hx 1
  have y2 : w.cell? ⟨bx, 2, none⟩ = some (.int .i64 (s.arg 1 : Int)) := st_cell h.sat hx 2
  have y3 : w.cell? ⟨bx, 3, none⟩ = some (.int .i64 (s.arg 2 : Int)) := st_cell h.sat hx 3
  have y4 : w.cell? ⟨bx, 4, none⟩ = some (.int .i64 (s.arg 3 : Int)) := st_cell h.sat hx 4
  have k3 := h.k3
  obtain ⟨w', hr, H', K'⟩ := h.drew.drop hs 0
  have hV : sigV s = .agg #[.string s.name, .int .i64 (s.arg 0 : Int), .int .i64 (s.arg 1 : Int), .int .i64 (s.arg 2 : Int), .int .i64 (s.arg 3 : Int)] := rfl
  rw [hV] at hr
  clear h hc hx hV
  go_enter Tryz.func75, Tryz.ntmps75
  go_wp2_with fail
  go_region
  all_goals
    go_end0
    exact ⟨rfl, H', (Kept.refl _ w).drew.trans K'⟩

/-- Joins of the Sets are taken back. -/
theorem Cz.undo {w : World} {base : Nat} {l : List Tm} {z : Zs} (h : Cz w base l z) (m : Int) :
    Calls Tryz.prog 74 #[.pointer (some ⟨z.ps, 0, none⟩), .int .i64 m] w fun e w' => e = .returned (.bool (undoes z.t m)) ∧ ∃ jv', jv'.ownBlock = z.jv.ownBlock ∧ Cz w' base l { z with jv := jv', g := Uf.back z.g z.t (undoK z.t m), t := z.t.drop (undoK z.t m) } ∧ Kept (Foot z.ps z.nb z.jv) w w' := by
  refine (Undo_st w base z.ps z.nb z.jv l.length z.g z.t h.sets m).mono ?_
  rintro e w' ⟨he, jv', hS, K, hloc⟩
  have A := h.apart
  obtain ⟨D, d1, d2, d3⟩ := h.known
  refine ⟨he, jv', hloc, ⟨h.cls.of_block (K.block _ h.cls.lt ?_), hS, h.terms.of_block (K.block _ h.terms.lt ?_), h.uses.of_block (K.block _ h.uses.lt ?_), ⟨D, mapIs_block d1 (K.block _ (World.ownsMap.lt d1) ?_), d2, d3⟩, ownsRow_blockC h.back (fun k hk => K.block k (h.back.lt k hk).2 ?_), fun x hx => (K.block x.1 (h.st_lt hx) (fun e => (h.far x hx).2 (.inr (.inl e)))).trans (h.sat x hx), fun x hx => ⟨(h.far x hx).1, fun hk => ?_⟩, h.argsAt, h.usesAt, h.bd, h.oks, h.len, h.bp, h.bt, h.bu, h.bm⟩, K⟩
  · rintro (e | e | e)
    · exact A.kp e
    · exact A.kn e
    · exact A.kj e
  · rintro (e | e | e)
    · exact A.pt e.symm
    · exact A.nt e.symm
    · exact A.jt e
  · rintro (e | e | e)
    · exact A.pu e.symm
    · exact A.nu e.symm
    · exact A.ju e
  · rintro (e | e | e)
    · exact A.pm e.symm
    · exact A.nm e.symm
    · exact A.jm e
  · rintro (e | e | e)
    · exact A.pb (by rw [hk, e])
    · exact A.nb (by rw [hk, e])
    · exact A.jb k e hk
  · refine (h.far x hx).2 ?_
    rcases hk with e | (e | e | e) | e | e | e
    · exact .inl e
    · exact .inr (.inl (.inl e))
    · exact .inr (.inl (.inr (.inl e)))
    · exact .inr (.inl (.inr (.inr (by rw [← hloc]; exact e))))
    · exact .inr (.inr (.inl e))
    · exact .inr (.inr (.inr (.inl e)))
    · exact .inr (.inr (.inr (.inr e)))

set_option maxHeartbeats 1000000 in
set_option maxRecDepth 100000 in
theorem undo_in (w : World) (base : Nat) (l : List Tm) (z : Zs) (h : Cz w base l z) (low mark : Nat) (old : Value) (ys : List Nat) (hlow : low < l.length) (hold : UseIs z.st old ys) (bc bm bo bl : Nat) (hc : (bc, Obj.cells #[.pointer (some ⟨z.pk, 0, none⟩)] 57) ∈ z.st) (hm : (bm, Obj.cells #[.int .i64 (mark : Int)] 3) ∈ z.st) (ho : (bo, Obj.cells #[old] 110) ∈ z.st) (hl : (bl, Obj.cells #[.int .i64 (low : Int)] 3) ∈ z.st) :
    Calls Tryz.prog 73 #[.pointer (some ⟨bc, 0, none⟩), .pointer (some ⟨bm, 0, none⟩), .pointer (some ⟨bo, 0, none⟩), .pointer (some ⟨bl, 0, none⟩)] w fun e w' => e = .returned (.tuple #[]) ∧ ∃ jv', jv'.ownBlock = z.jv.ownBlock ∧ Cz w' base l { z with jv := jv', g := Uf.back z.g z.t (undoK z.t mark), t := z.t.drop (undoK z.t mark), uv := fun i => if i = low then old else z.uv i, us := fun i => if i = low then ys else z.us i } ∧ Kept (fun k => Foot z.ps z.nb z.jv k ∨ k = z.ub) w w' := by
  have x0 : w.cell? ⟨bc, 0, none⟩ = some (.pointer (some ⟨z.pk, 0, none⟩)) := st_cell h.sat hc 0
  have x1 : w.cell? ⟨bm, 0, none⟩ = some (.int .i64 (mark : Int)) := st_cell h.sat hm 0
  have k0 := h.k0
  have UN := fun m => (h.drewN m).undo (mark : Int)
  have hlen := h.len
  go_enter Tryz.func73, Tryz.ntmps73
  go_wp2_with fail
  go_cut [9] from 4 to 9 (fun v wx => v = .bool (undoes z.t mark) ∧ ∃ jv', jv'.ownBlock = z.jv.ownBlock ∧ Cz wx base l { z with jv := jv', g := Uf.back z.g z.t (undoK z.t mark), t := z.t.drop (undoK z.t mark) } ∧ Kept (Foot z.ps z.nb z.jv) w wx)
  case first =>
    go_region_with (go_at_call 74; refine (UN 1).mono ?_; rintro e w2 ⟨rfl, jv', hj, H2, K2⟩)
    all_goals
      go_wp2_with fail
      go_meet
      case rel =>
        have K2' : Kept (Foot z.ps z.nb z.jv) (w.drewN 1) w2 := K2
        exact ⟨rfl, jv', hj, H2, ((Kept.refl _ w).drewN 1).trans K2'⟩
  case rest =>
    obtain ⟨rfl, jv', hj, H2, K2⟩ := hcut
    obtain ⟨oa, oc, hof⟩ := hold.form
    subst hof
    have y0 : wc.cell? ⟨bc, 0, none⟩ = some (.pointer (some ⟨z.pk, 0, none⟩)) := st_cell H2.sat hc 0
    have y1 : wc.cell? ⟨bl, 0, none⟩ = some (.int .i64 (low : Int)) := st_cell H2.sat hl 0
    have y2 : wc.cell? ⟨bo, 0, none⟩ = some (.slice oa ys.length oc) := st_cell H2.sat ho 0
    have k2 : wc.cell? ⟨z.pk, 2, none⟩ = some (.slice (some ⟨z.ub, 0, none⟩) l.length l.length) := H2.k2
    have ul := H2.u hlow
    have fu := H2.uses.frozen low
    have H3 := (H2.setUse low (.slice oa ys.length oc) ys hold).1
    have K3 := Kept.setCell (S := fun k => Foot z.ps z.nb z.jv k ∨ k = z.ub) (p := ⟨z.ub, low, none⟩) (Kept.mono K2 (fun _ _ e => .inl e)) (.inr rfl) (.slice oa ys.length oc)
    clear UN x0 x1 k0 h hc hm ho hl hold
    go_wp2_with fail
    go_region
    all_goals
      go_end0
      exact ⟨rfl, jv', hj, H3.drew, K3.drew⟩

end Go.Proofs.YtlehlgipbhfioaaGreat

namespace Go.Proofs.YtlehlgipbhfioaaGreat
open Go.RowKit Go.Shelf

attribute [local go_sem] Oper.semAt_some

set_option maxHeartbeats 1000000 in
theorem kBw_in (F : Fence) (n : Nat) (h5 : F.fn 255) (hro : F.round = none) (a : Option Addr) (len cap : Nat) (w : World) :
    CallsIn F n Tryz.prog 255 #[.slice a len cap] w fun e w' => e = .returned (.func (.func 258) #[] #[.pointer (some ⟨w.heap.size, 0, none⟩)]) ∧ w' = w.alloc (.cells #[.slice a len cap] 69) := by
  refine callsIn_of_wp Tryz.func255 rfl h5 ?_ hro
  simp only [Tryz.ntmps255, List.size_toArray, List.length_cons, List.length_nil, Nat.reduceAdd, Nat.reduceSub, Array.replicate_succ, Array.replicate_zero, List.push_toArray, List.append_toArray, List.nil_append, List.cons_append]
  gi_wp2
  go_ret
  exact ⟨rfl, rfl⟩

/-- What a round keeps: what lay below n₀, but for the nodes. -/
abbrev KeptS (S : Nat → Prop) (n₀ : Nat) (w w' : World) : Prop := Kept (fun k => S k ∨ n₀ ≤ k) w w'

def encK (fs : Nat → Value) (x : Nat) : Array Value := #[.int .i64 (x : Int), fs x]

set_option maxRecDepth 100000 in
set_option maxHeartbeats 2000000 in
theorem kBack1_in (F : Fence) (n : Nat) (h7 : F.fn 258) (hro : F.round = none) (hn : 1 ≤ n) (l Bs n₀ : Nat) (S : Nat → Prop) (b off len cap : Nat) (fs : Nat → Value) (hfs : ∀ j, j < len → ∃ fn ca, fs j = .func fn #[] ca) (hreach : len ≤ 100000) (hb : b < n₀) (hB : Bs < n₀) (hbn : ¬ S b) (hBn : ¬ S Bs) (J Jx : List { i : Nat // i < len } → World → Prop)
    (hY : ∀ pre x W, J pre W → pre.length < len → YieldAt F (n - 1) Tryz.prog l (encK fs x.1) W fun e W' =>
      (e = .returned (.bool true) ∧ J (pre ++ [x]) W' ∧ KeptS S n₀ W W') ∨ (e = .returned (.bool false) ∧ Jx (pre ++ [x]) W'))
    (W : World) (hn₀ : n₀ ≤ W.heap.size) (hBs : W.cell? ⟨Bs, 0, none⟩ = some (.slice (some ⟨b, off, none⟩) len cap))
    (hc : ∀ j, j < len → W.cell? ⟨b, off + j, none⟩ = some (fs j)) (h0 : J [] W) :
    CallsIn F n Tryz.prog 258 #[.func (.yield l) #[] #[], .pointer (some ⟨Bs, 0, none⟩)] W fun e W' => (∃ v, e = .returned v) ∧
      ((∃ ys, (Down len ys ∧ ys.length = len) ∧ J ys W') ∨ (∃ pre, True ∧ Jx pre W')) := by
  refine callsIn_of_wp Tryz.func258 rfl h7 ?_ hro
  simp only [Tryz.ntmps258, List.size_toArray, List.length_cons, List.length_nil, Nat.reduceAdd, Nat.reduceSub, Array.replicate_succ, Array.replicate_zero, List.push_toArray, List.append_toArray, List.nil_append, List.cons_append]
  gi_wp2
  gi_loopw [3] (fun i wr => ∃ pre : List { i : Nat // i < len }, pre.length ≤ len ∧ Down len pre ∧ i = .int .i64 ((len : Int) - 1 - pre.length) ∧ J pre wr ∧ KeptS S n₀ W wr)
    (fun i _ => (intOf i + 1).toNat)
  case atStart => exact ⟨[], Nat.zero_le _, Down.nil _, by simp, h0, Kept.refl _ _⟩
  case round =>
    obtain ⟨pre, hp, hd, rfl, hJs, hnx⟩ := hrel
    have hBs' : wr.cell? ⟨Bs, 0, none⟩ = some (.slice (some ⟨b, off, none⟩) len cap) := (World.cell?_of_block (a := ⟨Bs, 0, none⟩) (hnx.block Bs (by omega) (fun e => e.elim hBn (fun x => by omega)))).trans hBs
    by_cases hlt : pre.length < len
    · obtain ⟨k, hk⟩ : ∃ k : Nat, k + pre.length + 1 = len := ⟨len - 1 - pre.length, by omega⟩
      have hkl : k < len := by omega
      obtain ⟨fn, tmps, assign, body, hy, hR⟩ := hY pre ⟨k, hkl⟩ wr hJs hlt
      have e1 : ((len : Int) - 1 - pre.length) = (k : Int) := by omega
      rw [e1]
      have hcx := hc k hkl
      have c1 : wr.cell? ⟨b, off + k, none⟩ = some (fs k) := (World.cell?_of_block (a := ⟨b, off + k, none⟩) (hnx.block b (by omega) (fun e => e.elim hbn (fun x => by omega)))).trans hcx
      obtain ⟨fn0, ca0, hf0⟩ := hfs k hkl
      have HK : Hid (k + pre.length + 1 = len) := hk
      clear hk e1 hcx hc hY hBs
      unfold encK at hy
      rw [hf0] at hy c1
      clear hf0
      gi_wp2
      refine hR.mono ?_
      rintro e W3 (⟨rfl, hJ3, hk3⟩ | ⟨rfl, hJx3⟩)
      · gi_wp2
        go_roundw
        case rel => exact ⟨pre ++ [⟨k, hkl⟩], by simp; omega, hd.snoc _ HK.out, by have := HK.out; simp; omega, hJ3, hnx.trans (hk3.mono fun x _ hx => hx)⟩
        case measure => simp [intOf]
      · gi_wp2
        refine bodyPost_ret (results_none rfl _ _ _) rfl ?_
        exact ⟨⟨_, rfl⟩, .inr ⟨_, trivial, hJx3⟩⟩
    · have e1 : ((len : Int) - 1 - pre.length) = -1 := by omega
      rw [e1]
      have HE : Hid (pre.length = len) := by show pre.length = len; omega
      clear e1
      gi_wp2
      go_end0
      exact ⟨⟨_, rfl⟩, .inl ⟨_, ⟨hd, HE.out⟩, hJs⟩⟩

set_option maxRecDepth 100000 in
set_option maxHeartbeats 1000000 in
/-- .. at the nil slice: no round. -/
theorem kBack1_nil (F : Fence) (n : Nat) (h7 : F.fn 258) (hro : F.round = none) (l Bs : Nat) (J : List { i : Nat // i < 0 } → World → Prop) (W : World) (hBs : W.cell? ⟨Bs, 0, none⟩ = some (.slice none 0 0)) (h0 : J [] W) :
    CallsIn F n Tryz.prog 258 #[.func (.yield l) #[] #[], .pointer (some ⟨Bs, 0, none⟩)] W fun e W' => (∃ v, e = .returned v) ∧ J [] W' := by
  refine callsIn_of_wp Tryz.func258 rfl h7 ?_ hro
  simp only [Tryz.ntmps258, List.size_toArray, List.length_cons, List.length_nil, Nat.reduceAdd, Nat.reduceSub, Array.replicate_succ, Array.replicate_zero, List.push_toArray, List.append_toArray, List.nil_append, List.cons_append]
  gi_wp2
  gi_loopw [3] (fun i wr => i = .int .i64 (-1) ∧ J [] wr) (fun _ _ => 0)
  case atStart => exact ⟨rfl, h0⟩
  case round =>
    obtain ⟨rfl, hJs⟩ := hrel
    gi_wp2
    go_end0
    exact ⟨⟨_, rfl⟩, hJs⟩

/-- The slice value sv holds the steps fs, in a block below n₀; or it is nil and there are none. -/
def StepsAt (n₀ : Nat) (S : Nat → Prop) (W : World) (sv : Value) (len : Nat) (fs : Nat → Value) : Prop :=
  (sv = .slice none 0 0 ∧ len = 0) ∨ ∃ b off cap, sv = .slice (some ⟨b, off, none⟩) len cap ∧ b < n₀ ∧ ¬ S b ∧ (∀ j, j < len → ∃ fn ca, fs j = .func fn #[] ca) ∧
    ∀ j, j < len → W.cell? ⟨b, off + j, none⟩ = some (fs j)

theorem StepsAt.below {n₀ : Nat} {S : Nat → Prop} {A B : World} (h : Below n₀ A B) {sv : Value} {len : Nat} {fs : Nat → Value} : StepsAt n₀ S A sv len fs → StepsAt n₀ S B sv len fs
  | .inl e => .inl e
  | .inr ⟨b, off, cap, e, hb, hn, hf, hc⟩ => .inr ⟨b, off, cap, e, hb, hn, hf, fun j hj => (h.cell (p := ⟨b, off + j, none⟩) hb).trans (hc j hj)⟩

theorem kBw_stops (F : Fence) (n : Nat) (h7 : F.fn 258) (hro : F.round = none) (hn : 1 ≤ n) (Bs n₀ : Nat) (S : Nat → Prop) (sv : Value) (len : Nat) (fs : Nat → Value) (hreach : len ≤ 100000) (w : World) (hBs : Bs < n₀) (hBn : ¬ S Bs) (hn₀ : n₀ ≤ w.heap.size)
    (hc : w.cell? ⟨Bs, 0, none⟩ = some sv) (hI : StepsAt n₀ S w sv len fs) :
    SeqStopsK F n Tryz.prog 258 #[.pointer (some ⟨Bs, 0, none⟩)] (fun x : { i : Nat // i < len } => encK fs x.1) (KeptS S n₀) (fun ys => Down len ys ∧ ys.length = len) (fun _ => True) len w := fun l J Jx W hW _ _ hY h0 => by
  have hc' := (hW.cell (p := ⟨Bs, 0, none⟩) (by show Bs < _; omega)).trans hc
  rcases hI.below (hW.mono hn₀) with ⟨rfl, rfl⟩ | ⟨b, off, cap, rfl, hb, hbn, hf, hcs⟩
  · exact (kBack1_nil F n h7 hro l Bs J W hc' h0).mono fun e W' ⟨he, hj⟩ => ⟨he, .inl ⟨[], ⟨Down.nil _, rfl⟩, hj⟩⟩
  · exact kBack1_in F n h7 hro hn l Bs n₀ S b off len cap fs hf hreach hb hBs hbn hBn J Jx hY W (Nat.le_trans hn₀ hW.size) hc' hcs h0

end Go.Proofs.YtlehlgipbhfioaaGreat

namespace Go.Proofs.YtlehlgipbhfioaaGreat
open Go.RowKit Go.Maps

theorem Chain.bs {l : List Tm} {a b : Zs} (h : Chain l a b) : ∃ r, b.bs = a.bs ++ r := by
  induction h with
  | refl => exact ⟨[], by simp⟩
  | like n s bc bx v _ _ _ ih =>
    obtain ⟨r, hr⟩ := ih
    exact ⟨r ++ [delF bc bx], by show _ ++ _ = _; rw [hr, List.append_assoc]⟩
  | join low high bc bm bo bl jv st2 v bv _ _ _ _ ih =>
    obtain ⟨r, hr⟩ := ih
    exact ⟨r ++ [undoF bc bm bo bl], by show _ ++ _ = _; rw [hr, List.append_assoc]⟩
theorem Chain.same {l : List Tm} {a b : Zs} (h : Chain l a b) : b.pk = a.pk ∧ b.ps = a.ps ∧ b.nb = a.nb ∧ b.tb = a.tb ∧ b.ub = a.ub ∧ b.mb = a.mb ∧ b.av = a.av := by
  induction h with
  | refl => exact ⟨rfl, rfl, rfl, rfl, rfl, rfl, rfl⟩
  | like n s bc bx v _ _ _ ih => exact ih
  | join low high bc bm bo bl jv st2 v bv _ _ _ _ ih => exact ih

/-- The state z, but for what its closure says: that is y's. -/
def Zs.with (z y : Zs) (jv : Value) : Zs := { z with jv := jv, uv := y.uv, g := y.g, t := y.t, us := y.us, kn := y.kn, ms := y.ms }

/-- A step's closure, and how it changes the state. -/
inductive StepOf (l : List Tm) (z : Zs) : Value → Prop
  | del (bc bx : Nat) (s : Tm) : Sk s → (bc, Obj.cells #[.pointer (some ⟨z.pk, 0, none⟩)] 57) ∈ z.st → (bx, Obj.cells (sigL s).toArray 98) ∈ z.st → StepOf l z (delF bc bx)
  | undo (bc bm bo bl low mark : Nat) (old : Value) (ys : List Nat) : low < l.length → UseIs z.st old ys → (bc, Obj.cells #[.pointer (some ⟨z.pk, 0, none⟩)] 57) ∈ z.st → (bm, Obj.cells #[.int .i64 (mark : Int)] 3) ∈ z.st → (bo, Obj.cells #[old] 110) ∈ z.st → (bl, Obj.cells #[.int .i64 (low : Int)] 3) ∈ z.st → StepOf l z (undoF bc bm bo bl)

theorem Chain.steps {l : List Tm} {a b : Zs} (h : Chain l a b) : ∀ f, f ∈ b.bs.drop a.bs.length → StepOf l b f := by
  induction h with
  | refl => intro f hf; simp at hf
  | @like b n s bc bx v hc h1 h2 ih =>
    intro f hf
    have hm : ∀ f, StepOf l b f → StepOf l (likeZ b n s bc bx v) f := fun f hf => by
      cases hf with
      | del bc' bx' s' k1 k2 k3 => exact .del bc' bx' s' k1 (List.mem_append_left _ k2) (List.mem_append_left _ k3)
      | undo bc' bm bo bl low mark old ys k1 k2 k3 k4 k5 k6 => exact .undo bc' bm bo bl low mark old ys k1 (k2.mono (fun x hx => List.mem_append_left _ hx)) (List.mem_append_left _ k3) (List.mem_append_left _ k4) (List.mem_append_left _ k5) (List.mem_append_left _ k6)
    obtain ⟨r, hr⟩ := hc.bs
    have hd : (likeZ b n s bc bx v).bs.drop a.bs.length = b.bs.drop a.bs.length ++ [delF bc bx] := by
      show (b.bs ++ [delF bc bx]).drop a.bs.length = _
      rw [List.drop_append_of_le_length (by rw [hr]; simp)]
    rw [hd] at hf
    rcases List.mem_append.1 hf with hf | hf
    · exact hm f (ih f hf)
    · simp at hf
      subst hf
      exact .del bc bx s h2 (List.mem_append_right _ (by simp [delS, likeZ])) (List.mem_append_right _ (by simp [delS]))
  | @join b low high bc bm bo bl jv st2 v bv hc h1 h2 h3 ih =>
    intro f hf
    have sub : ∀ x ∈ b.st, x ∈ (joinZ l b low high bc bm bo bl jv st2 v bv).st := fun x hx => List.mem_append_left _ (List.mem_append_left _ hx)
    have hm : ∀ f, StepOf l b f → StepOf l (joinZ l b low high bc bm bo bl jv st2 v bv) f := fun f hf => by
      cases hf with
      | del bc' bx' s' k1 k2 k3 => exact .del bc' bx' s' k1 (sub _ k2) (sub _ k3)
      | undo bc' bm bo bl low mark old ys k1 k2 k3 k4 k5 k6 => exact .undo bc' bm bo bl low mark old ys k1 (k2.mono sub) (sub _ k3) (sub _ k4) (sub _ k5) (sub _ k6)
    obtain ⟨r, hr⟩ := hc.bs
    have hd : (joinZ l b low high bc bm bo bl jv st2 v bv).bs.drop a.bs.length = b.bs.drop a.bs.length ++ [undoF bc bm bo bl] := by
      show (b.bs ++ [undoF bc bm bo bl]).drop a.bs.length = _
      rw [List.drop_append_of_le_length (by rw [hr]; simp)]
    rw [hd] at hf
    rcases List.mem_append.1 hf with hf | hf
    · exact hm f (ih f hf)
    · simp at hf
      subst hf
      have su : ∀ x ∈ undoS b low bc bm bo bl, x ∈ (joinZ l b low high bc bm bo bl jv st2 v bv).st := fun x hx => List.mem_append_left _ (List.mem_append_right _ hx)
      exact .undo bc bm bo bl low b.t.length (b.uv low) (b.us low) h2 (h3.mono sub) (su _ (by simp [undoS, joinZ])) (su _ (by simp [undoS])) (su _ (by simp [undoS])) (su _ (by simp [undoS]))

theorem UseIs.inj {st : List (Nat × Obj)} {w : World} (hw : Sat st w) {v : Value} {xs ys : List Nat} (h : UseIs st v xs) (k : UseIs st v ys) : xs = ys := by
  obtain ⟨a1, c1, f1⟩ := h.form
  obtain ⟨a2, c2, f2⟩ := k.form
  have hl : xs.length = ys.length := by rw [f1] at f2; injection f2
  apply List.ext_getElem hl
  intro i h1 h2
  have q1 : xs[i]? = some xs[i] := List.getElem?_eq_getElem h1
  have q2 : ys[i]? = some ys[i] := List.getElem?_eq_getElem h2
  obtain ⟨b, off, cap, e1, _, g1⟩ := h.cell hw q1
  obtain ⟨b', off', cap', e2, _, g2⟩ := k.cell hw q2
  rw [e1] at e2
  injection e2 with e2 _ _
  injection e2 with e2
  injection e2 with e3 e4 _
  subst e3 e4
  have := g1 i _ q1
  rw [g2 i _ q2] at this
  simp at this
  omega

/-- The last step. -/
theorem Chain.last {l : List Tm} {a z : Zs} (h : Chain l a z) (hl : a.bs.length < z.bs.length) :
    ∃ b, Chain l a b ∧ Chain l b z ∧ z.bs.length = b.bs.length + 1 ∧ ((∃ n s bc bx v, z = likeZ b n s bc bx v ∧ b.kn s = none ∧ Sk s) ∨ (∃ low high bc bm bo bl jv st2 v bv, z = joinZ l b low high bc bm bo bl jv st2 v bv ∧ joins l.length b.g low high = true ∧ low < l.length ∧ UseIs b.st (b.uv low) (b.us low))) := by
  cases h with
  | refl => omega
  | @like b n s bc bx v hc h1 h2 => exact ⟨b, hc, .like n s bc bx v (.refl b) h1 h2, by show (b.bs ++ [_]).length = _; simp, .inl ⟨n, s, bc, bx, v, rfl, h1, h2⟩⟩
  | @join b low high bc bm bo bl jv st2 v bv hc h1 h2 h3 => exact ⟨b, hc, .join low high bc bm bo bl jv st2 v bv (.refl b) h1 h2 h3, by show (b.bs ++ [_]).length = _; simp, .inr ⟨low, high, bc, bm, bo, bl, jv, st2, v, bv, rfl, h1, h2, h3⟩⟩

/-- What is made unknown again was not known. -/
theorem like_back (b : Zs) (n : Nat) (s : Tm) (bc bx : Nat) (v : Value) (h : b.kn s = none) : (fun u => if u = s then none else (likeZ b n s bc bx v).kn u) = b.kn := by
  funext u
  by_cases e : u = s
  · rw [if_pos e, e, h]
  · rw [if_neg e]
    show (if u = s then some n else b.kn u) = b.kn u
    rw [if_neg e]

/-- A join that is taken back leaves all as it was. -/
theorem join_back (l : List Tm) (b : Zs) (low high : Nat) (h : joins l.length b.g low high = true) :
    undoK (joinT l.length b.g b.t low high) (b.t.length : Int) = 1 ∧ Uf.back (joinG l.length b.g low high) (joinT l.length b.g b.t low high) 1 = b.g ∧ (joinT l.length b.g b.t low high).drop 1 = b.t := by
  have ht : joinT l.length b.g b.t low high = ⟨(Uf.pick b.g low high).1, (b.g.N (Uf.pick b.g low high).2).lst, b.g⟩ :: b.t := by rw [joinT, h]; simp
  rw [ht]
  refine ⟨?_, ?_, rfl⟩
  · have hu : undoes (⟨(Uf.pick b.g low high).1, (b.g.N (Uf.pick b.g low high).2).lst, b.g⟩ :: b.t : List Uf.Rec) (b.t.length : Int) = true := decide_eq_true (by simp; omega)
    rw [undoK, hu, if_pos rfl, Int.toNat_natCast]
    simp
  · simp [Uf.back, back_zero]

end Go.Proofs.YtlehlgipbhfioaaGreat

namespace Go.Proofs.YtlehlgipbhfioaaGreat
open Go.RowKit Go.Shelf
attribute [local go_sem] Oper.semAt_some

theorem with_all {z y : Zs} {jv : Value} (hj : jv.ownBlock = z.jv.ownBlock) {k : Nat} (h : (z.with y jv).All k) : z.All k := by
  rcases h with (e | (e | e | e) | e | e | e) | e | e
  · exact .inl (.inl e)
  · exact .inl (.inr (.inl (.inl e)))
  · exact .inl (.inr (.inl (.inr (.inl e))))
  · exact .inl (.inr (.inl (.inr (.inr (by rw [← hj]; exact e)))))
  · exact .inl (.inr (.inr (.inl e)))
  · exact .inl (.inr (.inr (.inr (.inl e))))
  · exact .inl (.inr (.inr (.inr (.inr e))))
  · exact .inr (.inl e)
  · exact .inr (.inr e)
theorem with_foot {z y : Zs} {jv : Value} (hj : jv.ownBlock = z.jv.ownBlock) {k : Nat} (h : (z.with y jv).Foot k) : z.Foot k := by
  rcases h with e | (e | e | e) | e | e | e
  · exact .inl e
  · exact .inr (.inl (.inl e))
  · exact .inr (.inl (.inr (.inl e)))
  · exact .inr (.inl (.inr (.inr (by rw [← hj]; exact e))))
  · exact .inr (.inr (.inl e))
  · exact .inr (.inr (.inr (.inl e)))
  · exact .inr (.inr (.inr (.inr e)))

/-- What a step writes: not the row of steps itself. -/
def Zs.Wr (z : Zs) (k : Nat) : Prop := z.Foot k ∧ z.bv.ownBlock ≠ some k

/-- Between two rounds. -/
structure MidK (W0 : World) (base : Nat) (l : List Tm) (z z0 : Zs) (len : Nat) (pre : List { i : Nat // i < len }) (W : World) : Prop where
  st : ∃ (y : Zs) (jv : Value), jv.ownBlock = z.jv.ownBlock ∧ Cz W base l (z.with y jv) ∧ (Down len pre → ∃ zk, Chain l z0 zk ∧ Chain l zk z ∧ zk.bs.length + pre.length = z.bs.length ∧ y.uv = zk.uv ∧ y.g = zk.g ∧ y.t = zk.t ∧ y.us = zk.us ∧ y.kn = zk.kn ∧ y.ms = zk.ms)
  kept : KeptS z.Wr W0.heap.size W0 W
theorem midK_own (W0 : World) (base : Nat) (l : List Tm) (z z0 : Zs) (len : Nat) (h : Cz W0 base l z) : OwnFrom W0.heap.size (MidK W0 base l z z0 len) := by
  intro pre A B row hs hg hr
  obtain ⟨y, jv, h1, h2, h3⟩ := hs.st
  have K : Kept (fun k => some k = row) A B := ⟨hg.os, hg.tape, hg.output, hg.size, fun k hk hk2 => hg.block k hk hk2⟩
  refine ⟨⟨y, jv, h1, h2.keep K (fun k hk e => ?_), h3⟩, hs.kept.grown hg (fun k e => Or.inr (hr k e).1)⟩
  have a1 := h.all_lt (with_all h1 hk)
  have a2 := (hr k e.symm).1
  omega

/-- One step is taken back: the right one, or another. -/
theorem step_call {W : World} {base : Nat} {l : List Tm} {z z0 y : Zs} {jv : Value} (hj : jv.ownBlock = z.jv.ownBlock) (C : Cz W base l (z.with y jv)) {f : Value} (hf : StepOf l z f) :
    ∃ fn ca, f = .func (.func fn) #[] ca ∧ ((fn = 75 ∧ ∃ p q, ca = #[p, q]) ∨ (fn = 73 ∧ ∃ p q r s, ca = #[p, q, r, s])) ∧ Calls Tryz.prog fn ca W fun e W' => e = .returned (.tuple #[]) ∧ ∃ y' jv', jv'.ownBlock = z.jv.ownBlock ∧ Cz W' base l (z.with y' jv') ∧ Kept z.Wr W W' ∧
      (∀ zk, Chain l zk z → Chain l z0 zk → z0.bs.length < zk.bs.length → z.bs[zk.bs.length - 1]? = some f → y.uv = zk.uv → y.g = zk.g → y.t = zk.t → y.us = zk.us → y.kn = zk.kn → y.ms = zk.ms → ∃ b, Chain l z0 b ∧ Chain l b z ∧ b.bs.length + 1 = zk.bs.length ∧ y'.uv = b.uv ∧ y'.g = b.g ∧ y'.t = b.t ∧ y'.us = b.us ∧ y'.kn = b.kn ∧ y'.ms = b.ms) := by
  have A := C.apart
  have inv : ∀ {b : Nat} {o o' : Obj}, (b, o) ∈ z.st → (b, o') ∈ z.st → o = o' := fun h1 h2 => by
    have e1 := C.sat _ h1
    have e2 := C.sat _ h2
    rw [e1] at e2
    exact Option.some.inj e2
  cases hf with
  | del bc bx s k1 k2 k3 =>
    refine ⟨75, #[.pointer (some ⟨bc, 0, none⟩), .pointer (some ⟨bx, 0, none⟩)], rfl, .inl ⟨rfl, _, _, rfl⟩, (del_in W base l (z.with y jv) C s k1 bc bx k2 k3).mono ?_⟩
    rintro e W' ⟨he, C', K'⟩
    refine ⟨he, { y with kn := fun u => if u = s then none else y.kn u, ms := y.ms - (if (y.kn s).isSome then 1 else 0) }, jv, hj, C', Kept.mono K' (fun k _ e => ⟨.inr (.inr (.inr (.inl e))), fun h => A.mb (by rw [← e]; exact h)⟩), ?_⟩
    intro zk c1 c2 hl hx e1 e2 e3 e4 e5 e6
    obtain ⟨b, b1, b2, b3, hb⟩ := c2.last hl
    obtain ⟨r, hr⟩ := c1.bs
    rcases hb with ⟨n, s', bc', bx', v, rfl, q1, q2⟩ | ⟨low, high, bc', bm, bo, bl, jv2, st2, v, bv, rfl, q1, q2, q3⟩
    · have hlast : z.bs[(likeZ b n s' bc' bx' v).bs.length - 1]? = some (delF bc' bx') := by
        rw [hr]
        show ((b.bs ++ [delF bc' bx']) ++ r)[(b.bs ++ [delF bc' bx']).length - 1]? = _
        simp
      rw [hlast] at hx
      simp [delF] at hx
      obtain ⟨rfl, rfl⟩ := hx
      have hin : (bx', Obj.cells (sigL s').toArray 98) ∈ z.st := c1.st _ (List.mem_append_right _ (by simp [delS]))
      have hso := inv k3 hin
      simp only [Obj.cells.injEq, and_true] at hso
      have hss : s = s' := sigV_inj k1 q2 (by unfold sigV; rw [hso])
      subst hss
      refine ⟨b, b1, b2.trans c1, b3.symm, e1, e2, e3, e4, ?_, ?_⟩
      · show (fun u => if u = s then none else y.kn u) = b.kn
        rw [e5]
        exact like_back b n s bc' bx' v q1
      · show y.ms - (if (y.kn s).isSome then 1 else 0) = b.ms
        have e7 : y.kn s = some n := by rw [e5]; exact if_pos rfl
        rw [e6, e7]
        show b.ms + 1 - 1 = b.ms
        omega
    · exfalso
      have hlast : z.bs[(joinZ l b low high bc' bm bo bl jv2 st2 v bv).bs.length - 1]? = some (undoF bc' bm bo bl) := by
        rw [hr]
        show ((b.bs ++ [undoF bc' bm bo bl]) ++ r)[(b.bs ++ [undoF bc' bm bo bl]).length - 1]? = _
        simp
      rw [hlast] at hx
      simp [delF, undoF] at hx
  | undo bc bm bo bl low mark old ys k1 k2 k3 k4 k5 k6 =>
    refine ⟨73, #[.pointer (some ⟨bc, 0, none⟩), .pointer (some ⟨bm, 0, none⟩), .pointer (some ⟨bo, 0, none⟩), .pointer (some ⟨bl, 0, none⟩)], rfl, .inr ⟨rfl, _, _, _, _, rfl⟩, (undo_in W base l (z.with y jv) C low mark old ys k1 k2 bc bm bo bl k3 k4 k5 k6).mono ?_⟩
    rintro e W' ⟨he, jv', hj', C', K'⟩
    refine ⟨he, { y with g := Uf.back y.g y.t (undoK y.t mark), t := y.t.drop (undoK y.t mark), uv := fun i => if i = low then old else y.uv i, us := fun i => if i = low then ys else y.us i }, jv', hj'.trans hj, C', Kept.mono K' ?_, ?_⟩
    · rintro k _ (e | e)
      · refine ⟨with_foot (y := y) hj (.inr (.inl e)), fun h => ?_⟩
        rcases e with e | e | e
        · exact A.pb (by rw [← e]; exact h)
        · exact A.nb (by rw [← e]; exact h)
        · exact A.jb k e h
      · exact ⟨.inr (.inr (.inl e)), fun h => A.ub (by rw [← e]; exact h)⟩
    intro zk c1 c2 hl hx e1 e2 e3 e4 e5 e6
    obtain ⟨b, b1, b2, b3, hb⟩ := c2.last hl
    obtain ⟨r, hr⟩ := c1.bs
    rcases hb with ⟨n, s', bc', bx', v, rfl, q1, q2⟩ | ⟨low', high, bc', bm', bo', bl', jv2, st2, v, bv, rfl, q1, q2, q3⟩
    · exfalso
      have hlast : z.bs[(likeZ b n s' bc' bx' v).bs.length - 1]? = some (delF bc' bx') := by
        rw [hr]
        show ((b.bs ++ [delF bc' bx']) ++ r)[(b.bs ++ [delF bc' bx']).length - 1]? = _
        simp
      rw [hlast] at hx
      simp [delF, undoF] at hx
    · have hlast : z.bs[(joinZ l b low' high bc' bm' bo' bl' jv2 st2 v bv).bs.length - 1]? = some (undoF bc' bm' bo' bl') := by
        rw [hr]
        show ((b.bs ++ [undoF bc' bm' bo' bl']) ++ r)[(b.bs ++ [undoF bc' bm' bo' bl']).length - 1]? = _
        simp
      rw [hlast] at hx
      simp [undoF] at hx
      obtain ⟨rfl, rfl, rfl, rfl⟩ := hx
      have su : ∀ x ∈ undoS b low' bc' bm' bo' bl', x ∈ z.st := fun x hx => c1.st _ (List.mem_append_left _ (List.mem_append_right _ hx))
      have i1 := inv k4 (su (bm', .cells #[.int .i64 (b.t.length : Int)] 3) (by simp [undoS]))
      have i2 := inv k5 (su (bo', .cells #[b.uv low'] 110) (by simp [undoS]))
      have i3 := inv k6 (su (bl', .cells #[.int .i64 (low' : Int)] 3) (by simp [undoS]))
      simp at i1 i2 i3
      have i1' : mark = b.t.length := by omega
      have i3' : low = low' := by omega
      subst i1' i2 i3'
      have hys : ys = b.us low := UseIs.inj C.sat k2 (q3.mono (fun x hx => c1.st _ (List.mem_append_left _ (List.mem_append_left _ hx))))
      subst hys
      obtain ⟨j1, j2, j3⟩ := join_back l b low high q1
      have ht : y.t = joinT l.length b.g b.t low high := e3
      have hg : y.g = joinG l.length b.g low high := e2
      refine ⟨b, b1, b2.trans c1, b3.symm, ?_, ?_, ?_, ?_, e5, e6⟩
      · funext i
        show (if i = low then b.uv low else y.uv i) = b.uv i
        rw [e1]
        show (if i = low then b.uv low else if i = low then v else b.uv i) = b.uv i
        by_cases e : i = low
        · rw [if_pos e, e]
        · rw [if_neg e, if_neg e]
      · show Uf.back y.g y.t (undoK y.t (b.t.length : Int)) = b.g
        rw [ht, hg, j1, j2]
      · show y.t.drop (undoK y.t (b.t.length : Int)) = b.t
        rw [ht, j1, j3]
      · funext i
        show (if i = low then b.us low else y.us i) = b.us i
        rw [e4]
        show (if i = low then b.us low else if i = low then b.us low ++ b.us high else b.us i) = b.us i
        by_cases e : i = low
        · rw [if_pos e, e]
        · rw [if_neg e, if_neg e]

end Go.Proofs.YtlehlgipbhfioaaGreat
