/- Package decide: hasRoom. Package decide: rename. Package decide, plainly: what the steps of a proof are about; how many variables they want; in which order variables are numbered. Package decide: all. Package decide: isWhole. Package decide: a set of pointers to Forms: it answers something. Package decide: closed. Package decide: check, by what areFormulas and areMany answer. Package decide: told. Package decide: areFormulas. Package decide: told. Package decide: what wrong answers, plainly. Package decide, plainly: formulas of a problem; model, and what it learns. Package decide: areMany. DecideEqualities, plainly: of equalities there is a model. DecideEqualities, plainly: what follows. Package decide, plainly: model, enough, core, reckoned. law07: what alive comes to, reckoned. -/
import Derived.Test.YtlehlgipbhfioaaGreatDdQ
import Derived.LaidEql
import Derived.Test.YtlehlgipbhfioaaGreatP41
import Derived.Test.YtlehlgipbhfioaaGreatP45
import Derived.Test.YtlehlgipbhfioaaGreatP32
import Derived.Test.YtlehlgipbhfioaaGreatP34
import Derived.KernelRfl
namespace Go.Proofs.YtlehlgipbhfioaaGreat
open Go.RowKit Go.Maps

/-- The conclusions that have no variable. -/
def missN (P : Pb) : List Stq → List Pr → List Pr
  | [], ms => ms
  | s :: r, ms => missN P r (if (numV P.vars s.1).isSome then ms else addP ms [s.1])
theorem missN_len (P : Pb) : ∀ (r : List Stq) (ms : List Pr), (missN P r ms).length ≤ ms.length + r.length
  | [], ms => by simp [missN]
  | s :: r, ms => by
    rw [missN]
    refine Nat.le_trans (missN_len P r _) ?_
    split
    · simp
    · have := addP_len ms [s.1]
      simp at this ⊢
      omega
theorem stRow_len (S : List Stq) : (stRow S).length = S.length * 10 := by
  induction S with
  | nil => rfl
  | cons a S ih =>
    have e : stRow (a :: S) = stpV a.1 a.2 ++ stRow S := by simp [stRow]
    rw [e, List.length_append, ih, stpV_len]
    simp
    omega
theorem stRow_get : ∀ {S : List Stq} {j : Nat} {s : Stq} {x0 x1 x2 x3 x4 x5 x6 x7 x8 x9 : Nat}, S[j]? = some s → flat4 s.1 s.2 = [x0, x1, x2, x3, x4, x5, x6, x7, x8, x9] → ∀ (i : Nat) (u : Nat), [x0, x1, x2, x3, x4, x5, x6, x7, x8, x9][i]? = some u → (stRow S)[j * 10 + i]? = some (.int .i64 (u : Int))
  | [], j, s, _, _, _, _, _, _, _, _, _, _, h, _, _, _, _ => by simp at h
  | q :: l, 0, s, _, _, _, _, _, _, _, _, _, _, h, hf, i, u, hu => by
    simp at h
    subst h
    have e : stRow (q :: l) = stpV q.1 q.2 ++ stRow l := by simp [stRow]
    have hil : i < 10 := (List.getElem?_eq_some_iff.1 hu).1
    rw [e, Nat.zero_mul, Nat.zero_add, List.getElem?_append_left (by rw [stpV_len]; exact hil), stpV_flat, hf, List.getElem?_map, hu]
    rfl
  | q :: l, j + 1, s, _, _, _, _, _, _, _, _, _, _, h, hf, i, u, hu => by
    have := stRow_get (S := l) (j := j) (s := s) (by simpa using h) hf i u hu
    have e : stRow (q :: l) = stpV q.1 q.2 ++ stRow l := by simp [stRow]
    have e1 : (j + 1) * 10 + i = (stpV q.1 q.2).length + (j * 10 + i) := by rw [stpV_len]; omega
    rw [e, e1, List.getElem?_append_right (by omega), Nat.add_sub_cancel_left]
    exact this

set_option maxRecDepth 100000 in
set_option maxHeartbeats 1000000 in
theorem hasRoom_in (S : Nat → Prop) (w : World) (pb vb kb : Nat) (bk tv fv lv : Value) (P : Pb) (h : Pm S w pb vb kb bk tv fv lv P) (hc : P.count ≤ 100000) (base : Nat) (v : Value) (SF : List Stq) (hr : w.ownsRow base 206 10 v SF.length (stRow SF)) (hSl : SF.length ≤ 1000000000) (hok : ∀ s ∈ SF, PrOk s.1) :
    Calls Tryz.prog 94 #[.pointer (some ⟨pb, 0, none⟩), v] w fun e w' => e = .returned (.bool (decide (P.count + (missN P SF []).length ≤ 2000))) ∧ Below w.heap.size w w' := by
  have hmm := @run_makeMap Tryz.prog
  obtain ⟨va, vc, hv⟩ := ownsRow_form hr
  subst hv
  obtain ⟨n, hn⟩ : ∃ n, SF.length = n := ⟨_, rfl⟩
  have HN : Hid _ := hn
  have HI0 : Hid (∃ ms, MsIs (w.alloc (.map #[] 0)) w.heap.size ms ∧ Below w.heap.size w (w.alloc (.map #[] 0)) ∧ missN P (SF.drop 0) ms = missN P SF [] ∧ ms.length ≤ 0) := ⟨[], MsIs.new w, (Below.refl _ _).alloc (Nat.le_refl _) _, rfl, Nat.le_refl _⟩
  have HM : Hid (_ ∧ _ ∧ _) := And.intro h (And.intro hr hok)
  rw [hn] at hSl ⊢
  clear h hr hok hn
  go_enter Tryz.func94, Tryz.ntmps94
  go_wp2_with fail
  generalize w.alloc (.map #[] 0) = w1 at *
  obtain ⟨mb, hmb⟩ : ∃ m, w.heap.size = m := ⟨_, rfl⟩
  have HMB : Hid _ := hmb
  rw [hmb] at HI0
  simp only [hmb]
  clear hmb hmm
  go_loopw [13] (fun t13 W => ∃ i : Nat, i ≤ n ∧ t13 = .int .i64 (i : Int) ∧ Hid (∃ ms, MsIs W mb ms ∧ Below mb w W ∧ missN P (SF.drop i) ms = missN P SF [] ∧ ms.length ≤ i)) (fun t13 _ => n - (intOf t13).toNat)
  case atStart => exact ⟨0, Nat.zero_le _, rfl, HI0⟩
  case round =>
    obtain ⟨i, hi, rfl, HJ⟩ := hrel
    clear HI0
    obtain ⟨ms, hMs, hB, hmN, hml⟩ := HJ.out
    by_cases hlt : i < n
    · have di : decide ((i : Int) < (n : Int)) = true := decide_eq_true (by omega)
      have hwi : IntKind.i64.wrap ((i : Int) + 1) = (i : Int) + 1 := by rw [IntKind.wrap_i64]; omega
      have hil : i < SF.length := by rw [HN.out]; exact hlt
      have hge := List.getElem?_eq_getElem hil
      have hdr : SF.drop i = SF[i] :: SF.drop (i + 1) := List.drop_eq_getElem_cons hil
      have hsok := HM.out.2.2 SF[i] (List.getElem_mem hil)
      generalize SF[i] = s at *
      obtain ⟨x0, x1, x2, x3, x4, x5, x6, x7, x8, x9, hfl⟩ := flat4_ex s.1 s.2
      have hs1 : s.1 = (x0, x1) := by
        have := hfl
        simp only [flat4, List.cons_append, List.cons.injEq] at this
        exact Prod.ext this.1 this.2.1
      rw [hs1] at hsok
      have hBw : Below w.heap.size w wr := by rw [HMB.out]; exact hB
      have hrw := ownsRow_below HM.out.2.1 hBw
      obtain ⟨gb, hgb⟩ : ∃ g, (Value.slice va SF.length vc).ownBlock = some g := by
        rcases hrw.2 with ⟨e, h0⟩ | ⟨g, cap, cur, e, _⟩
        · rw [h0] at hil; exact absurd hil (Nat.not_lt_zero _)
        · exact ⟨g, by rw [e]; rfl⟩
      have hva : va = some ⟨gb, 0, none⟩ := by
        rcases hrw.2 with ⟨e, h0⟩ | ⟨g, cap, cur, e, _⟩
        · rw [h0] at hil; exact absurd hil (Nat.not_lt_zero _)
        · cases e
          simp [Value.ownBlock] at hgb
          rw [hgb]
      subst hva
      have hcell : ∀ (j u : Nat), [x0, x1, x2, x3, x4, x5, x6, x7, x8, x9][j]? = some u → wr.cell? ⟨gb, i * 10 + j, none⟩ = some (.int .i64 (u : Int)) := fun j u hu => by
        have := hrw.cells (g := gb) hgb _ _ (stRow_get hge hfl j u hu)
        rw [Addr.add_lit, Nat.zero_add] at this
        exact this
      have y0 := hcell 0 x0 rfl
      rw [Nat.add_zero] at y0
      have y1 := hcell 1 x1 rfl
      have y2 := hcell 2 x2 rfl
      have y3 := hcell 3 x3 rfl
      have y4 := hcell 4 x4 rfl
      have y5 := hcell 5 x5 rfl
      have y6 := hcell 6 x6 rfl
      have y7 := hcell 7 x7 rfl
      have y8 := hcell 8 x8 rfl
      have y9 := hcell 9 x9 rfl
      rw [hdr, missN, hs1] at hmN
      have hBx : Below wr.heap.size wr (wr.alloc (.cells #[.int .i64 (x0 : Int), .int .i64 (x1 : Int), .int .i64 (x2 : Int), .int .i64 (x3 : Int), .int .i64 (x4 : Int), .int .i64 (x5 : Int), .int .i64 (x6 : Int), .int .i64 (x7 : Int), .int .i64 (x8 : Int), .int .i64 (x9 : Int)] 206)) := (Below.refl _ _).alloc (Nat.le_refl _) _
      have hPx := HM.out.1.below (below2 hBw hBx)
      have c3 : (wr.alloc (.cells #[.int .i64 (x0 : Int), .int .i64 (x1 : Int), .int .i64 (x2 : Int), .int .i64 (x3 : Int), .int .i64 (x4 : Int), .int .i64 (x5 : Int), .int .i64 (x6 : Int), .int .i64 (x7 : Int), .int .i64 (x8 : Int), .int .i64 (x9 : Int)] 206)).cell? ⟨pb, 3, none⟩ = some (.map (some vb)) := hPx.cells.cell (i := 3) (by omega)
      have LK : ∀ m, _ := fun m => (show VrIs ((wr.alloc (.cells #[.int .i64 (x0 : Int), .int .i64 (x1 : Int), .int .i64 (x2 : Int), .int .i64 (x3 : Int), .int .i64 (x4 : Int), .int .i64 (x5 : Int), .int .i64 (x6 : Int), .int .i64 (x7 : Int), .int .i64 (x8 : Int), .int .i64 (x9 : Int)] 206)).drewN m) vb P.vars from hPx.vars.keep rfl).look hsok
      obtain ⟨es, ck, hes⟩ := hMs.lt
      have hmlt := (Array.getElem?_eq_some_iff.1 hes).1
      have HMs : Hid (MsIs (wr.alloc (.cells #[.int .i64 (x0 : Int), .int .i64 (x1 : Int), .int .i64 (x2 : Int), .int .i64 (x3 : Int), .int .i64 (x4 : Int), .int .i64 (x5 : Int), .int .i64 (x6 : Int), .int .i64 (x7 : Int), .int .i64 (x8 : Int), .int .i64 (x9 : Int)] 206)) mb ms ∧ Below mb w (wr.alloc (.cells #[.int .i64 (x0 : Int), .int .i64 (x1 : Int), .int .i64 (x2 : Int), .int .i64 (x3 : Int), .int .i64 (x4 : Int), .int .i64 (x5 : Int), .int .i64 (x6 : Int), .int .i64 (x7 : Int), .int .i64 (x8 : Int), .int .i64 (x9 : Int)] 206))) := ⟨hMs.keep (hBx.block mb hmlt), hB.trans (hBx.mono (Nat.le_of_lt hmlt))⟩
      clear hcell hPx hBx hMs hB HJ hes hrw hgb hge hdr hBw
      cases hnv : numV P.vars (x0, x1) with
      | some z =>
        rw [hnv] at LK hmN
        have HK : Hid _ := hmN
        simp only [Option.getD_some, Option.isSome_some] at LK
        clear hmN hnv
        go_wp2_with fail
        go_quiet (fail)
        go_wp2_with fail
        refine ⟨⟨i + 1, hlt, by simp, ?_⟩, by simp [intOf]; omega⟩
        exact ⟨ms, HMs.out.1.keep rfl, ⟨HMs.out.2.os, HMs.out.2.tape, HMs.out.2.output, HMs.out.2.size, HMs.out.2.block⟩, HK.out, Nat.le_succ_of_le hml⟩
      | none =>
        rw [hnv] at LK hmN
        have HK : Hid _ := hmN
        simp only [Option.getD_none, Option.isSome_none] at LK
        clear hmN hnv
        go_wp2_with fail
        go_quiet (fail)
        obtain ⟨W2, r1, r2, r3⟩ := (show MsIs ((wr.alloc (.cells #[.int .i64 (x0 : Int), .int .i64 (x1 : Int), .int .i64 (x2 : Int), .int .i64 (x3 : Int), .int .i64 (x4 : Int), .int .i64 (x5 : Int), .int .i64 (x6 : Int), .int .i64 (x7 : Int), .int .i64 (x8 : Int), .int .i64 (x9 : Int)] 206)).drewN nq) mb ms from HMs.out.1.keep rfl).store hsok (by omega)
        have HF : Hid (_ ∧ _) := And.intro r2 r3
        clear r2 r3 LK
        go_wp2_with fail
        refine ⟨⟨i + 1, hlt, by simp, ?_⟩, by simp [intOf]; omega⟩
        refine ⟨_, HF.out.1, ?_, HK.out, Nat.le_trans (addP_len ms _) (by simp; omega)⟩
        have k2 := HF.out.2
        have b2 := HMs.out.2
        exact ⟨k2.os.trans b2.os, k2.tape.trans b2.tape, k2.output.trans b2.output, Nat.le_trans b2.size k2.size, fun j hj => (k2.block j (Nat.lt_of_lt_of_le hj (by rw [← HMB.out]; exact b2.size)) (by omega)).trans (b2.block j hj)⟩
    · have di : decide ((i : Int) < (n : Int)) = false := decide_eq_false (by omega)
      obtain rfl : i = n := by omega
      have hLe : ∀ m, _ := fun m => (show MsIs (wr.drewN m) mb ms from hMs.keep rfl).len 3
      have hBw : Below w.heap.size w wr := by rw [HMB.out]; exact hB
      have c4 : wr.cell? ⟨pb, 4, none⟩ = some (.int .i64 (P.count : Int)) := (HM.out.1.below hBw).cells.cell (i := 4) (by omega)
      have hLen : Hid (missN P SF [] = ms) := by
        show _ = _
        rw [← hmN, ← HN.out, List.drop_length]
        rfl
      have hwa : IntKind.i64.wrap ((P.count : Int) + (ms.length : Int)) = (P.count : Int) + (ms.length : Int) := by rw [IntKind.wrap_i64]; omega
      have HB : Hid _ := hBw
      have HD : Hid (decide ((P.count : Int) + (ms.length : Int) ≤ 2000) = decide (P.count + ms.length ≤ 2000)) := by
        show _ = _
        by_cases hle : P.count + ms.length ≤ 2000
        · rw [decide_eq_true hle, decide_eq_true (by omega)]
        · rw [decide_eq_false hle, decide_eq_false (by omega)]
      clear hMs hB hmN HJ hBw
      go_wp2_with fail
      go_quiet (fail)
      go_wp2_with fail
      go_ret
      rw [hLen.out, ← HD.out]
      exact ⟨rfl, ⟨HB.out.os, HB.out.tape, HB.out.output, HB.out.size, HB.out.block⟩⟩
end Go.Proofs.YtlehlgipbhfioaaGreat

namespace Go.Proofs.YtlehlgipbhfioaaGreat
open Go.RowKit Go.Maps

/-- A literal, renamed. -/
def renL (nm : List Nat) (x : Int) : Int := if x < 0 then -((nm[x.natAbs]?.getD 0 : Nat) : Int) else ((nm[x.natAbs]?.getD 0 : Nat) : Int)

set_option maxRecDepth 100000 in
set_option maxHeartbeats 1000000 in
theorem rename_in (w : World) (g cap : Nat) (c : List Int) (hg : Rw w g c) (hcl : c.length ≤ 1048576) (nb nc : Nat) (nm : List Nat) (hnm : ∀ (j n : Nat), nm[j]? = some n → w.cell? ⟨nb, j, none⟩ = some (.int .i64 (n : Int))) (hne : g ≠ nb) (hx : ∀ x ∈ c, x.natAbs < nm.length) (hnl : nm.length ≤ 1048576) (hns : ∀ n ∈ nm, n ≤ 1048576) :
    Calls Tryz.prog 81 #[.slice (some ⟨g, 0, none⟩) c.length cap, .slice (some ⟨nb, 0, none⟩) nm.length nc] w fun e w' => e = .returned (.tuple #[]) ∧ Rw w' g (c.map (renL nm)) ∧ Kept (fun k => k = g) w w' := by
  obtain ⟨n, hn⟩ : ∃ n, c.length = n := ⟨_, rfl⟩
  obtain ⟨nl, hnlq⟩ : ∃ n, nm.length = n := ⟨_, rfl⟩
  have HH : Hid (_ ∧ _ ∧ _ ∧ _ ∧ _) := And.intro hg (And.intro hnm (And.intro hx (And.intro hns (And.intro hn hnlq))))
  have HI0 : Hid (Rw w g ((c.take 0).map (renL nm) ++ c.drop 0) ∧ Kept (fun k => k = g) w w) := ⟨by simpa using hg, Kept.refl _ _⟩
  rw [hn, hnlq]
  rw [hn] at hcl
  rw [hnlq] at hnl
  clear hg hnm hx hns hn hnlq
  go_enter Tryz.func81, Tryz.ntmps81
  go_wp2_with fail
  go_loopw [8] (fun t8 W => ∃ i : Nat, i ≤ n ∧ t8 = .int .i64 (i : Int) ∧ Hid (Rw W g ((c.take i).map (renL nm) ++ c.drop i) ∧ Kept (fun k => k = g) w W)) (fun t8 _ => n - (intOf t8).toNat)
  case atStart => exact ⟨0, Nat.zero_le _, rfl, HI0⟩
  case round =>
    obtain ⟨i, hi, rfl, HJ⟩ := hrel
    clear HI0
    obtain ⟨hRw, hK⟩ := HJ.out
    obtain ⟨hg, hnm, hx, hns, hn, hnlq⟩ := HH.out
    by_cases hlt : i < n
    · have di : decide ((i : Int) < (n : Int)) = true := decide_eq_true (by omega)
      have hwi : IntKind.i64.wrap ((i : Int) + 1) = (i : Int) + 1 := wrap_nat1 (by omega)
      have hil : i < c.length := by omega
      have htl : ((c.take i).map (renL nm)).length = i := by simp; omega
      have hget : ((c.take i).map (renL nm) ++ c.drop i)[i]? = some c[i] := by
        rw [List.getElem?_append_right (by omega), htl, Nat.sub_self, List.getElem?_drop, Nat.add_zero, List.getElem?_eq_getElem hil]
      obtain ⟨q1, q2⟩ := hRw.at hget
      have hxi := hx c[i] (List.getElem_mem hil)
      have hab := hnm _ _ (List.getElem?_eq_getElem hxi)
      have hab2 : wr.cell? ⟨nb, c[i].natAbs, none⟩ = some (.int .i64 ((nm[c[i].natAbs]'hxi : Nat) : Int)) := by
        have hlt0 := World.block_lt_of_cell? w _ hab
        exact (World.cell?_of_block (a := ⟨nb, c[i].natAbs, none⟩) (hK.block nb hlt0 (fun e => hne e.symm))).trans hab
      have hvs := hns _ (List.getElem_mem hxi)
      have HF : Hid (∀ y, y = renL nm c[i] → Rw (wr.setCell ⟨g, i, none⟩ (.int .i64 y)) g ((c.take (i + 1)).map (renL nm) ++ c.drop (i + 1)) ∧ Kept (fun k => k = g) w (wr.setCell ⟨g, i, none⟩ (.int .i64 y))) := fun y hy => by
        refine ⟨?_, hK.setCell (p := ⟨g, i, none⟩) rfl _⟩
        have := hRw.set i y
        have e : ((c.take i).map (renL nm) ++ c.drop i).set i y = (c.take (i + 1)).map (renL nm) ++ c.drop (i + 1) := by
          rw [List.set_append_right _ _ (by omega), htl, Nat.sub_self, List.drop_eq_getElem_cons hil, List.set_cons_zero, List.take_add_one, List.getElem?_eq_getElem hil, Option.toList_some, List.map_append, List.append_assoc, hy]
          rfl
        rw [e] at this
        exact this
      have hren : renL nm c[i] = if c[i] < 0 then -((nm[c[i].natAbs]'hxi : Nat) : Int) else ((nm[c[i].natAbs]'hxi : Nat) : Int) := by
        unfold renL
        rw [List.getElem?_eq_getElem hxi, Option.getD_some]
      rw [hren] at HF
      generalize (nm[c[i].natAbs]'hxi) = y at *
      rw [hnlq] at hxi
      generalize c[i] = x at *
      have dab : decide ((x.natAbs : Int) < (nl : Int)) = true := decide_eq_true (by omega)
      have HK : Hid _ := hK
      clear hRw hK hget hab htl HJ hg hnm hx hns hn hnlq hren
      by_cases h0 : x < 0
      · have d0 : decide (x < 0) = true := decide_eq_true h0
        rw [if_pos h0] at HF
        obtain ⟨a, ha⟩ : ∃ a : Nat, x.natAbs = a := ⟨_, rfl⟩
        have hxa : x = -(a : Int) := by omega
        have hpos : 0 < a := by omega
        have dpos : decide (0 < a) = true := decide_eq_true hpos
        rw [ha] at hab2 hxi dab
        have hw1 := wrap_nat0 (a := a) (by omega)
        have hw2 := wrap_nat (a := a) (by omega)
        have hw3 : IntKind.i64.wrap (-(y : Int)) = -(y : Int) := by rw [IntKind.wrap_i64]; omega
        clear ha h0
        subst hxa
        go_wp2_with fail
        refine ⟨⟨i + 1, hlt, by simp, ?_⟩, by simp [intOf]; omega⟩
        exact HF.out _ rfl
      · have d0 : decide (x < 0) = false := decide_eq_false h0
        rw [if_neg h0] at HF
        obtain ⟨a, ha⟩ : ∃ a : Nat, x.natAbs = a := ⟨_, rfl⟩
        have hxa : x = (a : Int) := by omega
        rw [ha] at hab2 hxi dab
        clear ha h0
        subst hxa
        go_wp2_with fail
        refine ⟨⟨i + 1, hlt, by simp, ?_⟩, by simp [intOf]; omega⟩
        exact HF.out _ rfl
    · have di : decide ((i : Int) < (n : Int)) = false := decide_eq_false (by omega)
      obtain rfl : i = n := by omega
      have HF : Hid (Rw wr g (c.map (renL nm)) ∧ Kept (fun k => k = g) w wr) := by
        rw [← hn, List.take_length, List.drop_length, List.append_nil] at hRw
        exact ⟨hRw, hK⟩
      clear hRw hK HJ hg hnm hx hns hn hnlq
      go_wp2_with fail
      refine ⟨rfl, .tuple #[], by simp [results, Tryz.results81], rfl, HF.out.1, HF.out.2⟩
end Go.Proofs.YtlehlgipbhfioaaGreat

namespace Go.Proofs.YtlehlgipbhfioaaGreat
open Go.RowKit Go.Maps

/-- A pair is told, or one term and itself, or what a step says. -/
def Had (told : List Pr) (S : List Stq) (q : Pr) : Prop := q ∈ told ∨ q.1 = q.2 ∨ ∃ st ∈ S, st.1 = q
theorem Had.mono {told : List Pr} {S S' : List Stq} (h : ∀ st ∈ S, st ∈ S') {q : Pr} (k : Had told S q) : Had told S' q := by
  rcases k with k | k | ⟨st, k1, k2⟩
  · exact .inl k
  · exact .inr (.inl k)
  · exact .inr (.inr ⟨st, h st k1, k2⟩)
theorem addP_sub : ∀ (r l : List Pr), (∀ q ∈ l, q ∈ addP l r) ∧ (∀ q ∈ r, q ∈ addP l r) ∧ ∀ q ∈ addP l r, q ∈ l ∨ q ∈ r
  | [], l => by simp [addP]
  | a :: r, l => by
    obtain ⟨h1, h2, h3⟩ := addP_sub r (if a ∈ l then l else l ++ [a])
    rw [addP]
    refine ⟨fun q hq => h1 q ?_, fun q hq => ?_, fun q hq => ?_⟩
    · split
      · exact hq
      · simp [hq]
    · rcases List.mem_cons.1 hq with rfl | hq
      · refine h1 q ?_
        split
        · assumption
        · simp
      · exact h2 q hq
    · rcases h3 q hq with h | h
      · split at h
        · exact .inl h
        · rcases List.mem_append.1 h with h | h
          · exact .inl h
          · simp at h
            subst h
            exact .inr (by simp)
      · exact .inr (by simp [h])
/-- In range. -/
def InN (n : Nat) (q : Pr) : Prop := q.1 < n ∧ q.2 < n
theorem InN.ord {n x y : Nat} (hx : x < n) (hy : y < n) : InN n (ordP x y) := by
  unfold InN ordP
  exact ⟨by simp; omega, by simp; omega⟩
def StIn (n : Nat) (st : Stq) : Prop := InN n st.1 ∧ ∀ q ∈ st.2, InN n q
/-- What the steps along a way are about. -/
structure Abt (told : List Pr) (n : Nat) (S : List Stq) (G : List Pr) : Prop where
  pre : ∀ st ∈ S, ∀ q ∈ st.2, Had told S q ∨ q ∈ G
  inn : ∀ st ∈ S, StIn n st
  four : ∀ st ∈ S, st.2.length ≤ 4
theorem stepsK_had {told : List Pr} {argp : Pr → List Pr} {n : Nat} (hi : ∀ p, ∀ q ∈ argp p, InN n q) (h4 : ∀ p, (argp p).length ≤ 4) (a : Nat) (ha : a < n) : ∀ (p : List Nat) (t : Bool) (S : List Stq) (G : List Pr), (∀ x r, p = x :: r → (t = true → x = a) ∧ Had told S (ordP a x)) → (∀ x ∈ p, x < n) → Abt told n S G →
    Abt told n (stepsK told argp a t p S G).1 (stepsK told argp a t p S G).2 ∧ (∀ st ∈ S, st ∈ (stepsK told argp a t p S G).1) ∧ (∀ q ∈ G, q ∈ (stepsK told argp a t p S G).2) ∧ (∀ z, p.getLast? = some z → Had told (stepsK told argp a t p S G).1 (ordP a z)) ∧ (stepsK told argp a t p S G).1.length ≤ S.length + 2 * p.length
  | [], t, S, G, _, _, hA => by
    simp only [stepsK]
    exact ⟨hA, fun _ h => h, fun _ h => h, fun z h => by simp at h, by simp⟩
  | [x], t, S, G, hx, _, hA => by
    simp only [stepsK]
    refine ⟨hA, fun _ h => h, fun _ h => h, fun z h => ?_, by simp⟩
    simp at h
    subst h
    exact (hx _ _ rfl).2
  | x :: y :: r, t, S, G, hx, hn, hA => by
    have hxn := hn x (by simp)
    have hyn := hn y (by simp)
    obtain ⟨hxa, hxh⟩ := hx x (y :: r) rfl
    rw [stepsK]
    obtain ⟨S1, hS1⟩ : ∃ S1, S1 = (if ordP x y ∈ told then S else S ++ [(ordP x y, argp (ordP x y))]) := ⟨_, rfl⟩
    obtain ⟨G1, hG1⟩ : ∃ G1, G1 = (if ordP x y ∈ told then G else addP G (argp (ordP x y))) := ⟨_, rfl⟩
    obtain ⟨S2, hS2⟩ : ∃ S2, S2 = S1 ++ (if t then [] else [(ordP a y, [ordP a x, ordP x y])]) := ⟨_, rfl⟩
    rw [← hS1, ← hG1, ← hS2]
    have sub1 : ∀ st ∈ S, st ∈ S1 := fun st h => by rw [hS1]; split <;> simp [h]
    have sub2 : ∀ st ∈ S1, st ∈ S2 := fun st h => by rw [hS2]; simp [h]
    have subG : ∀ q ∈ G, q ∈ G1 := fun q h => by
      rw [hG1]
      split
      · exact h
      · exact (addP_sub _ _).1 q h
    have hl : Had told S1 (ordP x y) := by
      rw [hS1]
      split
      · rename_i h
        exact .inl h
      · exact .inr (.inr ⟨(ordP x y, argp (ordP x y)), by simp, rfl⟩)
    have hA1 : Abt told n S1 G1 := by
      refine ⟨fun st h q hq => ?_, fun st h => ?_, fun st h => ?_⟩
      · have : st ∈ S ∨ (ordP x y ∉ told ∧ st = (ordP x y, argp (ordP x y))) := by
          rw [hS1] at h
          split at h
          · exact .inl h
          · rename_i hno
            rcases List.mem_append.1 h with h | h
            · exact .inl h
            · exact .inr ⟨hno, by simpa using h⟩
        rcases this with h | ⟨hno, rfl⟩
        · rcases hA.pre st h q hq with k | k
          · exact .inl (k.mono sub1)
          · exact .inr (subG q k)
        · right
          rw [hG1, if_neg hno]
          exact (addP_sub _ _).2.1 q hq
      · rw [hS1] at h
        split at h
        · exact hA.inn st h
        · rcases List.mem_append.1 h with h | h
          · exact hA.inn st h
          · simp at h
            subst h
            exact ⟨InN.ord hxn hyn, fun q hq => hi _ q hq⟩
      · rw [hS1] at h
        split at h
        · exact hA.four st h
        · rcases List.mem_append.1 h with h | h
          · exact hA.four st h
          · simp at h
            subst h
            exact h4 _
    have hA2 : Abt told n S2 G1 := by
      refine ⟨fun st h q hq => ?_, fun st h => ?_, fun st h => ?_⟩
      · rw [hS2] at h
        rcases List.mem_append.1 h with h | h
        · rcases hA1.pre st h q hq with k | k
          · exact .inl (k.mono sub2)
          · exact .inr k
        · cases t
          · simp at h
            subst h
            simp at hq
            rcases hq with rfl | rfl
            · exact .inl ((hxh.mono sub1).mono sub2)
            · exact .inl (hl.mono sub2)
          · simp at h
      · rw [hS2] at h
        rcases List.mem_append.1 h with h | h
        · exact hA1.inn st h
        · cases t
          · simp at h
            subst h
            refine ⟨InN.ord ha hyn, fun q hq => ?_⟩
            simp at hq
            rcases hq with rfl | rfl
            · exact InN.ord ha hxn
            · exact InN.ord hxn hyn
          · simp at h
      · rw [hS2] at h
        rcases List.mem_append.1 h with h | h
        · exact hA1.four st h
        · cases t
          · simp at h
            subst h
            simp
          · simp at h
    have hy2 : Had told S2 (ordP a y) := by
      cases t
      · exact .inr (.inr ⟨(ordP a y, [ordP a x, ordP x y]), by rw [hS2]; simp, rfl⟩)
      · have := hxa rfl
        subst this
        exact hl.mono sub2
    have hlen : S2.length ≤ S.length + 2 := by
      have h1 : S1.length ≤ S.length + 1 := by rw [hS1]; split <;> simp
      rw [hS2]
      cases t <;> simp <;> omega
    obtain ⟨k1, k2, k3, k4, k5⟩ := stepsK_had hi h4 a ha (y :: r) false S2 G1 (fun x' r' e => by simp at e; obtain ⟨rfl, rfl⟩ := e; exact ⟨by simp, hy2⟩) (fun z hz => hn z (by simp at hz ⊢; right; exact hz)) hA2
    refine ⟨k1, fun st h => k2 st (sub2 st (sub1 st h)), fun q h => k3 q (subG q h), fun z hz => k4 z ?_, ?_⟩
    · simpa using hz
    · simp at k5 ⊢
      omega
theorem wayTo_last (nx : List Nat) (b : Nat) : ∀ (f n : Nat) (q : List Nat), wayTo nx b f n = some q → (n :: q).getLast? = some b
  | 0, n, q, h => by simp [wayTo] at h
  | f + 1, n, q, h => by
    rw [wayTo] at h
    split at h
    · rename_i e
      subst e
      cases h
      rfl
    · cases hw : wayTo nx b f (nx[n]?.getD 0 - 1) with
      | none => rw [hw] at h; cases h
      | some q' =>
        rw [hw] at h
        cases h
        have := wayTo_last nx b f _ q' hw
        rw [List.getLast?_cons_cons]
        exact this
theorem pathN_ends {L : List (List Nat)} {a b : Nat} {p : List Nat} (h : pathN L a b = some p) : ∃ r, p = a :: r ∧ p.getLast? = some b := by
  unfold pathN at h
  split at h
  · cases h
  · rename_i nx _
    cases hw : wayTo nx b (L.length + 1) a with
    | none => rw [hw] at h; cases h
    | some q =>
      rw [hw] at h
      cases h
      exact ⟨q, rfl, wayTo_last _ _ _ _ _ hw⟩
/-- All steps are about pairs that are told, or that a step says. -/
theorem stepsI_had {L : List (List Nat)} {E : Edges} (hL : LnkIs L E) {told : List Pr} {argp : Pr → List Pr} (hi : ∀ p, ∀ q ∈ argp p, InN L.length q) (h4 : ∀ p, (argp p).length ≤ 4) (ho : ∀ p, ∀ q ∈ argp p, q.1 ≤ q.2)
    (hQ : ∀ x y, AdjE E x y → ordP x y ∉ told → ∀ q ∈ argp (ordP x y), Conn E q.1 q.2 ∧ q.1 < L.length ∧ q.2 < L.length) : ∀ (f i : Nat) (S : List Stq) (G : List Pr) (S' : List Stq), G.Nodup → (∀ q ∈ G, Conn E q.1 q.2 ∧ q.1 < L.length ∧ q.2 < L.length) → (∀ q ∈ G, q.1 ≤ q.2) →
    Abt told L.length S G → (∀ j g, j < i → G[j]? = some g → Had told S g) → S.length ≤ 2 * L.length * i → i ≤ G.length → stepsI L told argp f i S G = some S' → (∀ st ∈ S', ∀ q ∈ st.2, Had told S' q) ∧ (∀ st ∈ S', StIn L.length st) ∧ (∀ st ∈ S', st.2.length ≤ 4) ∧ S'.length ≤ 2 * L.length * (L.length * L.length)
  | 0, i, S, G, S', _, _, _, _, _, _, _, h => by simp [stepsI] at h
  | f + 1, i, S, G, S', hnd, hG, hGo, hA, hd, hSl, hil, h => by
    rw [stepsI] at h
    split at h
    · rename_i hg
      cases h
      have hge : G.length ≤ i := by simpa using hg
      refine ⟨fun st hst q hq => ?_, hA.inn, hA.four, ?_⟩
      · rcases hA.pre st hst q hq with k | k
        · exact k
        · obtain ⟨j, hj, e⟩ := List.getElem_of_mem k
          exact hd j q (by omega) (by rw [← e]; exact List.getElem?_eq_getElem hj)
      · have := pairs_le hnd (fun q hq => (hG q hq).2)
        exact Nat.le_trans hSl (Nat.mul_le_mul_left _ (by omega))
    · rename_i g hg
      split at h
      · cases h
      · rename_i p hp
        have hgm : g ∈ G := List.mem_of_getElem? hg
        obtain ⟨hgc, hg1, hg2⟩ := hG g hgm
        obtain ⟨p0, hp0, hp1, hp2, hp3, hp4⟩ := path_ok hL hgc hg1 hg2
        rw [hp0] at hp
        cases hp
        have hh0 : Had told S (ordP g.1 g.1) := .inr (.inl (by simp [ordP]))
        obtain ⟨k1, k2, k3, k4, k5⟩ := stepsK_had hi h4 g.1 hg1 (g.1 :: p0) true S G (fun x r e => by simp at e; obtain ⟨rfl, rfl⟩ := e; exact ⟨fun _ => rfl, hh0⟩) hp4 hA
        obtain ⟨n1, n2, ⟨u, n3⟩, _⟩ := stepsK_ok (Q := fun q => Conn E q.1 q.2 ∧ q.1 < L.length ∧ q.2 < L.length) hQ g.1 (g.1 :: p0) true S G hp3 hnd hG
        have hil2 : i < G.length := (List.getElem?_eq_some_iff.1 hg).1
        have hpl : (g.1 :: p0).length ≤ L.length := nodup_le hp1 hp4
        refine stepsI_had hL hi h4 ho hQ f (i + 1) _ _ S' n1 n2 (fun q hq => ?_) k1 (fun j g' hj hg' => ?_) ?_ ?_ h
        · have : ∀ (p : List Nat) (t : Bool) (S : List Stq) (G : List Pr), (∀ q ∈ G, q.1 ≤ q.2) → ∀ q ∈ (stepsK told argp g.1 t p S G).2, q.1 ≤ q.2 := by
            intro p
            induction p with
            | nil => intro t S G hG q hq; simp only [stepsK] at hq; exact hG q hq
            | cons x r ih =>
              intro t S G hG q hq
              cases r with
              | nil => simp only [stepsK] at hq; exact hG q hq
              | cons y r =>
                rw [stepsK] at hq
                refine ih _ _ _ (fun q' hq' => ?_) q hq
                split at hq'
                · exact hG q' hq'
                · rcases (addP_sub _ _).2.2 q' hq' with e | e
                  · exact hG q' e
                  · exact ho _ q' e
          exact this _ _ _ _ hGo q hq
        · rw [n3] at hg'
          by_cases hji : j < i
          · rw [List.getElem?_append_left (by omega)] at hg'
            exact (hd j g' hji hg').mono k2
          · have : j = i := by omega
            subst this
            rw [List.getElem?_append_left (by omega), hg] at hg'
            cases hg'
            have := k4 g.2 hp2
            rw [ordP_self (hGo g hgm)] at this
            exact this
        · have e : 2 * L.length * (i + 1) = 2 * L.length * i + 2 * L.length := by rw [Nat.mul_add, Nat.mul_one]
          omega
        · rw [n3]
          simp
          omega
theorem stepsN_had {L : List (List Nat)} {E : Edges} (hL : LnkIs L E) {told : List Pr} {argp : Pr → List Pr} (hi : ∀ p, ∀ q ∈ argp p, InN L.length q) (h4 : ∀ p, (argp p).length ≤ 4) (ho : ∀ p, ∀ q ∈ argp p, q.1 ≤ q.2)
    (hQ : ∀ x y, AdjE E x y → ordP x y ∉ told → ∀ q ∈ argp (ordP x y), Conn E q.1 q.2 ∧ q.1 < L.length ∧ q.2 < L.length) {g : Pr} (hg : Conn E g.1 g.2) (hg1 : g.1 < L.length) (hg2 : g.2 < L.length) (hgo : g.1 ≤ g.2) {S : List Stq} (h : stepsN L told argp g = some S) :
    (∀ st ∈ S, ∀ q ∈ st.2, Had told S q) ∧ (∀ st ∈ S, StIn L.length st) ∧ (∀ st ∈ S, st.2.length ≤ 4) ∧ S.length ≤ 2 * L.length * (L.length * L.length) :=
  stepsI_had hL hi h4 ho hQ _ 0 [] [g] S (by simp) (fun q hq => by simp at hq; subst hq; exact ⟨hg, hg1, hg2⟩) (fun q hq => by simp at hq; subst hq; exact hgo) ⟨fun _ h => (nomatch h), fun _ h => (nomatch h), fun _ h => (nomatch h)⟩ (fun j _ hj => absurd hj (Nat.not_lt_zero _)) (by simp) (by simp) h
/-- How many of some pairs have no variable. -/
def remV (M : List Pr) (P : Pb) : Nat := M.countP fun a => (P.num a).isNone
theorem vari_num (P : Pb) (a b : Pr) : (P.vari a).2.num b = if P.num b = none ∧ a = b then some (P.count + 1) else P.num b := by
  unfold Pb.vari
  cases h : P.num a with
  | some x =>
    simp only
    split
    · rename_i k
      rw [k.2, k.1] at h
      cases h
    · rfl
  | none =>
    simp only
    rw [num_app (V := P.vars) (a := b) (b := a) (x := P.count + 1) { P with count := P.count + 1, vars := P.vars ++ [(a, P.count + 1)], lemmas := if a.1 = a.2 then P.lemmas ++ [[((P.count + 1 : Nat) : Int)]] else P.lemmas } rfl P rfl]
    by_cases hb : P.num b = none
    · by_cases hab : a = b
      · rw [if_pos hb, if_pos hab, if_pos ⟨hb, hab⟩]
      · rw [if_pos hb, if_neg hab, if_neg (fun k => hab k.2), hb]
    · rw [if_neg hb, if_neg (fun k => hb k.1)]
/-- How a problem grows: M are the pairs that may get a variable, j is how many lemmas come besides. -/
structure Gr (M : List Pr) (j : Nat) (P Q : Pb) : Prop where
  cnt : P.count ≤ Q.count
  rem : Q.count + remV M Q ≤ P.count + remV M P
  vars : Q.vars.length + P.count = P.vars.length + Q.count
  lem : Q.lemmas.length + P.count ≤ P.lemmas.length + Q.count + j
  kn : Q.known.length ≤ P.known.length + j
theorem Gr.refl (M : List Pr) (P : Pb) : Gr M 0 P P := ⟨Nat.le_refl _, Nat.le_refl _, rfl, Nat.le_refl _, Nat.le_refl _⟩
theorem Gr.trans {M : List Pr} {i j : Nat} {P Q R : Pb} (h : Gr M i P Q) (k : Gr M j Q R) : Gr M (i + j) P R := by
  refine ⟨Nat.le_trans h.cnt k.cnt, Nat.le_trans k.rem h.rem, ?_, ?_, ?_⟩
  · have := h.vars; have := k.vars; omega
  · have := h.lem; have := k.lem; omega
  · have := h.kn; have := k.kn; omega
theorem Gr.count {M : List Pr} {j : Nat} {P Q : Pb} (h : Gr M j P Q) : Q.count ≤ P.count + M.length := by
  have := h.rem
  have : remV M P ≤ M.length := List.countP_le_length
  omega
theorem remV_vari (M : List Pr) (P : Pb) (a : Pr) (hM : a ∈ M) (h0 : P.num a = none) : remV M (P.vari a).2 + 1 ≤ remV M P := by
  unfold remV
  induction M with
  | nil => cases hM
  | cons b M ih =>
    have hle : ∀ M : List Pr, M.countP (fun a' => ((P.vari a).2.num a').isNone) ≤ M.countP (fun a' => (P.num a').isNone) := fun M => by
      refine List.countP_mono_left fun x _ hx => ?_
      rw [vari_num] at hx
      split at hx
      · simp at hx
      · exact hx
    rw [List.countP_cons, List.countP_cons]
    by_cases hab : b = a
    · subst hab
      have e1 : ((P.vari b).2.num b).isNone = false := by rw [vari_num, if_pos ⟨h0, rfl⟩]; rfl
      have e2 : (P.num b).isNone = true := by rw [h0]; rfl
      rw [e1, e2]
      have := hle M
      simp
      omega
    · have e1 : ((P.vari a).2.num b).isNone = (P.num b).isNone := by rw [vari_num, if_neg (fun k => hab k.2.symm)]
      rw [e1]
      have := ih (by rcases List.mem_cons.1 hM with h | h; exact absurd h.symm hab; exact h)
      omega
theorem Gr.vari (M : List Pr) (P : Pb) (a : Pr) (h : P.num a ≠ none ∨ a ∈ M) : Gr M 0 P (P.vari a).2 := by
  cases hn : P.num a with
  | some x =>
    have : (P.vari a).2 = P := by unfold Pb.vari; rw [hn]
    rw [this]
    exact Gr.refl M P
  | none =>
    have hM : a ∈ M := h.resolve_left (fun k => k hn)
    have e : (P.vari a).2 = { P with count := P.count + 1, vars := P.vars ++ [(a, P.count + 1)], lemmas := if a.1 = a.2 then P.lemmas ++ [[((P.count + 1 : Nat) : Int)]] else P.lemmas } := by unfold Pb.vari; rw [hn]
    have hr := remV_vari M P a hM hn
    refine ⟨?_, ?_, ?_, ?_, ?_⟩
    · rw [e]; exact Nat.le_succ _
    · have : (P.vari a).2.count = P.count + 1 := by rw [e]
      omega
    · rw [e]; simp; omega
    · rw [e]
      simp only
      split <;> simp <;> omega
    · rw [e]; exact Nat.le_refl _
theorem vari_keeps (P : Pb) (a b : Pr) (h : P.num b ≠ none) : (P.vari a).2.num b ≠ none := by
  rw [vari_num]
  split
  · simp
  · exact h
theorem prem_keeps : ∀ (r : List Pr) (P : Pb) (b : Pr), P.num b ≠ none → (Pb.prem r P).2.num b ≠ none
  | [], P, b, h => h
  | a :: r, P, b, h => by
    rw [Pb.prem]
    split
    · exact prem_keeps r P b h
    · exact prem_keeps r _ b (vari_keeps P a b h)
theorem Gr.prem (M : List Pr) : ∀ (r : List Pr) (P : Pb), (∀ q ∈ r, q.1 = q.2 ∨ P.num q ≠ none ∨ q ∈ M) → Gr M 0 P (Pb.prem r P).2
  | [], P, _ => Gr.refl M P
  | a :: r, P, h => by
    rw [Pb.prem]
    split
    · exact Gr.prem M r P (fun q hq => h q (by simp [hq]))
    · rename_i hne
      have h1 := Gr.vari M P a ((h a (by simp)).resolve_left hne)
      have h2 := Gr.prem M r (P.vari a).2 (fun q hq => by
        rcases h q (by simp [hq]) with k | k | k
        · exact .inl k
        · exact .inr (.inl (vari_keeps P a q k))
        · exact .inr (.inr k))
      exact h1.trans h2
theorem Gr.step (M : List Pr) (P : Pb) (st : Stq) (h1 : P.num st.1 ≠ none ∨ st.1 ∈ M) (h2 : ∀ q ∈ st.2, q.1 = q.2 ∨ P.num q ≠ none ∨ q ∈ M) : Gr M 1 P (P.step st) ∧ ∀ b, P.num b ≠ none → (P.step st).num b ≠ none := by
  unfold Pb.step
  split
  · exact ⟨⟨Nat.le_refl _, Nat.le_refl _, rfl, Nat.le_succ _, Nat.le_succ _⟩, fun b h => h⟩
  · obtain ⟨P0, hP0⟩ : ∃ P0 : Pb, P0 = { P with known := P.known ++ [(st.1, pad4 st.2)] } := ⟨_, rfl⟩
    rw [← hP0]
    have hn : ∀ b, P0.num b = P.num b := fun b => by rw [hP0]; rfl
    have hr : remV M P0 = remV M P := by unfold remV; simp only [hn]
    have g1 := Gr.vari M P0 st.1 (by rw [hn]; exact h1)
    have g2 := Gr.prem M (pad4 st.2) (P0.vari st.1).2 (fun q hq => by
      rcases mem_pad4 hq with k | k
      · rcases h2 q k with e | e | e
        · exact .inl e
        · exact .inr (.inl (vari_keeps P0 _ _ (by rw [hn]; exact e)))
        · exact .inr (.inr e)
      · exact .inl (by rw [k]))
    have g := g1.trans g2
    have c0 : P0.count = P.count := by rw [hP0]
    have v0 : P0.vars = P.vars := by rw [hP0]
    have l0 : P0.lemmas = P.lemmas := by rw [hP0]
    have k0 : P0.known.length = P.known.length + 1 := by rw [hP0]; simp
    refine ⟨⟨?_, ?_, ?_, ?_, ?_⟩, fun b hb => ?_⟩
    · have := g.cnt; rw [c0] at this; exact this
    · have := g.rem; rw [c0, hr] at this; exact this
    · have := g.vars; rw [c0, v0] at this; exact this
    · have := g.lem; rw [c0, l0] at this; simp at this ⊢; omega
    · have := g.kn; rw [k0] at this; exact this
    · exact prem_keeps _ _ b (vari_keeps P0 _ _ (by rw [hn]; exact hb))
theorem Gr.steps (M : List Pr) : ∀ (S : List Stq) (P : Pb), (∀ st ∈ S, (P.num st.1 ≠ none ∨ st.1 ∈ M) ∧ ∀ q ∈ st.2, q.1 = q.2 ∨ P.num q ≠ none ∨ q ∈ M) → Gr M S.length P (S.foldl Pb.step P)
  | [], P, _ => Gr.refl M P
  | st :: S, P, h => by
    obtain ⟨g1, k1⟩ := Gr.step M P st (h st (by simp)).1 (h st (by simp)).2
    have g2 := Gr.steps M S (P.step st) (fun st' h' => by
      obtain ⟨a1, a2⟩ := h st' (by simp [h'])
      refine ⟨a1.imp (k1 _) id, fun q hq => ?_⟩
      rcases a2 q hq with e | e | e
      · exact .inl e
      · exact .inr (.inl (k1 _ e))
      · exact .inr (.inr e))
    have := g1.trans g2
    rw [List.foldl_cons, List.length_cons, Nat.add_comm]
    exact this
theorem missN_mem (P : Pb) : ∀ (S : List Stq) (ms : List Pr), (∀ q ∈ ms, q ∈ missN P S ms) ∧ ∀ st ∈ S, P.num st.1 ≠ none ∨ st.1 ∈ missN P S ms
  | [], ms => ⟨fun q h => h, fun _ h => nomatch h⟩
  | s :: r, ms => by
    rw [missN]
    obtain ⟨h1, h2⟩ := missN_mem P r (if (numV P.vars s.1).isSome then ms else addP ms [s.1])
    refine ⟨fun q hq => h1 q ?_, fun st hst => ?_⟩
    · split
      · exact hq
      · exact (addP_sub _ _).1 q hq
    · rcases List.mem_cons.1 hst with rfl | hst
      · by_cases hs : (numV P.vars st.1).isSome = true
        · refine .inl fun k => ?_
          have : numV P.vars st.1 = P.num st.1 := rfl
          rw [this, k] at hs
          cases hs
        · refine .inr (h1 _ ?_)
          rw [if_neg hs]
          exact (addP_sub _ _).2.1 _ (by simp)
      · exact h2 st hst
/-- Behind all steps of a proof there are no more variables than hasRoom has counted. -/
theorem Gr.proof {told : List Pr} {S : List Stq} (P : Pb) (ht : ∀ q ∈ told, P.num q ≠ none) (hS : ∀ st ∈ S, ∀ q ∈ st.2, Had told S q) (k : Nat) : Gr (missN P S []) (S.take k).length P ((S.take k).foldl Pb.step P) := by
  refine Gr.steps _ _ P fun st hst => ?_
  have hm := (missN_mem P S []).2
  have hst' : st ∈ S := List.mem_of_mem_take hst
  refine ⟨hm st hst', fun q hq => ?_⟩
  rcases hS st hst' q hq with e | e | ⟨s2, e1, e2⟩
  · exact .inr (.inl (ht q e))
  · exact .inl e
  · rw [← e2]
    exact .inr (hm s2 e1)
/-- The greatest, and then rising. -/
def Shp (ls : List Nat) : Prop := ∃ m r, ls = m :: r ∧ r.Pairwise (· < ·) ∧ ∀ x ∈ r, x < m
/-- A clause that Solve takes. -/
def ClOk (n : Nat) (c : List Int) : Prop := (c.length ≤ 12 ∨ (c.length ≤ 1000 ∧ Shp (c.map litN))) ∧ ∀ x ∈ c, x ≠ 0 ∧ x.natAbs ≤ n
theorem ClOk.mono {n m : Nat} {c : List Int} (h : ClOk n c) (hm : n ≤ m) : ClOk m c := ⟨h.1, fun x hx => ⟨(h.2 x hx).1, Nat.le_trans (h.2 x hx).2 hm⟩⟩
/-- A problem whose lemmas Solve takes. -/
structure Pk (P : Pb) : Prop where
  vars : ∀ e ∈ P.vars, 1 ≤ e.2 ∧ e.2 ≤ P.count
  lem : ∀ c ∈ P.lemmas, ClOk P.count c
theorem Pk.num {P : Pb} (h : Pk P) {a : Pr} {x : Nat} (hx : P.num a = some x) : 1 ≤ x ∧ x ≤ P.count := by
  unfold Pb.num at hx
  cases hf : P.vars.find? fun e => decide (e.1 = a) with
  | none => rw [hf] at hx; cases hx
  | some e =>
    rw [hf] at hx
    cases hx
    exact h.vars e (List.mem_of_find?_eq_some hf)
theorem Pk.vari {P : Pb} (h : Pk P) (a : Pr) : Pk (P.vari a).2 ∧ (1 ≤ (P.vari a).1 ∧ (P.vari a).1 ≤ (P.vari a).2.count) ∧ P.count ≤ (P.vari a).2.count := by
  unfold Pb.vari
  cases hn : P.num a with
  | some x => exact ⟨h, h.num hn, Nat.le_refl _⟩
  | none =>
    refine ⟨⟨fun e he => ?_, fun c hc => ?_⟩, ⟨Nat.le_add_left _ _, Nat.le_refl _⟩, Nat.le_succ _⟩
    · rcases List.mem_append.1 he with he | he
      · exact ⟨(h.vars e he).1, Nat.le_succ_of_le (h.vars e he).2⟩
      · simp at he
        subst he
        exact ⟨Nat.le_add_left _ _, Nat.le_refl _⟩
    · simp only at hc ⊢
      split at hc
      · rcases List.mem_append.1 hc with hc | hc
        · exact (h.lem c hc).mono (Nat.le_succ _)
        · simp at hc
          subst hc
          refine ⟨.inl (by simp), fun x hx => ?_⟩
          simp at hx
          subst hx
          omega
      · exact (h.lem c hc).mono (Nat.le_succ _)
theorem Pk.prem : ∀ (r : List Pr) (P : Pb), Pk P → Pk (Pb.prem r P).2 ∧ P.count ≤ (Pb.prem r P).2.count ∧ (Pb.prem r P).1.length ≤ r.length ∧ ∀ x ∈ (Pb.prem r P).1, x ≠ 0 ∧ x.natAbs ≤ (Pb.prem r P).2.count
  | [], P, h => ⟨h, Nat.le_refl _, Nat.le_refl _, fun _ h => nomatch h⟩
  | a :: r, P, h => by
    rw [Pb.prem]
    split
    · obtain ⟨h1, h2, h3, h4⟩ := Pk.prem r P h
      exact ⟨h1, h2, Nat.le_succ_of_le h3, h4⟩
    · obtain ⟨v1, v2, v3⟩ := h.vari a
      obtain ⟨h1, h2, h3, h4⟩ := Pk.prem r (P.vari a).2 v1
      refine ⟨h1, Nat.le_trans v3 h2, by simpa using h3, fun x hx => ?_⟩
      rcases List.mem_cons.1 hx with rfl | hx
      · have := v2.1; have := v2.2; simp only; omega
      · exact h4 x hx
theorem pad4_len (ps : List Pr) : (pad4 ps).length = 4 := by simp [pad4]
theorem Pk.step {P : Pb} (h : Pk P) (st : Stq) : Pk (P.step st) := by
  unfold Pb.step
  split
  · exact h
  · have h0 : Pk { P with known := P.known ++ [(st.1, pad4 st.2)] } := ⟨h.vars, h.lem⟩
    generalize { P with known := P.known ++ [(st.1, pad4 st.2)] } = P0 at *
    obtain ⟨v1, v2, v3⟩ := h0.vari st.1
    obtain ⟨h1, h2, h3, h4⟩ := Pk.prem (pad4 st.2) (P0.vari st.1).2 v1
    refine ⟨h1.vars, fun c hc => ?_⟩
    rcases List.mem_append.1 hc with hc | hc
    · exact h1.lem c hc
    · simp at hc
      subst hc
      rw [pad4_len] at h3
      refine ⟨.inl (by simp; omega), fun x hx => ?_⟩
      rcases List.mem_cons.1 hx with rfl | hx
      · have := v2.1; have := v2.2; simp only; omega
      · exact h4 x hx
theorem Pk.steps : ∀ (S : List Stq) (P : Pb), Pk P → Pk (S.foldl Pb.step P)
  | [], _, h => h
  | st :: S, _, h => Pk.steps S _ (h.step st)
/-- The variables of some pairs, one after the other. -/
def Pb.names : List Pr → Pb → List Nat × Pb
  | [], P => ([], P)
  | a :: r, P => ((P.vari a).1 :: (Pb.names r (P.vari a).2).1, (Pb.names r (P.vari a).2).2)
theorem names_snoc : ∀ (r : List Pr) (a : Pr) (P : Pb), Pb.names (r ++ [a]) P = ((Pb.names r P).1 ++ [((Pb.names r P).2.vari a).1], ((Pb.names r P).2.vari a).2)
  | [], _, _ => rfl
  | b :: r, a, P => by
    rw [List.cons_append, Pb.names, names_snoc r a (P.vari b).2]
    rfl
theorem names_len : ∀ (r : List Pr) (P : Pb), (Pb.names r P).1.length = r.length
  | [], _ => rfl
  | a :: r, P => by rw [Pb.names, List.length_cons, names_len r, List.length_cons]
/-- Pairs that have their variables. -/
theorem names_had : ∀ (r : List Pr) (P : Pb), (∀ q ∈ r, P.num q ≠ none) → (Pb.names r P).2 = P ∧ (Pb.names r P).1 = r.map fun q => (P.num q).getD 0
  | [], _, _ => ⟨rfl, rfl⟩
  | a :: r, P, h => by
    have ha := h a (by simp)
    cases hn : P.num a with
    | none => exact absurd hn ha
    | some x =>
      have e : P.vari a = (x, P) := by unfold Pb.vari; rw [hn]
      obtain ⟨h1, h2⟩ := names_had r P (fun q hq => h q (by simp [hq]))
      rw [Pb.names, e]
      refine ⟨h1, ?_⟩
      rw [List.map_cons, hn, h2]
      rfl
/-- One lemma for a pair: it is so by these. -/
def Pb.whole (P : Pb) (a : Pr) (qs : List Pr) : Pb :=
  { (Pb.names qs (P.vari a).2).2 with lemmas := (Pb.names qs (P.vari a).2).2.lemmas ++ [((P.vari a).1 : Int) :: (Pb.names qs (P.vari a).2).1.map fun n : Nat => -(n : Int)] }
/-- The variables are numbered in the order in which their pairs came, each once. -/
structure NumOk (P : Pb) : Prop where
  cnt : P.count = P.vars.length
  at_ : ∀ (i : Nat) (e : Pr × Nat), P.vars[i]? = some e → e.2 = i + 1
  nd : (P.vars.map (·.1)).Nodup
theorem NumOk.num_some {P : Pb} (h : NumOk P) {a : Pr} {x : Nat} (hx : P.num a = some x) : 1 ≤ x ∧ P.vars[x - 1]? = some (a, x) := by
  unfold Pb.num at hx
  cases hf : P.vars.find? fun e => decide (e.1 = a) with
  | none => rw [hf] at hx; cases hx
  | some e =>
    rw [hf] at hx
    cases hx
    have he := List.mem_of_find?_eq_some hf
    have hea : e.1 = a := by simpa using List.find?_some hf
    obtain ⟨i, hi, e2⟩ := List.getElem_of_mem he
    have hg : P.vars[i]? = some e := by rw [← e2]; exact List.getElem?_eq_getElem hi
    have := h.at_ i e hg
    simp only
    rw [this]
    refine ⟨Nat.le_add_left _ _, ?_⟩
    rw [Nat.add_sub_cancel, hg]
    congr 1
    exact Prod.ext hea this
theorem num_none_iff (P : Pb) (a : Pr) : P.num a = none ↔ a ∉ P.vars.map (·.1) := by
  unfold Pb.num
  rw [Option.map_eq_none_iff, List.find?_eq_none]
  constructor
  · intro h k
    obtain ⟨e, he, rfl⟩ := List.mem_map.1 k
    exact h e he (by simp)
  · intro h e he k
    exact h (List.mem_map.2 ⟨e, he, by simpa using k⟩)
theorem NumOk.num_at {P : Pb} (h : NumOk P) {i : Nat} {a : Pr} {x : Nat} (hi : P.vars[i]? = some (a, x)) : P.num a = some (i + 1) := by
  cases hn : P.num a with
  | none => exact absurd (List.mem_map.2 ⟨(a, x), List.mem_of_getElem? hi, rfl⟩) ((num_none_iff P a).1 hn)
  | some y =>
    obtain ⟨h1, h2⟩ := h.num_some hn
    have h3 : (P.vars.map (·.1))[i]? = some a := by rw [List.getElem?_map, hi]; rfl
    have h4 : (P.vars.map (·.1))[y - 1]? = some a := by rw [List.getElem?_map, h2]; rfl
    have hlt : i < (P.vars.map (·.1)).length := (List.getElem?_eq_some_iff.1 h3).1
    have := (List.getElem?_inj hlt h.nd).1 (h3.trans h4.symm)
    congr 1
    omega
theorem NumOk.inj {P : Pb} (h : NumOk P) {a b : Pr} {x : Nat} (ha : P.num a = some x) (hb : P.num b = some x) : a = b := by
  have h1 := (h.num_some ha).2
  have h2 := (h.num_some hb).2
  rw [h1] at h2
  cases h2
  rfl
theorem NumOk.vari {P : Pb} (h : NumOk P) (a : Pr) : NumOk (P.vari a).2 ∧ (P.vari a).2.vars.map (·.1) = addP (P.vars.map (·.1)) [a] := by
  unfold Pb.vari
  cases hn : P.num a with
  | some x =>
    refine ⟨h, ?_⟩
    have : a ∈ P.vars.map (·.1) := by
      refine Classical.byContradiction fun k => ?_
      rw [(num_none_iff P a).2 k] at hn
      cases hn
    simp only [addP, if_pos this]
  | none =>
    have hno := (num_none_iff P a).1 hn
    refine ⟨⟨?_, fun i e hi => ?_, ?_⟩, ?_⟩
    · simp [h.cnt]
    · simp only at hi
      by_cases hlt : i < P.vars.length
      · rw [List.getElem?_append_left hlt] at hi
        exact h.at_ i e hi
      · rw [List.getElem?_append_right (by omega)] at hi
        have : i - P.vars.length = 0 := by
          have := (List.getElem?_eq_some_iff.1 hi).1
          simp at this
          omega
        rw [this] at hi
        simp at hi
        subst hi
        simp only [h.cnt]
        omega
    · simp only [List.map_append, List.map_cons, List.map_nil]
      rw [List.nodup_append]
      refine ⟨h.nd, by simp, fun x hx y hy => ?_⟩
      simp only [List.mem_singleton] at hy
      subst hy
      exact fun e => hno (e ▸ hx)
    · simp only [List.map_append, List.map_cons, List.map_nil, addP, if_neg hno]
theorem addP_app (l : List Pr) : ∀ (r s : List Pr), addP l (r ++ s) = addP (addP l r) s := by
  intro r
  induction r generalizing l with
  | nil => intro s; rfl
  | cons a r ih => intro s; exact ih _ s
theorem NumOk.names : ∀ (r : List Pr) (P : Pb), NumOk P → NumOk (Pb.names r P).2 ∧ (Pb.names r P).2.vars.map (·.1) = addP (P.vars.map (·.1)) r
  | [], P, h => ⟨h, rfl⟩
  | a :: r, P, h => by
    obtain ⟨h1, h2⟩ := h.vari a
    obtain ⟨h3, h4⟩ := NumOk.names r (P.vari a).2 h1
    refine ⟨h3, ?_⟩
    rw [Pb.names]
    simp only
    rw [h4, h2]
    exact (addP_app _ [a] r).symm
end Go.Proofs.YtlehlgipbhfioaaGreat

namespace Go.Proofs.YtlehlgipbhfioaaGreat
open Go.RowKit Go.Maps

theorem range_setq (n i : Nat) (hi : i < n) : (List.range i ++ List.replicate (n - i) 0).set i i = List.range (i + 1) ++ List.replicate (n - (i + 1)) 0 := by
  have e : n - i = (n - (i + 1)) + 1 := by omega
  rw [List.set_append_right _ _ (by simp), List.length_range, Nat.sub_self, e, List.replicate_succ, List.set_cons_zero, List.range_succ, List.append_assoc]
  rfl

set_option maxRecDepth 100000 in
set_option maxHeartbeats 1000000 in
theorem dall_in (w : World) (pb : Nat) (fa : Option Addr) (n fc : Nat) (hn : n ≤ 1048576) (c2 : w.cell? ⟨pb, 2, none⟩ = some (.slice fa n fc)) :
    Calls Tryz.prog 23 #[.pointer (some ⟨pb, 0, none⟩)] w fun e w' => e = .returned (.slice (some ⟨w.heap.size, 0, none⟩) n n) ∧ RowN w' w.heap.size (List.range n) ∧ Below w.heap.size w w' := by
  have m1 := make_intsq w n (by omega)
  have HI0 : Hid (RowN (w.alloc (.cells (Array.replicate n (Value.int .i64 0)) 3)) w.heap.size (List.range 0 ++ List.replicate (n - 0) 0) ∧ Below w.heap.size w (w.alloc (.cells (Array.replicate n (Value.int .i64 0)) 3))) := by
    refine ⟨?_, (Below.refl _ _).alloc (Nat.le_refl _) _⟩
    unfold RowN
    rw [heap_alloc_new]
    simp [i64]
  go_enter Tryz.func23, Tryz.ntmps23
  go_wp2_with fail
  generalize w.alloc (.cells (Array.replicate n (Value.int .i64 0)) 3) = w1 at *
  obtain ⟨g, hg⟩ : ∃ g, w.heap.size = g := ⟨_, rfl⟩
  have HG : Hid _ := hg
  rw [hg] at HI0
  simp only [hg]
  clear hg m1
  go_loopw [13] (fun t6 W => ∃ i : Nat, i ≤ n ∧ t6 = .int .i64 (i : Int) ∧ Hid (RowN W g (List.range i ++ List.replicate (n - i) 0) ∧ Below g w W)) (fun t6 _ => n - (intOf t6).toNat)
  case atStart => exact ⟨0, Nat.zero_le _, rfl, HI0⟩
  case round =>
    obtain ⟨i, hi, rfl, HJ⟩ := hrel
    clear HI0
    by_cases hlt : i < n
    · have di : decide ((i : Int) < (n : Int)) = true := decide_eq_true (by omega)
      have hwi : IntKind.i64.wrap ((i : Int) + 1) = (i : Int) + 1 := wrap_nat1 (by omega)
      have hl : i < (List.range i ++ List.replicate (n - i) 0).length := by simp; omega
      have q1 := HJ.out.1.cell (i := i) (List.getElem?_eq_getElem hl)
      have q2 := HJ.out.1.frozen i
      have HF : Hid (RowN (wr.setCell ⟨g, i, none⟩ (.int .i64 (i : Int))) g (List.range (i + 1) ++ List.replicate (n - (i + 1)) 0) ∧ Below g w (wr.setCell ⟨g, i, none⟩ (.int .i64 (i : Int)))) := by
        refine ⟨?_, HJ.out.2.setCell (p := ⟨g, i, none⟩) (Nat.le_refl _) _⟩
        have := HJ.out.1.set i i
        rw [range_setq n i hlt] at this
        exact this
      generalize ((List.range i ++ List.replicate (n - i) 0)[i]'hl) = y at *
      clear HJ hl
      go_wp2_with fail
      exact ⟨⟨i + 1, hlt, by simp, HF⟩, by simp [intOf]; omega⟩
    · have di : decide ((i : Int) < (n : Int)) = false := decide_eq_false (by omega)
      obtain rfl : i = n := by omega
      have HF : Hid (RowN wr w.heap.size (List.range i) ∧ Below w.heap.size w wr) := by
        rw [HG.out]
        have := HJ.out
        rw [Nat.sub_self, List.replicate_zero, List.append_nil] at this
        exact this
      clear HJ
      go_wp2_with fail
      go_ret
      rw [HG.out] at *
      exact ⟨rfl, by rw [← HG.out]; exact HF.out.1, by rw [← HG.out]; exact HF.out.2⟩
end Go.Proofs.YtlehlgipbhfioaaGreat

namespace Go.Proofs.YtlehlgipbhfioaaGreat
open Go.RowKit Go.Maps

/-- Whether a Form is whole, but for its Kids. -/
def whQ (op x y : Int) (kn n : Nat) : Bool :=
  if op = 0 then decide (kn = 0) && (decide (0 ≤ x ∧ x < n) && decide (0 ≤ y ∧ y < n))
  else if op = 1 then decide (kn = 1) && decide (x = 0 ∧ y = 0)
  else if op = 2 ∨ op = 3 ∨ op = 4 then decide (kn = 2) && decide (x = 0 ∧ y = 0) else false

set_option maxRecDepth 100000 in
set_option maxHeartbeats 1000000 in
theorem isWhole_0 (w : World) (b o : Nat) (x y : Int) (ka : Option Addr) (kn kc n : Nat) (c0 : w.cell? ⟨b, o, none⟩ = some (.int .i64 0)) (c1 : w.cell? ⟨b, o + 1, none⟩ = some (.int .i64 x)) (c2 : w.cell? ⟨b, o + 2, none⟩ = some (.int .i64 y)) (c3 : w.cell? ⟨b, o + 3, none⟩ = some (.slice ka kn kc)) :
    Calls Tryz.prog 76 #[.pointer (some ⟨b, o, none⟩), .int .i64 (n : Int)] w fun e w' => e = .returned (.bool (whQ 0 x y kn n)) ∧ Below w.heap.size w w' := by
  have B1 : ∀ W, _ := fun W => below_in W x n
  have B2 : ∀ W, _ := fun W => below_in W y n
  by_cases hk : kn = 0
  · subst hk
    cases hx : decide (0 ≤ x ∧ x < (n : Int))
    · rw [hx] at B1
      have HW : Hid (whQ 0 x y 0 n = false) := by show _ = _; simp only [whQ, if_true, hx, Bool.false_and, Bool.and_false]
      clear hx
      go_enter Tryz.func76, Tryz.ntmps76
      go_wp2_with (first | (go_at_call 116; refine (B1 _).mono ?_; rintro e w3 ⟨rfl, rfl⟩))
      go_ret
      exact ⟨by rw [HW.out]; rfl, Below.refl _ _⟩
    · rw [hx] at B1
      have HW : Hid (whQ 0 x y 0 n = decide (0 ≤ y ∧ y < (n : Int))) := by show _ = _; simp only [whQ, if_true, hx, Bool.true_and, decide_true]
      clear hx
      generalize decide (0 ≤ y ∧ y < (n : Int)) = yb at *
      go_enter Tryz.func76, Tryz.ntmps76
      go_wp2_with (first | (go_at_call 116; refine (B1 _).mono ?_; rintro e w3 ⟨rfl, rfl⟩; refine Aside.out ?_))
      delta Aside
      apply_assumption
      go_wp2_with (first | (go_at_call 116; refine (B2 _).mono ?_; rintro e w3 ⟨rfl, rfl⟩))
      go_ret
      exact ⟨by rw [HW.out]; rfl, Below.refl _ _⟩
  · have hk2 : ((kn : Int) == 0) = false := by simp; omega
    have HW : Hid (whQ 0 x y kn n = false) := by show _ = _; simp only [whQ, if_true, decide_eq_false hk, Bool.false_and]
    go_enter Tryz.func76, Tryz.ntmps76
    go_wp2_with fail
    go_ret
    exact ⟨by rw [HW.out]; rfl, Below.refl _ _⟩

set_option maxRecDepth 100000 in
set_option maxHeartbeats 1000000 in
theorem isWhole_1 (w : World) (b o : Nat) (x y : Int) (ka : Option Addr) (kn kc n : Nat) (c0 : w.cell? ⟨b, o, none⟩ = some (.int .i64 1)) (c1 : w.cell? ⟨b, o + 1, none⟩ = some (.int .i64 x)) (c2 : w.cell? ⟨b, o + 2, none⟩ = some (.int .i64 y)) (c3 : w.cell? ⟨b, o + 3, none⟩ = some (.slice ka kn kc)) :
    Calls Tryz.prog 76 #[.pointer (some ⟨b, o, none⟩), .int .i64 (n : Int)] w fun e w' => e = .returned (.bool (whQ 1 x y kn n)) ∧ Below w.heap.size w w' := by
  by_cases hk : kn = 1
  · subst hk
    by_cases hx : x = 0
    · subst hx
      by_cases hy : y = 0
      · subst hy
        have HW : Hid (whQ 1 0 0 1 n = true) := by show _ = _; simp [whQ]
        go_enter Tryz.func76, Tryz.ntmps76
        go_wp2_with fail
        go_ret
        exact ⟨by rw [HW.out]; rfl, Below.refl _ _⟩
      · have HW : Hid (whQ 1 0 y 1 n = false) := by show _ = _; simp [whQ, hy]
        go_enter Tryz.func76, Tryz.ntmps76
        go_wp2_with fail
        go_ret
        exact ⟨by rw [HW.out]; rfl, Below.refl _ _⟩
    · have HW : Hid (whQ 1 x y 1 n = false) := by show _ = _; simp [whQ, hx]
      go_enter Tryz.func76, Tryz.ntmps76
      go_wp2_with fail
      go_ret
      exact ⟨by rw [HW.out]; rfl, Below.refl _ _⟩
  · have hk2 : ((kn : Int) == 1) = false := by simp; omega
    have HW : Hid (whQ 1 x y kn n = false) := by show _ = _; simp [whQ, hk]
    go_enter Tryz.func76, Tryz.ntmps76
    go_wp2_with fail
    go_ret
    exact ⟨by rw [HW.out]; rfl, Below.refl _ _⟩

set_option maxRecDepth 100000 in
set_option maxHeartbeats 1000000 in
theorem isWhole_2 (w : World) (b o : Nat) (x y : Int) (ka : Option Addr) (kn kc n : Nat) (c0 : w.cell? ⟨b, o, none⟩ = some (.int .i64 2)) (c1 : w.cell? ⟨b, o + 1, none⟩ = some (.int .i64 x)) (c2 : w.cell? ⟨b, o + 2, none⟩ = some (.int .i64 y)) (c3 : w.cell? ⟨b, o + 3, none⟩ = some (.slice ka kn kc)) :
    Calls Tryz.prog 76 #[.pointer (some ⟨b, o, none⟩), .int .i64 (n : Int)] w fun e w' => e = .returned (.bool (whQ 2 x y kn n)) ∧ Below w.heap.size w w' := by
  by_cases hk : kn = 2
  · subst hk
    by_cases hx : x = 0
    · subst hx
      by_cases hy : y = 0
      · subst hy
        have HW : Hid (whQ 2 0 0 2 n = true) := by show _ = _; simp [whQ]
        go_enter Tryz.func76, Tryz.ntmps76
        go_wp2_with fail
        go_ret
        exact ⟨by rw [HW.out]; rfl, Below.refl _ _⟩
      · have HW : Hid (whQ 2 0 y 2 n = false) := by show _ = _; simp [whQ, hy]
        go_enter Tryz.func76, Tryz.ntmps76
        go_wp2_with fail
        go_ret
        exact ⟨by rw [HW.out]; rfl, Below.refl _ _⟩
    · have HW : Hid (whQ 2 x y 2 n = false) := by show _ = _; simp [whQ, hx]
      go_enter Tryz.func76, Tryz.ntmps76
      go_wp2_with fail
      go_ret
      exact ⟨by rw [HW.out]; rfl, Below.refl _ _⟩
  · have hk2 : ((kn : Int) == 2) = false := by simp; omega
    have HW : Hid (whQ 2 x y kn n = false) := by show _ = _; simp [whQ, hk]
    go_enter Tryz.func76, Tryz.ntmps76
    go_wp2_with fail
    go_ret
    exact ⟨by rw [HW.out]; rfl, Below.refl _ _⟩

set_option maxRecDepth 100000 in
set_option maxHeartbeats 1000000 in
theorem isWhole_3 (w : World) (b o : Nat) (x y : Int) (ka : Option Addr) (kn kc n : Nat) (c0 : w.cell? ⟨b, o, none⟩ = some (.int .i64 3)) (c1 : w.cell? ⟨b, o + 1, none⟩ = some (.int .i64 x)) (c2 : w.cell? ⟨b, o + 2, none⟩ = some (.int .i64 y)) (c3 : w.cell? ⟨b, o + 3, none⟩ = some (.slice ka kn kc)) :
    Calls Tryz.prog 76 #[.pointer (some ⟨b, o, none⟩), .int .i64 (n : Int)] w fun e w' => e = .returned (.bool (whQ 3 x y kn n)) ∧ Below w.heap.size w w' := by
  by_cases hk : kn = 2
  · subst hk
    by_cases hx : x = 0
    · subst hx
      by_cases hy : y = 0
      · subst hy
        have HW : Hid (whQ 3 0 0 2 n = true) := by show _ = _; simp [whQ]
        go_enter Tryz.func76, Tryz.ntmps76
        go_wp2_with fail
        go_ret
        exact ⟨by rw [HW.out]; rfl, Below.refl _ _⟩
      · have HW : Hid (whQ 3 0 y 2 n = false) := by show _ = _; simp [whQ, hy]
        go_enter Tryz.func76, Tryz.ntmps76
        go_wp2_with fail
        go_ret
        exact ⟨by rw [HW.out]; rfl, Below.refl _ _⟩
    · have HW : Hid (whQ 3 x y 2 n = false) := by show _ = _; simp [whQ, hx]
      go_enter Tryz.func76, Tryz.ntmps76
      go_wp2_with fail
      go_ret
      exact ⟨by rw [HW.out]; rfl, Below.refl _ _⟩
  · have hk2 : ((kn : Int) == 2) = false := by simp; omega
    have HW : Hid (whQ 3 x y kn n = false) := by show _ = _; simp [whQ, hk]
    go_enter Tryz.func76, Tryz.ntmps76
    go_wp2_with fail
    go_ret
    exact ⟨by rw [HW.out]; rfl, Below.refl _ _⟩

set_option maxRecDepth 100000 in
set_option maxHeartbeats 1000000 in
theorem isWhole_4 (w : World) (b o : Nat) (x y : Int) (ka : Option Addr) (kn kc n : Nat) (c0 : w.cell? ⟨b, o, none⟩ = some (.int .i64 4)) (c1 : w.cell? ⟨b, o + 1, none⟩ = some (.int .i64 x)) (c2 : w.cell? ⟨b, o + 2, none⟩ = some (.int .i64 y)) (c3 : w.cell? ⟨b, o + 3, none⟩ = some (.slice ka kn kc)) :
    Calls Tryz.prog 76 #[.pointer (some ⟨b, o, none⟩), .int .i64 (n : Int)] w fun e w' => e = .returned (.bool (whQ 4 x y kn n)) ∧ Below w.heap.size w w' := by
  by_cases hk : kn = 2
  · subst hk
    by_cases hx : x = 0
    · subst hx
      by_cases hy : y = 0
      · subst hy
        have HW : Hid (whQ 4 0 0 2 n = true) := by show _ = _; simp [whQ]
        go_enter Tryz.func76, Tryz.ntmps76
        go_wp2_with fail
        go_ret
        exact ⟨by rw [HW.out]; rfl, Below.refl _ _⟩
      · have HW : Hid (whQ 4 0 y 2 n = false) := by show _ = _; simp [whQ, hy]
        go_enter Tryz.func76, Tryz.ntmps76
        go_wp2_with fail
        go_ret
        exact ⟨by rw [HW.out]; rfl, Below.refl _ _⟩
    · have HW : Hid (whQ 4 x y 2 n = false) := by show _ = _; simp [whQ, hx]
      go_enter Tryz.func76, Tryz.ntmps76
      go_wp2_with fail
      go_ret
      exact ⟨by rw [HW.out]; rfl, Below.refl _ _⟩
  · have hk2 : ((kn : Int) == 2) = false := by simp; omega
    have HW : Hid (whQ 4 x y kn n = false) := by show _ = _; simp [whQ, hk]
    go_enter Tryz.func76, Tryz.ntmps76
    go_wp2_with fail
    go_ret
    exact ⟨by rw [HW.out]; rfl, Below.refl _ _⟩

set_option maxRecDepth 100000 in
set_option maxHeartbeats 1000000 in
theorem dWhole_in (w : World) (b o : Nat) (op x y : Int) (ka : Option Addr) (kn kc n : Nat) (c0 : w.cell? ⟨b, o, none⟩ = some (.int .i64 op)) (c1 : w.cell? ⟨b, o + 1, none⟩ = some (.int .i64 x)) (c2 : w.cell? ⟨b, o + 2, none⟩ = some (.int .i64 y)) (c3 : w.cell? ⟨b, o + 3, none⟩ = some (.slice ka kn kc)) :
    Calls Tryz.prog 76 #[.pointer (some ⟨b, o, none⟩), .int .i64 (n : Int)] w fun e w' => e = .returned (.bool (whQ op x y kn n)) ∧ Below w.heap.size w w' := by
  by_cases h0 : op = 0
  · subst h0; exact isWhole_0 w b o x y ka kn kc n c0 c1 c2 c3
  by_cases h1 : op = 1
  · subst h1; exact isWhole_1 w b o x y ka kn kc n c0 c1 c2 c3
  by_cases h2 : op = 2
  · subst h2; exact isWhole_2 w b o x y ka kn kc n c0 c1 c2 c3
  by_cases h3 : op = 3
  · subst h3; exact isWhole_3 w b o x y ka kn kc n c0 c1 c2 c3
  by_cases h4 : op = 4
  · subst h4; exact isWhole_4 w b o x y ka kn kc n c0 c1 c2 c3
  have HW : Hid (whQ op x y kn n = false) := by show _ = _; simp [whQ, h0, h1, h2, h3, h4]
  have d0 : (op == 0) = false := by simpa using h0
  have d1 : (op == 1) = false := by simpa using h1
  have d2 : (op == 2) = false := by simpa using h2
  have d3 : (op == 3) = false := by simpa using h3
  have d4 : (op == 4) = false := by simpa using h4
  clear h0 h1 h2 h3 h4
  go_enter Tryz.func76, Tryz.ntmps76
  go_wp2_with fail
  go_ret
  exact ⟨by rw [HW.out]; rfl, Below.refl _ _⟩

end Go.Proofs.YtlehlgipbhfioaaGreat

namespace Go.Proofs.YtlehlgipbhfioaaGreat
open Go.RowKit Go.Maps

/-- A pointer into cells that are nowhere shared with a string. -/
def PtOk (w : World) (v : Value) : Prop := ∃ b o c t, v = .pointer (some ⟨b, o, none⟩) ∧ w.heap[b]? = some (.cells c t (0, 0))

theorem eqPtr (w : World) (u v : Value) (hu : PtOk w u) (hv : PtOk w v) : ∃ r, (Op.equal 161 u v).run Tryz.prog w = .ok r w ∧ (r = true → v = u) := by
  obtain ⟨b, o, c, t, rfl, h1⟩ := hu
  obtain ⟨b', o', c', t', rfl, h2⟩ := hv
  have hu : Tryz.prog.underlying 161 = some (.pointer 36) := Tryz.underlying161
  have hz := Tryz.sizeOf36 w
  have key : (Op.equalIn 10000 161 (.pointer (some ⟨b, o, none⟩)) (.pointer (some ⟨b', o', none⟩))).run Tryz.prog w = (sameAddr ⟨b, o, none⟩ ⟨b', o', none⟩).run Tryz.prog w := by
    rw [show (10000 : Nat) = 9999 + 1 from rfl, Op.equalIn]
    simp [run_underlying hu, hz]
  by_cases e : (⟨b, o, none⟩ : Addr) = ⟨b', o', none⟩
  · exact ⟨true, by rw [show Op.equal 161 = Op.equalIn 10000 161 from rfl, key, e]; exact run_sameAddr_same w _, fun _ => by rw [e]⟩
  · exact ⟨false, by rw [show Op.equal 161 = Op.equalIn 10000 161 from rfl, key]; exact run_sameAddr_other w e h1 h2, by simp⟩

theorem findPtr (w : World) (k : Value) (hk : PtOk w k) : ∀ (es : List MapEntry) (i : Nat), (∀ e ∈ es, PtOk w e.key) → ∃ r, (Instr.findAsking 161 k es i).run Tryz.prog w = .ok r w ∧ ∀ j v, r = some (j, v) → ∃ e, i ≤ j ∧ es[j - i]? = some e ∧ e.val = v ∧ e.key = k
  | [], i, _ => ⟨none, by simp [Instr.findAsking], by simp⟩
  | e :: es, i, h => by
    obtain ⟨r, hr, hs⟩ := eqPtr w k e.key hk (h e (by simp))
    cases r
    · obtain ⟨r2, h1, h2⟩ := findPtr w k hk es (i + 1) (fun e he => h e (by simp [he]))
      refine ⟨r2, by simp [Instr.findAsking, hr, h1], fun j v hv => ?_⟩
      obtain ⟨e', hi, he', e2⟩ := h2 j v hv
      exact ⟨e', by omega, by rw [show j - i = (j - (i + 1)) + 1 by omega]; simpa using he', e2⟩
    · exact ⟨some (i, e.val), by simp [Instr.findAsking, hr], fun j v hv => by cases hv; exact ⟨e, Nat.le_refl _, by simp, rfl, hs rfl⟩⟩

/-- A set of pointers, whichever, into what lay at w0. -/
def PtSet (w0 w : World) (mb : Nat) : Prop := ∃ es clock, w.heap[mb]? = some (Obj.map es clock) ∧ ∀ e ∈ es.toList, PtOk w0 e.key ∧ e.val = .agg #[]
theorem PtOk.up {w0 w : World} (hB : Below w0.heap.size w0 w) {v : Value} (h : PtOk w0 v) : PtOk w v := by
  obtain ⟨b, o, c, t, e, h1⟩ := h
  exact ⟨b, o, c, t, e, (hB.block b (Array.getElem?_eq_some_iff.1 h1).1).trans h1⟩
theorem PtSet.keep {w0 w w' : World} {mb : Nat} (h : PtSet w0 w mb) (hb : w'.heap[mb]? = w.heap[mb]?) : PtSet w0 w' mb := by
  obtain ⟨es, clock, h1, h2⟩ := h
  exact ⟨es, clock, hb.trans h1, h2⟩
theorem PtSet.new (w0 W : World) : PtSet w0 (W.alloc (.map #[] 0)) W.heap.size := ⟨#[], 0, heap_alloc_new _ _, fun e h => by simp at h⟩

theorem ckPtr (w : World) (b : Bool) (k : Value) (hk : PtOk w k) : (Instr.checkKey b 10000 161 k).run Tryz.prog w = .ok () w := by
  obtain ⟨b1, o, c, t, rfl, h1⟩ := hk
  have hu : Tryz.prog.underlying 161 = some (.pointer 36) := Tryz.underlying161
  rw [show (10000 : Nat) = 9999 + 1 from rfl, Instr.checkKey]
  simp [run_underlying hu]
theorem fkPtr (w : World) (k : Value) (hk : PtOk w k) (es : List MapEntry) (h : ∀ e ∈ es, PtOk w e.key) : ∃ r, (Instr.findKey 161 k es).run Tryz.prog w = .ok r w ∧ ∀ j v, r = some (j, v) → ∃ e, es[j]? = some e ∧ e.val = v ∧ e.key = k := by
  have hu : Tryz.prog.underlying 161 = some (.pointer 36) := Tryz.underlying161
  cases es with
  | nil => exact ⟨none, by simp [Instr.findKey, run_underlying hu, Instr.findNow], by simp⟩
  | cons e es =>
    obtain ⟨r, h1, h2⟩ := findPtr w k hk (e :: es) 0 h
    refine ⟨r, ?_, fun j v hv => by obtain ⟨e, _, he, x⟩ := h2 j v hv; exact ⟨e, by simpa using he, x⟩⟩
    clear h2
    obtain ⟨b1, o, c, t, rfl, _⟩ := hk
    have hn : Instr.findNow (.pointer 36) (.pointer (some ⟨b1, o, none⟩)) (e :: es) 0 = none := by
      simp [Instr.findNow, Instr.sameNow]
    simp [Instr.findKey, run_underlying hu, hn, h1]
theorem PtSet.look {w0 w : World} {mb : Nat} (h : PtSet w0 w mb) (hB : Below w0.heap.size w0 w) {k : Value} (hk0 : PtOk w0 k) : ∃ r : Bool, (Instr.lookup 160 (.map (some mb)) k true).run Tryz.prog w = .ok (.tuple #[.agg #[], .bool r]) w := by
  obtain ⟨es, clock, h1, h2⟩ := h
  have hk := hk0.up hB
  have hu : Tryz.prog.underlying 160 = some (.map 161 162) := Tryz.underlying160
  obtain ⟨r, r1, r2⟩ := fkPtr w k hk es.toList (fun e he => (h2 e he).1.up hB)
  have ck := ckPtr w es.isEmpty k hk
  have hz := zeroU w
  have hg := Go.MapKept.run_getObj_map (P := Tryz.prog) h1
  cases r with
  | none => exact ⟨false, by simp [Instr.lookup, run_underlying hu, hg, ck, r1, hz]⟩
  | some p =>
    obtain ⟨e, he, hv, _⟩ := r2 p.1 p.2 rfl
    have hv2 : p.2 = .agg #[] := by rw [← hv]; exact (h2 e (List.mem_of_getElem? he)).2
    exact ⟨true, by simp [Instr.lookup, run_underlying hu, hg, ck, r1, hv2]⟩

theorem PtSet.set {w0 w : World} {mb : Nat} {es es' : Array MapEntry} {clock c' : Nat} (h1 : w.heap[mb]? = some (Obj.map es clock)) (h2 : ∀ e ∈ es'.toList, PtOk w0 e.key ∧ e.val = .agg #[]) :
    PtSet w0 { w with heap := w.heap.setIfInBounds mb (.map es' c') } mb ∧ Kept1 mb w { w with heap := w.heap.setIfInBounds mb (.map es' c') } := by
  have H := Go.MapKept.heap_set (o' := .map es' c') h1
  exact ⟨⟨es', c', H.1, h2⟩, ⟨rfl, rfl, rfl, by simp, fun k _ hs => H.2 k hs⟩⟩
theorem PtSet.store {w0 w : World} {mb : Nat} (h : PtSet w0 w mb) (hB : Below w0.heap.size w0 w) {k : Value} (hk0 : PtOk w0 k) : ∃ w', (Instr.mapUpdate 160 (.map (some mb)) k (.agg #[])).run Tryz.prog w = .ok () w' ∧ PtSet w0 w' mb ∧ Kept1 mb w w' := by
  obtain ⟨es, clock, h1, h2⟩ := h
  have hk := hk0.up hB
  have hu : Tryz.prog.underlying 160 = some (.map 161 162) := Tryz.underlying160
  obtain ⟨r, r1, r2⟩ := fkPtr w k hk es.toList (fun e he => (h2 e he).1.up hB)
  have ck := ckPtr w false k hk
  have hg := Go.MapKept.run_getObj_map (P := Tryz.prog) h1
  cases r with
  | none =>
    refine ⟨_, by simp [Instr.mapUpdate, run_underlying hu, hg, ck, r1, Go.MapKept.run_setObj_map _ h1]; rfl, PtSet.set h1 ?_⟩
    intro e he
    simp only [Array.toList_push, List.mem_append, List.mem_singleton] at he
    rcases he with he | rfl
    · exact h2 e he
    · exact ⟨hk0, rfl⟩
  | some p =>
    obtain ⟨e, he, hv, hke⟩ := r2 p.1 p.2 rfl
    have he2 : es[p.1]? = some e := by simpa using he
    have ks : (Instr.keyThatStays k k).run Tryz.prog w = .ok k w := by
      obtain ⟨b1, o, c, t, rfl, _⟩ := hk
      simp [Instr.keyThatStays, Instr.sameBits]
    refine ⟨_, by simp [Instr.mapUpdate, run_underlying hu, hg, ck, r1, he2, hke, ks, Go.MapKept.run_setObj_map _ h1]; rfl, PtSet.set h1 ?_⟩
    intro x hx
    rcases Go.MapFrom.mem_modify hx with hx | ⟨e', _, rfl⟩
    · exact h2 x hx
    · exact ⟨hk0, rfl⟩

end Go.Proofs.YtlehlgipbhfioaaGreat

namespace Go.Proofs.YtlehlgipbhfioaaGreat
open Go.RowKit Go.Maps

set_option maxRecDepth 100000 in
set_option maxHeartbeats 1000000 in
theorem closed_in (w : World) (base p : Nat) (ev : Value) (nb fb : Nat) (l : List Tm) (h : Bk w base p ev nb fb l) (hb : Cc.Bd l) (hl : l.length ≤ 150) (pb : Nat) (c0 : w.cell? ⟨pb, 0, none⟩ = some (.pointer (some ⟨p, 0, none⟩))) (pa : Option Addr) (pc : Nat) (ps : List Pr) (hp : PsAt w (.slice pa ps.length pc) ps) (hin : ∀ q ∈ ps, q.1 < l.length ∧ q.2 < l.length) (hn : ps.length ≤ 1000000) :
    Calls Tryz.prog 47 #[.pointer (some ⟨pb, 0, none⟩), .slice pa ps.length pc] w fun e w' => ∃ (g : Nat → Nat) (b : Nat), e = .returned (.slice (some ⟨b, 0, none⟩) l.length l.length) ∧ w.heap.size ≤ b ∧ w'.rowIs b 3 l.length (fun i => .int .i64 (g i : Int)) ∧ (∀ i j, i < l.length → j < l.length → (g i = g j ↔ Cc.Cg l ps i j)) ∧ Below w.heap.size w w' := by
  have KN := kNew_in w base p ev nb fb l h hb hl
  have HP : Hid (∀ W : World, Below w.heap.size w W → ∀ (j : Nat) (p : Pr), ps[j]? = some p → ∃ b off, pa = some ⟨b, off, none⟩ ∧ W.cell? ⟨b, off + j * 2, none⟩ = some (.int .i64 (p.1 : Int)) ∧ W.cell? ⟨b, off + j * 2 + 1, none⟩ = some (.int .i64 (p.2 : Int))) := fun W K j p hj => by
    obtain ⟨a, c, e, h⟩ := hp.below K
    simp only [Value.slice.injEq, true_and] at e
    obtain ⟨rfl, rfl⟩ := e
    rcases h with e | ⟨b, off, rfl, h⟩
    · rw [e] at hj; simp at hj
    · exact ⟨b, off, rfl, h j p hj⟩
  have HIN : Hid _ := hin
  obtain ⟨n, hN⟩ : ∃ n, ps.length = n := ⟨_, rfl⟩
  rw [hN] at hn ⊢
  have HN : Hid _ := hN
  clear h hb hp hin hN
  go_enter Tryz.func47, Tryz.ntmps47
  go_wp2_with (first | (go_at_call 5; refine KN.mono ?_; rintro e w1 ⟨c, rfl, HC, K1⟩))
  have HI0 : Hid (∃ c' : Ks, c'.pc = c.pc ∧ Cl w1 w.heap.size l c' (ps.take 0) ∧ Below w.heap.size w w1) := ⟨c, rfl, by simpa using HC, Kept.below K1 (Nat.le_refl _) (fun _ e => e.elim)⟩
  clear KN HC K1 c0
  generalize c.pc = q at *
  go_loopw [15] (fun t15 W => ∃ i : Nat, i ≤ n ∧ t15 = .int .i64 (i : Int) ∧ Hid (∃ c' : Ks, c'.pc = q ∧ Cl W w.heap.size l c' (ps.take i) ∧ Below w.heap.size w W)) (fun t15 _ => n - (intOf t15).toNat)
  case atStart => exact ⟨0, Nat.zero_le _, rfl, HI0⟩
  case round =>
    obtain ⟨i, hi, rfl, HJ⟩ := hrel
    clear HI0
    by_cases hlt : i < n
    · have di : decide ((i : Int) < (n : Int)) = true := decide_eq_true (by omega)
      have hwi : IntKind.i64.wrap ((i : Int) + 1) = (i : Int) + 1 := wrap_nat1 (by omega)
      have hil : i < ps.length := by rw [HN.out]; exact hlt
      obtain ⟨c', hq, HC, HB⟩ := HJ.out
      obtain ⟨b, off, rfl, q1, q2⟩ := HP.out wr HB i _ (List.getElem?_eq_getElem hil)
      have hx := HIN.out _ (List.getElem_mem hil)
      have HS : Hid (ps.take (i + 1) = ps.take i ++ [ps[i]]) := by
        show _ = _
        rw [List.take_add_one, List.getElem?_eq_getElem hil, Option.toList_some]
      have hlen : (ps.take i).length = i := by simp; omega
      generalize ps[i] = x at *
      obtain ⟨x1, x2⟩ := x
      have HC2 := HC.kept0 (Kept.alloc (Kept.refl _ wr) (.cells #[.int .i64 (x1 : Int), .int .i64 (x2 : Int)] 34))
      have HB2 : Hid (Below w.heap.size w (wr.alloc (.cells #[.int .i64 (x1 : Int), .int .i64 (x2 : Int)] 34))) := HB.trans ((Below.refl _ _).alloc HB.size _)
      have KM := kMerge_yes _ w.heap.size l c' (ps.take i) HC2 x1 x2 hx.1 hx.2 (by rw [hlen]; omega)
      rw [hq, ← HS.out] at KM
      have HK : Hid (∀ k, c'.Foot k → w.heap.size ≤ k) := fun k hk => HC.foot_ge hk
      have HQ : Hid _ := hq
      clear HJ HC HC2 HB HS hlen hx hq HP HIN
      go_wp2_with (first | (go_at_call 7; refine KM.mono ?_; rintro e w3 ⟨rfl, c3, HC3, K3, hq3, -, -, -⟩))
      refine ⟨⟨i + 1, hlt, by simp, ⟨c3, hq3, HC3, HB2.out.trans (Kept.below K3 HB2.out.size (fun k hk => HK.out k hk))⟩⟩, by simp [intOf]; omega⟩
    · have di : decide ((i : Int) < (n : Int)) = false := decide_eq_false (by omega)
      obtain rfl : i = n := by omega
      obtain ⟨c', hq, HC, HB⟩ := HJ.out
      rw [List.take_of_length_le (by rw [HN.out]; exact Nat.le_refl _)] at HC
      have KC := kClasses_in wr w.heap.size l c' ps HC
      rw [hq] at KC
      have HX : Hid (_ ∧ _) := And.intro HC HB
      clear HJ HC HB HP HIN hq
      go_wp2_with (first | (go_at_call 90; refine KC.mono ?_; rintro e w3 ⟨rfl, R3, K3⟩))
      go_ret
      exact ⟨c'.z.g.lo, wr.heap.size, rfl, HX.out.2.size, R3, fun i j hi hj => HX.out.1.un.inv.fin hi hj, HX.out.2.trans (Kept.below K3 HX.out.2.size (fun _ e => e.elim))⟩
end Go.Proofs.YtlehlgipbhfioaaGreat

namespace Go.Proofs.YtlehlgipbhfioaaGreat
open Go.RowKit Go.Maps

/-- What check answers. -/
def chkE (a m : Bool) : Int := if a then (if m then 6 else 0) else 7

set_option maxRecDepth 100000 in
set_option maxHeartbeats 1000000 in
theorem check_by (w : World) (bv : Value) (pa : Option Addr) (n pc : Nat) (A M : Bool)
    (hA : Calls Tryz.prog 41 #[bv, .slice pa n pc] w fun e w' => e = .returned (.bool A) ∧ Below w.heap.size w w')
    (hM : ∀ W, Below w.heap.size w W → Calls Tryz.prog 42 #[.slice pa n pc] W fun e w' => e = .returned (.bool M) ∧ Below W.heap.size W w') :
    Calls Tryz.prog 20 #[bv, .slice pa n pc] w fun e w' => e = .returned (.int .i64 (chkE A M)) ∧ Below w.heap.size w w' := by
  cases A
  · go_enter Tryz.func20, Tryz.ntmps20
    go_wp2_with (first | (go_at_call 41; refine hA.mono ?_; rintro e w1 ⟨rfl, B1⟩))
    go_ret
    exact ⟨rfl, B1⟩
  · cases M
    all_goals
      go_enter Tryz.func20, Tryz.ntmps20
      go_wp2_with (first | (go_at_call 41; refine hA.mono ?_; rintro e w1 ⟨rfl, B1⟩; have M1 := hM w1 B1) | (go_at_call 42; refine M1.mono ?_; rintro e w2 ⟨rfl, B2⟩))
      go_ret
      exact ⟨rfl, B1.trans (B2.mono B1.size)⟩
end Go.Proofs.YtlehlgipbhfioaaGreat

namespace Go.Proofs.YtlehlgipbhfioaaGreat
open Go.RowKit Go.Maps

/-- An atom is told if its variable is true. -/
def tell1 (val : Nat → Bool) (vs : List (Pr × Nat)) (acc : List Pr) (a : Pr) : List Pr := if val ((numV vs a).getD 0 - 1) then addP acc [a] else acc
def tellL (val : Nat → Bool) (vs : List (Pr × Nat)) (acc : List Pr) (xs : List Pr) : List Pr := xs.foldl (tell1 val vs) acc
def toldN (val : Nat → Bool) (vs : List (Pr × Nat)) (am : Nat → List Pr) (acc : List Pr) (ns : List Nat) : List Pr := ns.foldl (fun acc n => tellL val vs acc (am n)) acc
theorem addP_one (acc : List Pr) (a : Pr) (q : Pr) : q ∈ addP acc [a] ↔ q ∈ acc ∨ q = a := by
  have := addP_snoc acc [] a
  rw [List.nil_append] at this
  rw [this]
  have h0 : addP acc [] = acc := by simp [addP]
  rw [h0]
  split
  · rename_i h
    constructor
    · exact .inl
    · rintro (h2 | rfl) <;> assumption
  · simp
theorem tellL_mem (val : Nat → Bool) (vs : List (Pr × Nat)) (q : Pr) : ∀ (xs acc : List Pr), q ∈ tellL val vs acc xs ↔ q ∈ acc ∨ (q ∈ xs ∧ val ((numV vs q).getD 0 - 1) = true)
  | [], acc => by simp [tellL]
  | a :: xs, acc => by
    have e : tellL val vs acc (a :: xs) = tellL val vs (tell1 val vs acc a) xs := rfl
    rw [e, tellL_mem val vs q xs, tell1]
    split
    · rename_i h
      rw [addP_one, List.mem_cons]
      constructor
      · rintro ((h1 | rfl) | ⟨h1, h2⟩)
        · exact .inl h1
        · exact .inr ⟨.inl rfl, h⟩
        · exact .inr ⟨.inr h1, h2⟩
      · rintro (h1 | ⟨rfl | h1, h2⟩)
        · exact .inl (.inl h1)
        · exact .inl (.inr rfl)
        · exact .inr ⟨h1, h2⟩
    · rename_i h
      rw [List.mem_cons]
      constructor
      · rintro (h1 | ⟨h1, h2⟩)
        · exact .inl h1
        · exact .inr ⟨.inr h1, h2⟩
      · rintro (h1 | ⟨rfl | h1, h2⟩)
        · exact .inl h1
        · exact absurd h2 h
        · exact .inr ⟨h1, h2⟩
theorem toldN_mem (val : Nat → Bool) (vs : List (Pr × Nat)) (am : Nat → List Pr) (q : Pr) : ∀ (ns : List Nat) (acc : List Pr), q ∈ toldN val vs am acc ns ↔ q ∈ acc ∨ ((∃ n ∈ ns, q ∈ am n) ∧ val ((numV vs q).getD 0 - 1) = true)
  | [], acc => by simp [toldN]
  | n :: ns, acc => by
    have e : toldN val vs am acc (n :: ns) = toldN val vs am (tellL val vs acc (am n)) ns := rfl
    rw [e, toldN_mem val vs am q ns, tellL_mem]
    constructor
    · rintro ((h1 | ⟨h1, h2⟩) | ⟨⟨m, h1, h3⟩, h2⟩)
      · exact .inl h1
      · exact .inr ⟨⟨n, by simp, h1⟩, h2⟩
      · exact .inr ⟨⟨m, by simp [h1], h3⟩, h2⟩
    · rintro (h1 | ⟨⟨m, h1, h3⟩, h2⟩)
      · exact .inl (.inl h1)
      · rcases List.mem_cons.1 h1 with rfl | h1
        · exact .inl (.inr ⟨h3, h2⟩)
        · exact .inr ⟨⟨m, h1, h3⟩, h2⟩
end Go.Proofs.YtlehlgipbhfioaaGreat

namespace Go.Proofs.YtlehlgipbhfioaaGreat
open Go.RowKit Go.Maps

/-- Formulas of a bank with N terms. -/
inductive WfR (N : Nat) : Fo → Prop where
  | eq (x y : Int) (hx : 0 ≤ x ∧ x < N) (hy : 0 ≤ y ∧ y < N) : WfR N (.mk 0 x y [])
  | neg (f : Fo) : WfR N f → WfR N (.mk 1 0 0 [f])
  | two (o : Int) (f g : Fo) : (o = 2 ∨ o = 3 ∨ o = 4) → WfR N f → WfR N g → WfR N (.mk o 0 0 [f, g])
theorem WfR.whq {N : Nat} {op x y : Int} {ks : List Fo} (h : WfR N (.mk op x y ks)) : whQ op x y ks.length N = true := by
  cases h with
  | eq _ _ hx hy => simp [whQ]; omega
  | neg f h => simp [whQ]
  | two o f g ho h k => rcases ho with rfl | rfl | rfl <;> simp [whQ]
theorem WfR.kid {N : Nat} {op x y : Int} {ks : List Fo} (h : WfR N (.mk op x y ks)) : ∀ k ∈ ks, WfR N k := by
  cases h with
  | eq => simp
  | neg f h => simpa using h
  | two o f g ho h k => intro z hz; simp at hz; rcases hz with rfl | rfl <;> assumption
theorem WfR.wf {N : Nat} {f : Fo} (h : WfR N f) : WfF f := by
  induction h with
  | eq x y hx hy => exact .eq x y
  | neg f _ ih => exact .neg f ih
  | two o f g ho _ _ ih1 ih2 => exact .two o f g ho ih1 ih2
/-- How many Forms one has. -/
def cF : Fo → Nat
  | .mk _ _ _ kids => 1 + (kids.map cF).sum
/-- What a list of Forms costs. -/
def cS (ks : List Lf) : Nat := 1 + (ks.map fun k => cF k.er).sum
theorem cS_kids (t : Lf) : cS t.kids = cF t.er := by
  cases t with
  | mk b o op x y kv kids => simp [cS, Lf.kids, Lf.er, cF, List.map_map, Function.comp_def]
def cT (ts : List (List Lf)) : Nat := (ts.map cS).sum
theorem cT_snoc (ts : List (List Lf)) (ks : List Lf) : cT (ts ++ [ks]) = cT ts + cS ks := by simp [cT]
theorem len_cT (ts : List (List Lf)) : ts.length ≤ cT ts := by
  induction ts with
  | nil => simp
  | cons a r ih =>
    have e : cT (a :: r) = cS a + cT r := by simp [cT]
    have : 1 ≤ cS a := by unfold cS; omega
    rw [e, List.length_cons]
    omega
/-- A slice of Forms of a bank with N terms. -/
def SlF (w : World) (N : Nat) (v : Value) (ks : List Lf) : Prop := KidsIn v ks ∧ ∀ k ∈ ks, Here w k ∧ WfR N k.er
theorem SlF.kid {w : World} {N : Nat} {v : Value} {ks : List Lf} (h : SlF w N v ks) {k : Lf} (hk : k ∈ ks) : SlF w N k.kv k.kids := by
  obtain ⟨h1, h2⟩ := h.2 k hk
  refine ⟨h1.kidsIn, fun z hz => ⟨h1.kid hz, ?_⟩⟩
  cases k with
  | mk b o op x y kv kids =>
    rw [Lf.er] at h2
    exact h2.kid _ (List.mem_map.2 ⟨z, hz, rfl⟩)
theorem SlF.pt {w : World} {N : Nat} {v : Value} {ks : List Lf} (h : SlF w N v ks) {k : Lf} (hk : k ∈ ks) : PtOk w (.pointer (some ⟨k.b, k.o, none⟩)) := by
  obtain ⟨c, fz, h1, _, _, _, _, rfl⟩ := (h.2 k hk).1.cells
  exact ⟨k.b, k.o, c, 36, rfl, h1⟩
/-- What areFormulas goes round with. -/
structure Tdo (w W : World) (N mb : Nat) (v : Value) (vs : List Value) (ts : List (List Lf)) : Prop where
  row : W.ownsRow w.heap.size 30 1 v vs.length vs
  len : vs.length = ts.length
  at_ : ∀ (i : Nat) (u : Value), vs[i]? = some u → ∃ ks, ts[i]? = some ks ∧ SlF w N u ks
  set : PtSet w W mb
  bel : Below w.heap.size w W

theorem Tdo.below {w W W' : World} {N mb : Nat} {v : Value} {vs : List Value} {ts : List (List Lf)} (h : Tdo w W N mb v vs ts) (hB : Below W.heap.size W W') : Tdo w W' N mb v vs ts := by
  refine ⟨ownsRow_below h.row hB, h.len, h.at_, h.set.keep (hB.block mb ?_), h.bel.trans (hB.mono h.bel.size)⟩
  obtain ⟨es, ck, e, _⟩ := h.set
  exact (Array.getElem?_eq_some_iff.1 e).1
theorem infoFs : (Tryz.prog.info? 30).map (fun i => (i.zero, i.size, i.bytes)) = some (some (.slice none 0 0), 1, 24) := by kernel_rfl
theorem sum_cF (ks : List Lf) : ks.length ≤ (ks.map fun k => cF k.er).sum := by
  induction ks with
  | nil => simp
  | cons a r ih =>
    have : 1 ≤ cF a.er := by
      cases a with
      | mk b o op x y kv kids => rw [Lf.er, cF]; omega
    simp only [List.map_cons, List.sum_cons, List.length_cons]
    omega

set_option maxRecDepth 100000 in
set_option maxHeartbeats 1000000 in
theorem areFormulas_in (w : World) (base p : Nat) (ev : Value) (nb fb : Nat) (l : List Tm) (h : Bk w base p ev nb fb l) (ka : Option Addr) (kn kc : Nat) (ks : List Lf) (hk : SlF w l.length (.slice ka kn kc) ks) (hc : cS ks ≤ 1000000) :
    Calls Tryz.prog 41 #[.pointer (some ⟨p, 0, none⟩), .slice ka kn kc] w fun e w' => e = .returned (.bool true) ∧ Below w.heap.size w w' := by
  have hmm := @run_makeMap Tryz.prog
  have HI0 : Hid (∃ vs ts, vs.length = 1 ∧ cT ts ≤ cS ks ∧ Tdo w ((w.alloc (.map #[] 0)).alloc (.cells #[.slice ka kn kc] 30)) l.length w.heap.size (.slice (some ⟨w.heap.size + 1, 0, none⟩) 1 1) vs ts) := by
    have B1 : Below w.heap.size w (w.alloc (.map #[] 0)) := (Below.refl _ _).alloc (Nat.le_refl _) _
    have B2 : Below w.heap.size w ((w.alloc (.map #[] 0)).alloc (.cells #[.slice ka kn kc] 30)) := B1.alloc B1.size _
    refine ⟨[.slice ka kn kc], [ks], rfl, by simp [cT], ⟨rfl, Or.inr ⟨w.heap.size + 1, 1, #[.slice ka kn kc], rfl, Nat.le_succ _, ?_, Nat.le_refl _, by unfold maxLen; omega, rfl, rfl⟩⟩, rfl, fun i u hu => ?_, (PtSet.new w w).keep (heap_alloc_old _ _ (by simp)), B2⟩
    · have := heap_alloc_new (w.alloc (.map #[] 0)) (.cells #[.slice ka kn kc] 30)
      simpa using this
    · match i, hu with
      | 0, hu => simp at hu; subst hu; exact ⟨ks, rfl, hk⟩
      | i + 1, hu => simp at hu
  have HBk : Hid (Bk w base p ev nb fb l) := h
  have HC : Hid (cS ks ≤ 1000000) := hc
  clear h hk hc
  go_enter Tryz.func41, Tryz.ntmps41
  go_wp2_with fail
  generalize (w.alloc (.map #[] 0)).alloc (.cells #[.slice ka kn kc] 30) = w1 at *
  obtain ⟨mb, hmb⟩ : ∃ m, w.heap.size = m := ⟨_, rfl⟩
  have HMB : Hid _ := hmb
  simp only [hmb] at HI0 ⊢
  clear hmb hmm
  go_loopg [6] (cS ks) (fun k t6 W => ∃ n cap a, t6 = .slice a n cap ∧ Hid (∃ vs ts, vs.length = n ∧ cT ts ≤ k ∧ k ≤ cS ks ∧ Tdo w W l.length mb t6 vs ts))
  case atStart => exact ⟨1, 1, _, rfl, by obtain ⟨vs, ts, h0, h1, h2⟩ := HI0.out; exact ⟨vs, ts, h0, h1, Nat.le_refl _, h2⟩⟩
  case round =>
    obtain ⟨n, cap, a, rfl, HJ⟩ := hrel
    clear HI0
    by_cases hn0 : n = 0
    · subst hn0
      have HF : Hid (Below w.heap.size w wr) := by obtain ⟨vs, ts, _, _, _, h⟩ := HJ.out; exact h.bel
      clear HJ
      go_wp2_with fail
      go_ret
      exact ⟨rfl, HF.out⟩
    · obtain ⟨m, rfl⟩ : ∃ m, n = m + 1 := ⟨n - 1, by omega⟩
      obtain ⟨vs, ts, hvl, hct, hkc, hT⟩ := HJ.out
      have hml : m < vs.length := by omega
      obtain ⟨fks, ht1, hS⟩ := hT.at_ m _ (List.getElem?_eq_getElem hml)
      obtain ⟨rb, rfl⟩ : ∃ rb, a = some ⟨rb, 0, none⟩ := by
        rcases hT.row.2 with ⟨e, h0⟩ | ⟨rb, cap', cur, e, _⟩
        · rw [hvl] at h0; cases h0
        · rw [hvl] at e; cases e; exact ⟨rb, rfl⟩
      have cm : wr.cell? ⟨rb, m, none⟩ = some vs[m] := by
        have := hT.row
        rw [hvl] at this
        rw [this.cellAt m (by omega)]
        exact List.getElem?_eq_getElem hml
      obtain ⟨fa, fc, hfv, hfc, hfk⟩ := hS.1
      have hS2 := hS
      rw [hfv] at cm hS2
      have hm6 : m ≤ 1000000 := by
        have h1 := len_cT ts
        have h2 := hT.len
        have h3 := HC.out
        omega
      have hwm : wrap64 (m : Int) = (m : Int) := wrap_nat (by omega)
      have hf6 : fks.length ≤ 1000000 := by
        have h1 := sum_cF fks
        have h2 : cS fks ≤ cT ts := by
          have : ∀ ts : List (List Lf), fks ∈ ts → cS fks ≤ cT ts := by
            intro ts
            induction ts with
            | nil => intro h; cases h
            | cons a r ih =>
              intro h
              have e : cT (a :: r) = cS a + cT r := by simp [cT]
              rcases List.mem_cons.1 h with rfl | h
              · omega
              · have := ih h; omega
          exact this ts (List.mem_of_getElem? ht1)
        have h3 := HC.out
        unfold cS at h2
        omega
      have hwm2 : IntKind.i64.wrap (m : Int) = (m : Int) := wrap_nat0 (by omega)
      have hmc : m + 1 ≤ cap := by
        rcases hT.row.2 with ⟨e, h0⟩ | ⟨rb', cap', cur, e, _, _, e3, _⟩
        · rw [hvl] at h0; cases h0
        · rw [hvl] at e e3; cases e; omega
      obtain ⟨fn, hfn⟩ : ∃ f, fks.length = f := ⟨_, rfl⟩
      rw [hfn] at cm hf6
      have HT : Hid (_ ∧ _ ∧ _ ∧ _ ∧ _ ∧ _) := And.intro hT (And.intro hS2 (And.intro hfn (And.intro hct (And.intro hvl ht1))))
      clear HJ hT hS hS2 hfk hfv hfn hct ht1
      go_wp2_with fail
      have HI1 : Hid (∃ vs ts, vs.length = m ∧ cT ts + ((fks.drop 0).map fun k => cF k.er).sum + 1 ≤ gk ∧ Tdo w wr l.length mb (.slice (some ⟨rb, 0, none⟩) m cap) vs ts) := by
        obtain ⟨hT, hS2, hfn, hct, hvl, ht1⟩ := HT.out
        have hr := hT.row
        rw [hvl] at hr
        refine ⟨vs.take m, ts.take m, by simp; omega, ?_, ?_, by have := hT.len; simp; omega, fun i u hu => ?_, hT.set, hT.bel⟩
        · have e : ts = ts.take m ++ [fks] := by
            have hl := hT.len
            refine List.ext_getElem? fun i => ?_
            by_cases hi : i < m
            · rw [List.getElem?_append_left (by simp; omega), List.getElem?_take_of_lt hi]
            · by_cases hi2 : i = m
              · subst hi2
                rw [ht1, List.getElem?_append_right (by rw [List.length_take]; omega), List.length_take, Nat.min_eq_left (by omega), Nat.sub_self]
                rfl
              · rw [List.getElem?_eq_none (by omega), List.getElem?_eq_none (by simp; omega)]
          have e2 : cT ts = cT (ts.take m) + cS fks := by conv => lhs; rw [e, cT_snoc]
          rw [List.drop_zero]
          unfold cS at e2
          omega
        · have := ownsRow_take hr (Nat.le_succ m)
          have e3 : (vs.take m).length = m := by simp; omega
          rw [e3]
          exact this
        · have him : i < m := by
            have := (List.getElem?_eq_some_iff.1 hu).1
            simp at this
            omega
          rw [List.getElem?_take_of_lt him] at hu
          obtain ⟨ks', q1, q2⟩ := hT.at_ i u hu
          exact ⟨ks', by rw [List.getElem?_take_of_lt him]; exact q1, q2⟩
      have HS : Hid (SlF w l.length (.slice fa fks.length fc) fks ∧ fks.length = fn) := ⟨HT.out.2.1, HT.out.2.2.1⟩
      clear HT cm
      go_loopw [6, 31] (fun t6 t31 W => ∃ (i n cap : Nat) (a : Option Addr), i ≤ fn ∧ t31 = .int .i64 (i : Int) ∧ t6 = .slice a n cap ∧ Hid (∃ vs ts, vs.length = n ∧ cT ts + ((fks.drop i).map fun k => cF k.er).sum + 1 ≤ gk ∧ Tdo w W l.length mb (.slice a n cap) vs ts)) (fun _ t31 _ => fn - (intOf t31).toNat)
      case atStart => exact ⟨0, m, cap, _, Nat.zero_le _, rfl, rfl, HI1⟩
      case round =>
        obtain ⟨i, n, cap2, a2, hi, rfl, rfl, HK⟩ := hrel
        clear HI1
        by_cases hlt : i < fn
        · have di : decide ((i : Int) < (fn : Int)) = true := decide_eq_true (by omega)
          have hil : i < fks.length := by rw [HS.out.2]; exact hlt
          obtain ⟨kb, ko, rfl, hko⟩ : ∃ kb ko, fa = some ⟨kb, ko, none⟩ ∧ ∀ (j : Nat) (t : Lf), fks[j]? = some t → t.b = kb ∧ t.o = ko + j * 4 := by
            obtain ⟨a', c', e, _, h2⟩ := HS.out.1.1
            cases e
            rcases h2 with h2 | ⟨kb, ko, h2, h3⟩
            · rw [h2] at hil; cases hil
            · exact ⟨kb, ko, h2, h3⟩
          have hkm := List.getElem_mem hil
          obtain ⟨hb1, ho1⟩ := hko i _ (List.getElem?_eq_getElem hil)
          have hpt := HS.out.1.pt hkm
          obtain ⟨hh1, hh2⟩ := HS.out.1.2 _ hkm
          rw [hb1, ho1] at hpt
          obtain ⟨vs2, ts2, hv2, hc2, hT2⟩ := HK.out
          obtain ⟨r, LK⟩ := hT2.set.look hT2.bel hpt
          have HT2 : Hid (vs2.length = n ∧ cT ts2 + ((fks.drop i).map fun k => cF k.er).sum + 1 ≤ gk ∧ Tdo w wr l.length mb (.slice a2 n cap2) vs2 ts2) := ⟨hv2, hc2, hT2⟩
          have HH : Hid _ := And.intro hpt (And.intro hkm (And.intro hb1 (And.intro ho1 (And.intro hh1 hh2))))
          clear HK hv2 hc2 hT2 hpt hkm hb1 ho1 hh1 hh2 hko
          have hwi : IntKind.i64.wrap ((i : Int) + 1) = (i : Int) + 1 := wrap_nat1 (by omega)
          have hBa : Below wr.heap.size wr (wr.alloc (.cells #[] 162)) := (Below.refl _ _).alloc (Nat.le_refl _) _
          have HB1 : Hid (Below w.heap.size w (wr.alloc (.cells #[] 162))) := HT2.out.2.2.bel.trans (hBa.mono HT2.out.2.2.bel.size)
          have HT3 : Hid (Tdo w (wr.alloc (.cells #[] 162)) l.length mb (.slice a2 n cap2) vs2 ts2) := HT2.out.2.2.below hBa
          have hdr : ((fks.drop i).map fun k => cF k.er).sum = cF fks[i].er + ((fks.drop (i + 1)).map fun k => cF k.er).sum := by rw [List.drop_eq_getElem_cons hil, List.map_cons, List.sum_cons]
          have HD : Hid _ := hdr
          clear hBa hdr
          cases r
          · obtain ⟨hpt, hkm, hb1, ho1, hh1, hh2⟩ := HH.out
            generalize fks[i] = k at *
            have SZ := size_in (wr.alloc (.cells #[] 162)) base p ev nb fb l (HBk.out.below HBk.out.low HB1.out)
            have hget : ∀ {a : Addr} {u : Value}, w.cell? a = some u → (wr.alloc (.cells #[] 162)).cell? a = some u := fun hc => (HB1.out.cell (World.block_lt_of_cell? w _ hc)).trans hc
            have f0 := hh1.cells.c0
            have f1 := hh1.cells.c1
            have f2 := hh1.cells.c2
            have f3 := hh1.cells.c3
            obtain ⟨ga, gc, hkv, hgc, _⟩ := hh1.kidsIn
            have hSk := HS.out.1.kid hkm
            rw [hkv] at f3 hSk
            rw [hb1, ho1] at f0 f1 f2 f3
            have WH := dWhole_in (wr.alloc (.cells #[] 162)) kb (ko + i * 4) k.op k.x k.y ga k.kids.length gc l.length (hget f0) (hget f1) (hget f2) (hget f3)
            have hwq : whQ k.op k.x k.y k.kids.length l.length = true := by
              cases k with
              | mk b o op x y kv kids =>
                rw [Lf.er] at hh2
                have := hh2.whq
                rw [List.length_map] at this
                exact this
            rw [hwq] at WH
            have hck : cS k.kids = cF k.er := cS_kids k
            have HQ : Hid _ := And.intro f3 (And.intro hpt (And.intro hSk hck))
            obtain ⟨kn2, hkn2⟩ : ∃ q, k.kids.length = q := ⟨_, rfl⟩
            clear hpt hkm hb1 ho1 hh1 hh2 f0 f1 f2 f3 hget hkv hSk hck hwq hgc HH
            go_wp2_with (first | (go_at_call 76; refine WH.mono ?_; rintro e w4 ⟨rfl, B4⟩; refine Aside.out ?_) | (go_at_call 35; refine SZ.mono ?_; rintro e w9 ⟨rfl, rfl⟩))
            delta Aside
            have HB4 : Hid (Below w.heap.size w w4) := HB1.out.trans (B4.mono HB1.out.size)
            have HT4 : Hid _ := HT3.out.below B4
            obtain ⟨w5, r1, r2, r3⟩ := HT4.out.set.store HT4.out.bel HQ.out.2.1
            have hmlt : w.heap.size ≤ mb := by rw [HMB.out]; exact Nat.le_refl _
            obtain ⟨es5, ck5, he5, _⟩ := HT4.out.set
            have HT5 : Hid (Tdo w w5 l.length mb (.slice a2 n cap2) vs2 ts2) := by
              refine ⟨ownsRow_block HT4.out.row (fun b hb => r3.block b (ownsRow_lt HT4.out.row hb).2 (fun e => ?_)), HT4.out.len, HT4.out.at_, r2, ?_⟩
              · subst e
                rcases HT4.out.row.2 with ⟨e, _⟩ | ⟨g', cap', cur, e, _, e2, _⟩
                · rw [e] at hb; simp [Value.ownBlock] at hb
                · rw [e] at hb
                  simp [Value.ownBlock] at hb
                  subst hb
                  rw [he5] at e2
                  cases e2
              · have b4 := HB4.out
                exact ⟨r3.os.trans b4.os, r3.tape.trans b4.tape, r3.output.trans b4.output, Nat.le_trans b4.size r3.size, fun j hj => (r3.block j (Nat.lt_of_lt_of_le hj b4.size) (by omega)).trans (b4.block j hj)⟩
            have f3 : w5.cell? ⟨kb, ko + i * 4 + 3, none⟩ = some (.slice ga k.kids.length gc) := (HT5.out.bel.cell (World.block_lt_of_cell? w _ HQ.out.1)).trans HQ.out.1
            obtain ⟨i0, hi0, hz0, hz1, hz2⟩ := info_parts infoFs
            have hn6 : n ≤ 1000000 := by
              have h1 := len_cT ts2
              have h2 := HT5.out.len
              have h3 := HC.out
              have h4 := HT2.out.1
              have h5 := HT2.out.2.1
              omega
            have hrow := HT5.out.row
            rw [HT2.out.1] at hrow
            rw [hkn2] at f3
            have hrow2 := hrow.alloc (.cells #[.slice ga kn2 gc] 30)
            have hwsz := HT5.out.bel.size
            clear r2 r3 he5 HT4 HB4 B4 hrow
            apply_assumption
            go_wp2_with (first | (at_builtin; refine Aside.out ?_))
            delta Aside
            refine wpList_append_own_at _ rfl _ _ 130 rfl w.heap.size 30 i0 _ 1 24 Tryz.underlying130 hi0 hz0 hz1 hz2 rfl (by decide) _ _ _ rfl hrow2 ⟨_, 0, none⟩ 1 1 [.slice ga kn2 gc] rfl rfl (cell_oneV w5 _ _) (by simp [Value.oneCell']) (by unfold maxLen; omega) (by omega) (by simp; omega) ?_
            intro v8 w8 hown8 hgrow8 _ hat8
            obtain ⟨g8, cap8, hv8⟩ := ownsRow_succ hown8
            subst hv8
            have K8 : Kept (fun k => (Value.slice a2 n cap2).ownBlock = some k) w5 w8 := Kept.grown ((Kept.refl _ w5).alloc _) hgrow8 (fun k e => e)
            have HF : Hid (∃ vs ts, vs.length = n + 1 ∧ cT ts + ((fks.drop (i + 1)).map fun k => cF k.er).sum + 1 ≤ gk ∧ Tdo w w8 l.length mb (.slice (some ⟨g8, 0, none⟩) (n + 1) cap8) vs ts) := by
              have hv := HT2.out.1
              have T5 := HT5.out
              refine ⟨vs2 ++ [.slice ga kn2 gc], ts2 ++ [k.kids], by simp [hv], ?_, ?_, by simp [T5.len], fun q u hu => ?_, T5.set.keep (K8.block mb ?_ ?_), T5.bel.trans (K8.below hwsz (fun q hq => (ownsRow_lt T5.row hq).1))⟩
              · rw [cT_snoc, HQ.out.2.2.2]
                have h1 := HT2.out.2.1
                have h2 := HD.out
                omega
              · rw [List.length_append, List.length_singleton, hv]
                exact hown8
              · by_cases hq : q < vs2.length
                · rw [List.getElem?_append_left hq] at hu
                  obtain ⟨z, z1, z2⟩ := T5.at_ q u hu
                  exact ⟨z, by rw [List.getElem?_append_left (by rw [← T5.len]; exact hq)]; exact z1, z2⟩
                · rw [List.getElem?_append_right (by omega)] at hu
                  have hq0 : q - vs2.length = 0 := by
                    have := (List.getElem?_eq_some_iff.1 hu).1
                    simp at this
                    omega
                  rw [hq0] at hu
                  simp at hu
                  subst hu
                  refine ⟨k.kids, by rw [List.getElem?_append_right (by rw [← T5.len]; omega), ← T5.len, hq0]; rfl, ?_⟩
                  have := HQ.out.2.2.1
                  rw [hkn2] at this
                  exact this
              · obtain ⟨es, ck, e, _⟩ := T5.set
                exact (Array.getElem?_eq_some_iff.1 e).1
              · intro e
                obtain ⟨es, ck, e', _⟩ := T5.set
                rcases T5.row.2 with ⟨e1, _⟩ | ⟨g', cap', cur, e1, _, e2, _⟩
                · rw [e1] at e; simp [Value.ownBlock] at e
                · rw [e1] at e
                  simp [Value.ownBlock] at e
                  subst e
                  rw [e'] at e2
                  cases e2
            clear hown8 hgrow8 hat8 K8 HT5 hrow2 f3
            go_wp2_with fail
            exact ⟨⟨i + 1, n + 1, cap8, some ⟨g8, 0, none⟩, hlt, by simp, rfl, HF⟩, by simp [intOf]; omega⟩
          · go_wp2_with fail
            refine ⟨⟨i + 1, n, cap2, a2, hlt, by simp, rfl, vs2, ts2, HT2.out.1, ?_, HT3.out⟩, by simp [intOf]; omega⟩
            have h1 := HT2.out.2.1
            have h2 := HD.out
            omega
        · have di : decide ((i : Int) < (fn : Int)) = false := decide_eq_false (by omega)
          obtain ⟨vs2, ts2, hv2, hc2, hT2⟩ := HK.out
          have hlg : cT ts2 + 1 ≤ gk := by omega
          have HF : Hid (∃ n' cap' a', Value.slice a2 n cap2 = .slice a' n' cap' ∧ Hid (∃ vs ts, vs.length = n' ∧ cT ts ≤ cT ts2 ∧ cT ts2 ≤ cS ks ∧ Tdo w wr l.length mb (.slice a2 n cap2) vs ts)) := ⟨n, cap2, a2, rfl, vs2, ts2, hv2, Nat.le_refl _, by omega, hT2⟩
          clear HK hc2 hT2
          go_wp2_with fail
          go_roundg (cT ts2)
          case measure => omega
          case rel => exact HF.out
end Go.Proofs.YtlehlgipbhfioaaGreat

namespace Go.Proofs.YtlehlgipbhfioaaGreat
open Go.RowKit Go.Maps

/-- The atoms of formulas in memory. -/
def AmAt (W : World) (v : Value) (k : Nat) (am : Nat → List Pr) : Prop := ∃ a c, v = .slice a k c ∧ ∀ n, n < k → ∃ b off u, a = some ⟨b, off, none⟩ ∧ W.cell? ⟨b, off + n * 6 + 4, none⟩ = some u ∧ PsAt W u (am n)
/-- Truth values in memory. -/
def BsAt (W : World) (v : Value) (k : Nat) (val : Nat → Bool) : Prop := ∃ b off c, v = .slice (some ⟨b, off, none⟩) k c ∧ ∀ n, n < k → W.cell? ⟨b, off + n, none⟩ = some (.bool (val n))

def TS (w W : World) (v : Value) (acc : List Pr) : Prop := W.ownsRow w.heap.size 34 2 v acc.length (rowP acc) ∧ Below w.heap.size w W
theorem TS.below {w W W' : World} {v : Value} {acc : List Pr} (h : TS w W v acc) (B : Below W.heap.size W W') : TS w W' v acc := ⟨ownsRow_below h.1 B, h.2.trans (B.mono h.2.size)⟩
theorem TS.get {w W : World} {v : Value} {acc : List Pr} (h : TS w W v acc) {a : Addr} {u : Value} (hc : w.cell? a = some u) : W.cell? a = some u := (h.2.cell (World.block_lt_of_cell? w _ hc)).trans hc
theorem TS.add {w W : World} {v : Value} {acc : List Pr} (h : TS w W v acc) (x1 x2 : Nat) (hn : (acc.length + 1) * 16 ≤ 140737488355328) {W1 : World} (B : Below W.heap.size W W1) (g : Nat) (hg : W1.heap.size = g) :
    Calls Tryz.prog 89 #[v, .slice (some ⟨g, 0, none⟩) 1 1] (W1.alloc (.cells #[.int .i64 (x1 : Int), .int .i64 (x2 : Int)] 34)) fun e w' => ∃ v', e = .returned v' ∧ TS w w' v' (addP acc [(x1, x2)]) := by
  subst hg
  have B2 : Below W.heap.size W (W1.alloc (.cells #[.int .i64 (x1 : Int), .int .i64 (x2 : Int)] 34)) := B.trans ((Below.refl _ _).alloc B.size _)
  have h2 := h.below B2
  refine (addPairs_in _ w.heap.size h2.2.size v acc h2.1 (some ⟨W1.heap.size, 0, none⟩) 1 [(x1, x2)] ⟨_, _, rfl, Or.inr ⟨_, _, rfl, fun j p hj => ?_⟩⟩ (fun b off e hv => ?_) (by simpa using hn)).mono ?_
  · match j, hj with
    | 0, hj => simp at hj; subst hj; exact ⟨by simp, by simp⟩
    | j + 1, hj => simp at hj
  · cases e
    have := (ownsRow_lt h.1 hv).2
    have := B.size
    omega
  · rintro e w' ⟨v', rfl, R⟩
    exact ⟨v', rfl, R.row, h2.2.trans (R.kept.below h2.2.size (fun k hk => (ownsRow_lt h2.1 hk).1))⟩

set_option maxRecDepth 100000 in
set_option maxHeartbeats 1000000 in
theorem told_in (S : Nat → Prop) (w : World) (pb vb kb : Nat) (bk tv fv lv : Value) (P : Pb) (h : Pm S w pb vb kb bk tv fv lv P) (k : Nat) (am : Nat → List Pr) (ha : AmAt w fv k am) (vv : Value) (m : Nat) (val : Nat → Bool) (hv : BsAt w vv m val) (xa : Option Addr) (xc : Nat) (ns : List Nat) (hx : NsAt w (.slice xa ns.length xc) ns) (hns : ∀ n ∈ ns, n < k) (hnl : ns.length ≤ 1000000) (hpr : ∀ n, n < k → (am n).length ≤ 1000000 ∧ ∀ a ∈ am n, PrOk a ∧ ∃ z, numV P.vars a = some z ∧ 1 ≤ z ∧ z ≤ m) (hm : m ≤ 1000000) :
    Calls Tryz.prog 46 #[.pointer (some ⟨pb, 0, none⟩), vv, .slice xa ns.length xc] w fun e w' => ∃ v', e = .returned v' ∧ w'.ownsRow w.heap.size 34 2 v' (toldN val P.vars am [] ns).length (rowP (toldN val P.vars am [] ns)) ∧ Below w.heap.size w w' := by
  obtain ⟨fa, fc, rfl, ha⟩ := ha
  obtain ⟨tb, tq, tc, rfl, hv⟩ := hv
  have HD : Hid (_ ∧ _ ∧ _ ∧ _ ∧ _ ∧ _) := ⟨h, ha, hv, hx, hns, hpr⟩
  obtain ⟨n, hn⟩ : ∃ n, ns.length = n := ⟨_, rfl⟩
  have HN : Hid _ := hn
  rw [hn] at hnl ⊢
  have HI0 : Hid (TS w w (.slice none 0 0) (toldN val P.vars am [] (ns.take 0)) ∧ (toldN val P.vars am [] (ns.take 0)).length ≤ 0 * 1000000) := ⟨⟨⟨by simp [toldN, rowP], Or.inl ⟨rfl, rfl⟩⟩, Below.refl _ _⟩, by simp [toldN]⟩
  clear h ha hv hx hns hpr hn
  go_enter Tryz.func46, Tryz.ntmps46
  go_wp2_with fail
  go_loopw [7, 14] (fun t7 t14 W => ∃ i : Nat, i ≤ n ∧ t14 = .int .i64 (i : Int) ∧ Hid (TS w W t7 (toldN val P.vars am [] (ns.take i)) ∧ (toldN val P.vars am [] (ns.take i)).length ≤ i * 1000000)) (fun _ t14 _ => n - (intOf t14).toNat)
  case atStart => exact ⟨0, Nat.zero_le _, rfl, HI0⟩
  case round =>
    obtain ⟨i, hi, rfl, HJ⟩ := hrel
    clear HI0
    by_cases hlt : i < n
    · have di : decide ((i : Int) < (n : Int)) = true := decide_eq_true (by omega)
      have hwi : IntKind.i64.wrap ((i : Int) + 1) = (i : Int) + 1 := wrap_nat1 (by omega)
      have hil : i < ns.length := by rw [HN.out]; exact hlt
      obtain ⟨xb, xo, xc', ex, qx⟩ := HD.out.2.2.2.1.get (List.getElem?_eq_getElem hil)
      cases ex
      have hxk := HD.out.2.2.2.2.1 _ (List.getElem_mem hil)
      have HS : Hid (toldN val P.vars am [] (ns.take (i + 1)) = tellL val P.vars (toldN val P.vars am [] (ns.take i)) (am ns[i])) := by
        show _ = _
        rw [List.take_add_one, List.getElem?_eq_getElem hil, Option.toList_some]
        unfold toldN
        rw [List.foldl_append]
        rfl
      generalize ns[i] = x at *
      obtain ⟨fb, fo, u, hfa, qu, pu⟩ := HD.out.2.1 x hxk
      subst hfa
      obtain ⟨ua, uc, rfl, pu⟩ := pu
      have qx := HJ.out.1.get qx
      have qu := HJ.out.1.get qu
      have c2 := HJ.out.1.get (HD.out.1.cells.cell (i := 2) (by omega))
      simp only [pmC] at c2
      have hpx := HD.out.2.2.2.2.2 x hxk
      generalize toldN val P.vars am [] (ns.take i) = acc at *
      generalize am x = al at *
      have HU : Hid (_ ∧ _) := And.intro pu hpx
      clear pu hpx
      go_wp2_with fail
      obtain ⟨y, hy⟩ : ∃ y, al.length = y := ⟨_, rfl⟩
      have HY : Hid _ := hy
      have hyl : y ≤ 1000000 := by rw [← hy]; exact HU.out.2.1
      simp only [hy]
      clear hy qx qu c2
      have HJ0 : Hid (TS w wr u7 (tellL val P.vars acc (al.take 0)) ∧ (tellL val P.vars acc (al.take 0)).length ≤ i * 1000000 + 0) := by
        rw [List.take_zero]
        refine ⟨HJ.out.1, ?_⟩
        exact Nat.le_trans HJ.out.2 (Nat.le_add_right _ _)
      have HD3 : Hid (_ ∧ _) := And.intro HD.out.1 HD.out.2.2.1
      clear HJ HD
      go_loopw [7, 27] (fun t7 t27 W => ∃ j : Nat, j ≤ y ∧ t27 = .int .i64 (j : Int) ∧ Hid (TS w W t7 (tellL val P.vars acc (al.take j)) ∧ (tellL val P.vars acc (al.take j)).length ≤ i * 1000000 + j)) (fun _ t27 _ => y - (intOf t27).toNat)
      case atStart => exact ⟨0, Nat.zero_le _, rfl, HJ0⟩
      case round =>
        obtain ⟨j, hj, rfl, HK⟩ := hrel
        clear HJ0
        by_cases hjt : j < y
        · have dj : decide ((j : Int) < (y : Int)) = true := decide_eq_true (by omega)
          have hwj : IntKind.i64.wrap ((j : Int) + 1) = (j : Int) + 1 := wrap_nat1 (by omega)
          have hjl : j < al.length := by rw [HY.out]; exact hjt
          have hge := List.getElem?_eq_getElem hjl
          have hmem := List.getElem_mem hjl
          have HS2 : Hid (tellL val P.vars acc (al.take (j + 1)) = tell1 val P.vars (tellL val P.vars acc (al.take j)) al[j]) := by
            show _ = _
            rw [List.take_add_one, hge, Option.toList_some]
            unfold tellL
            rw [List.foldl_append]
            rfl
          obtain ⟨ub, uo, eu, pu⟩ : ∃ b off, ua = some ⟨b, off, none⟩ ∧ ∀ (j : Nat) (p : Pr), al[j]? = some p → w.cell? ⟨b, off + j * 2, none⟩ = some (.int .i64 (p.1 : Int)) ∧ w.cell? ⟨b, off + j * 2 + 1, none⟩ = some (.int .i64 (p.2 : Int)) := by
            rcases HU.out.1 with e | e
            · rw [e] at hjl; exact absurd hjl (Nat.not_lt_zero _)
            · exact e
          subst eu
          have q1 := HK.out.1.get (pu j _ hge).1
          have q2 := HK.out.1.get (pu j _ hge).2
          obtain ⟨hok, z, hz, hz1, hzm⟩ := HU.out.2.2 _ hmem
          clear hge hmem pu
          generalize al[j] = x at *
          obtain ⟨x1, x2⟩ := x
          generalize tellL val P.vars acc (al.take j) = acc2 at *
          have hBx : Below wr.heap.size wr (wr.alloc (.cells #[.int .i64 (x1 : Int), .int .i64 (x2 : Int)] 34)) := (Below.refl _ _).alloc (Nat.le_refl _) _
          have HK1 := HK.out.1.below hBx
          have c3 := HK1.get (HD3.out.1.cells.cell (i := 3) (by omega))
          simp only [pmC] at c3
          have hvr : VrIs (wr.alloc (.cells #[.int .i64 (x1 : Int), .int .i64 (x2 : Int)] 34)) vb P.vars := by
            obtain ⟨es, ck, he⟩ := HD3.out.1.vars.lt
            exact HD3.out.1.vars.keep (HK1.2.block vb (Array.getElem?_eq_some_iff.1 he).1)
          have LK : ∀ m, _ := fun m => (show VrIs ((wr.alloc (.cells #[.int .i64 (x1 : Int), .int .i64 (x2 : Int)] 34)).drewN m) vb P.vars from hvr.keep rfl).look1 hok
          rw [hz] at LK
          simp only [Option.getD_some] at LK
          obtain ⟨z', rfl⟩ : ∃ z', z = z' + 1 := ⟨z - 1, by omega⟩
          have hb := HK1.get (HD3.out.2 z' (by omega))
          have hzl : z' < m := by omega
          have ADD : Hid _ := fun mm : Nat => HK.out.1.add x1 x2 (by have := HK.out.2; omega) (W1 := (wr.alloc (.cells #[.int .i64 (x1 : Int), .int .i64 (x2 : Int)] 34)).drewN mm) ⟨hBx.os, hBx.tape, hBx.output, hBx.size, hBx.block⟩ (wr.heap.size + 1) (by simp)
          have HT : Hid (∀ b, val z' = b → tell1 val P.vars acc2 (x1, x2) = if b then addP acc2 [(x1, x2)] else acc2) := fun b hb => by rw [tell1, hz, ← hb]; rfl
          have hwz : IntKind.i64.wrap ((z' : Int) + 1 - 1) = (z' : Int) := by rw [IntKind.wrap_i64]; omega
          have HK2 : Hid _ := HK1
          have hl2 := HK.out.2
          clear HK HK1 hvr hBx hz hok hz1 hzm
          have HDr : Hid (∀ m, TS w ((wr.alloc (.cells #[.int .i64 (x1 : Int), .int .i64 (x2 : Int)] 34)).drewN m) u7 acc2) := fun m => TS.below HK2.out ⟨rfl, rfl, rfl, Nat.le_refl _, fun _ _ => rfl⟩
          clear HK2
          cases hvz : val z'
          · rw [hvz] at hb
            have HE : Hid (tellL val P.vars acc (al.take (j + 1)) = acc2) := by
              show _ = _
              rw [HS2.out, HT.out _ hvz]
              rfl
            clear ADD hvz HT HS2
            go_wp2_with fail
            go_quiet (fail)
            go_wp2_with fail
            refine ⟨⟨j + 1, hjt, by simp, ?_⟩, by simp [intOf]; omega⟩
            rw [HE.out]
            exact ⟨HDr.out _, by omega⟩
          · rw [hvz] at hb
            have HE : Hid (tellL val P.vars acc (al.take (j + 1)) = addP acc2 [(x1, x2)]) := by
              show _ = _
              rw [HS2.out, HT.out _ hvz]
              rfl
            have HL : Hid ((addP acc2 [(x1, x2)]).length ≤ i * 1000000 + (j + 1)) := by
              have := addP_len acc2 [(x1, x2)]
              simp only [List.length_singleton] at this
              show _ ≤ _
              omega
            clear hvz HT HS2
            go_wp2_with fail
            go_quiet (fail)
            have A1 := ADD.out nq
            clear ADD
            go_wp2_with (first | (go_at_call 89; refine A1.mono ?_; rintro e w3 ⟨v3, rfl, T3⟩))
            refine ⟨⟨j + 1, hjt, by simp, ?_⟩, by simp [intOf]; omega⟩
            rw [HE.out]
            exact ⟨T3, HL.out⟩
        · have dj : decide ((j : Int) < (y : Int)) = false := decide_eq_false (by omega)
          obtain rfl : j = y := by omega
          have HF : Hid (TS w wr u7 (toldN val P.vars am [] (ns.take (i + 1))) ∧ (toldN val P.vars am [] (ns.take (i + 1))).length ≤ (i + 1) * 1000000) := by
            rw [HS.out]
            have := HK.out
            rw [List.take_of_length_le (by rw [HY.out]; exact Nat.le_refl _)] at this
            refine ⟨this.1, ?_⟩
            have := this.2
            omega
          clear HK HS HU HD3
          go_wp2_with fail
          exact ⟨⟨i + 1, hlt, by simp, HF⟩, by simp [intOf]; omega⟩
    · have di : decide ((i : Int) < (n : Int)) = false := decide_eq_false (by omega)
      obtain rfl : i = n := by omega
      have HF : Hid (TS w wr u7 (toldN val P.vars am [] ns)) := by
        have := HJ.out.1
        rw [List.take_of_length_le (by rw [HN.out]; exact Nat.le_refl _)] at this
        exact this
      clear HJ HD
      go_wp2_with fail
      go_ret
      exact ⟨_, rfl, HF.out.1, HF.out.2⟩
end Go.Proofs.YtlehlgipbhfioaaGreat

namespace Go.Proofs.YtlehlgipbhfioaaGreat
open Go.RowKit Go.Maps

/-- An atom is wrong if it is true in the model and its variable is false. -/
def wrng1 (val : Nat → Bool) (vs : List (Pr × Nat)) (cq : Nat → Nat → Bool) (acc : List Pr) (a : Pr) : List Pr := if cq a.1 a.2 = true ∧ val ((numV vs a).getD 0 - 1) = false then addP acc [a] else acc
def wrngL (val : Nat → Bool) (vs : List (Pr × Nat)) (cq : Nat → Nat → Bool) (acc : List Pr) (xs : List Pr) : List Pr := xs.foldl (wrng1 val vs cq) acc
/-- am: the atoms of each formula; ok: whether it is true in the model. -/
def wrongN (val : Nat → Bool) (vs : List (Pr × Nat)) (cq : Nat → Nat → Bool) (am : Nat → List Pr) (ok : Nat → Bool) (acc : List Pr) (ns : List Nat) : List Pr := ns.foldl (fun acc n => if ok n then acc else wrngL val vs cq acc (am n)) acc
theorem wrngL_mem (val : Nat → Bool) (vs : List (Pr × Nat)) (cq : Nat → Nat → Bool) (q : Pr) : ∀ (xs acc : List Pr), q ∈ wrngL val vs cq acc xs ↔ q ∈ acc ∨ (q ∈ xs ∧ cq q.1 q.2 = true ∧ val ((numV vs q).getD 0 - 1) = false)
  | [], acc => by simp [wrngL]
  | a :: xs, acc => by
    have e : wrngL val vs cq acc (a :: xs) = wrngL val vs cq (wrng1 val vs cq acc a) xs := rfl
    rw [e, wrngL_mem val vs cq q xs, wrng1]
    split
    · rename_i h
      rw [addP_one, List.mem_cons]
      constructor
      · rintro ((h1 | rfl) | ⟨h1, h2⟩)
        · exact .inl h1
        · exact .inr ⟨.inl rfl, h⟩
        · exact .inr ⟨.inr h1, h2⟩
      · rintro (h1 | ⟨rfl | h1, h2⟩)
        · exact .inl (.inl h1)
        · exact .inl (.inr rfl)
        · exact .inr ⟨h1, h2⟩
    · rename_i h
      rw [List.mem_cons]
      constructor
      · rintro (h1 | ⟨h1, h2⟩)
        · exact .inl h1
        · exact .inr ⟨.inr h1, h2⟩
      · rintro (h1 | ⟨rfl | h1, h2⟩)
        · exact .inl h1
        · exact absurd h2 h
        · exact .inr ⟨h1, h2⟩
theorem wrongN_mem (val : Nat → Bool) (vs : List (Pr × Nat)) (cq : Nat → Nat → Bool) (am : Nat → List Pr) (ok : Nat → Bool) (q : Pr) : ∀ (ns : List Nat) (acc : List Pr), q ∈ wrongN val vs cq am ok acc ns ↔ q ∈ acc ∨ ((∃ n ∈ ns, ok n = false ∧ q ∈ am n) ∧ cq q.1 q.2 = true ∧ val ((numV vs q).getD 0 - 1) = false)
  | [], acc => by simp [wrongN]
  | n :: ns, acc => by
    have e : wrongN val vs cq am ok acc (n :: ns) = wrongN val vs cq am ok (if ok n then acc else wrngL val vs cq acc (am n)) ns := rfl
    rw [e, wrongN_mem val vs cq am ok q ns]
    cases ho : ok n
    · rw [if_neg (by decide), wrngL_mem]
      constructor
      · rintro ((h1 | ⟨h1, h2⟩) | ⟨⟨m, h1, h3⟩, h2⟩)
        · exact .inl h1
        · exact .inr ⟨⟨n, by simp, ho, h1⟩, h2⟩
        · exact .inr ⟨⟨m, by simp [h1], h3⟩, h2⟩
      · rintro (h1 | ⟨⟨m, h1, h3⟩, h2⟩)
        · exact .inl (.inl h1)
        · rcases List.mem_cons.1 h1 with rfl | h1
          · exact .inl (.inr ⟨h3.2, h2⟩)
          · exact .inr ⟨⟨m, h1, h3⟩, h2⟩
    · rw [if_pos rfl]
      constructor
      · rintro (h1 | ⟨⟨m, h1, h3⟩, h2⟩)
        · exact .inl h1
        · exact .inr ⟨⟨m, by simp [h1], h3⟩, h2⟩
      · rintro (h1 | ⟨⟨m, h1, h3⟩, h2⟩)
        · exact .inl h1
        · rcases List.mem_cons.1 h1 with rfl | h1
          · rw [ho] at h3; exact absurd h3.1 (by decide)
          · exact .inr ⟨⟨m, h1, h3⟩, h2⟩
end Go.Proofs.YtlehlgipbhfioaaGreat

namespace Go.Proofs.YtlehlgipbhfioaaGreat
open Go.RowKit Go.Maps

/-- One Form of so many Kids, by what these come to; e: which terms are the same, of n. -/
def evM (n : Nat) (e : Nat → Nat → Bool) (op x y : Int) (k : Nat) (args : List Bool) : Bool :=
  if op = 0 then k == 0 && (inC n x && inC n y && e x.toNat y.toNat)
  else if op = 1 then k == 1 && !(args[0]?.getD false)
  else if op = 2 then k == 2 && (args[0]?.getD false && args[1]?.getD false)
  else if op = 3 then k == 2 && (args[0]?.getD false || args[1]?.getD false)
  else if op = 4 then k == 2 && (!(args[0]?.getD false) || args[1]?.getD false)
  else false
def evE (n : Nat) (e : Nat → Nat → Bool) : Fo → Bool
  | .mk op x y kids => evM n e op x y kids.length (kids.map (evE n e))
theorem evF_E {cls : List Int} {n : Nat} (hn : cls.length = n) {e : Nat → Nat → Bool} (h : ∀ i j, i < n → j < n → (cls[i]?.getD 0 == cls[j]?.getD 0) = e i j) : ∀ f : Fo, evF cls f = evE n e f
  | .mk op x y kids => by
    have hk : kids.map (evF cls) = kids.map (evE n e) := List.map_congr_left fun k _ => evF_E hn h k
    rw [evF, evE, hk]
    unfold evN evM
    have hs : sameC cls x y = (inC n x && inC n y && e x.toNat y.toNat) := by
      unfold sameC
      rw [hn]
      cases hx : inC n x
      · rfl
      · cases hy : inC n y
        · rfl
        · simp only [inC, decide_eq_true_eq] at hx hy
          rw [h _ _ (by omega) (by omega)]
    rw [hs]
/-- A formula of a problem: its atoms, its clauses, its truth. -/
structure Fm where
  am : List Pr
  cs : List (List Int)
  ev : (Nat → Nat → Bool) → Bool
def atsN (f : Fo) : List Pr := (ats (eqF f)).map fun p => ordP p.1.toNat p.2.toNat
def tseN (f : Fo) : Int × Sc := Cn.tse (numP (ats (eqF f))) f ((ats (eqF f)).length, [])
/-- Behind the atoms' variables, the others of a formula. -/
def nmsN (P : Pb) (f : Fo) : List Nat := 0 :: ((Pb.names (atsN f) P).1 ++ (List.range ((tseN f).2.1 - (atsN f).length)).map fun i => (Pb.names (atsN f) P).2.count + 1 + i)
def Pb.addF (P : Pb) (f : Fo) : Pb := { (Pb.names (atsN f) P).2 with count := (Pb.names (atsN f) P).2.count + ((tseN f).2.1 - (atsN f).length) }
def fmOf (n : Nat) (P : Pb) (f : Fo) : Fm := ⟨atsN f, ((tseN f).2.2 ++ [[(tseN f).1]]).map fun c => c.map (renL (nmsN P f)), fun e => evE n e f⟩
def Pb.adds (n : Nat) : List Fo → Pb → List Fm → Pb × List Fm
  | [], P, fs => (P, fs)
  | f :: r, P, fs => Pb.adds n r (P.addF f) (fs ++ [fmOf n P f])
theorem adds_snoc (n : Nat) : ∀ (r : List Fo) (f : Fo) (P : Pb) (fs : List Fm), Pb.adds n (r ++ [f]) P fs = ((Pb.adds n r P fs).1.addF f, (Pb.adds n r P fs).2 ++ [fmOf n (Pb.adds n r P fs).1 f])
  | [], _, _, _ => rfl
  | g :: r, f, P, fs => by
    rw [List.cons_append, Pb.adds, adds_snoc n r f]
    rfl
def pb0 : Pb := ⟨0, [], [], []⟩
def Fm.get (fs : List Fm) (n : Nat) : Fm := fs[n]?.getD ⟨[], [], fun _ => true⟩
def clsN (P : Pb) (fs : List Fm) (ns : List Nat) : List (List Int) := P.lemmas ++ ns.flatMap fun n => (Fm.get fs n).cs
def valB (vs : List Bool) (i : Nat) : Bool := vs[i]?.getD false
/-- Whether two terms are the same by what was told. -/
def cgN (l : List Tm) (told : List Pr) (a b : Nat) : Bool := match proofN l told with
  | none => false
  | some F => decide (F.g.rt a = F.g.rt b)
def tolN (fs : List Fm) (P : Pb) (ns : List Nat) (vs : List Bool) : List Pr := toldN (valB vs) P.vars (fun n => (Fm.get fs n).am) [] ns
def wroN (l : List Tm) (fs : List Fm) (P : Pb) (ns : List Nat) (vs : List Bool) : List Pr := wrongN (valB vs) P.vars (cgN l (tolN fs P ns vs)) (fun n => (Fm.get fs n).am) (fun n => (Fm.get fs n).ev (cgN l (tolN fs P ns vs))) [] ns
/-- A pair is learned. -/
def LrnK (l : List Tm) (told : List Pr) (F : Pf) (P : Pb) (a : Pr) (Q : Pb) : Prop :=
  ∃ S, stepsN F.L told (argN l) a = some S ∧ (P.count + (missN P S []).length ≤ 2000 → Q = S.foldl Pb.step P) ∧ (¬ P.count + (missN P S []).length ≤ 2000 → ∃ ns, Fits l (told.map prI) (a.1 : Int) (a.2 : Int) ns ∧ Q = P.whole a (ns.map fun n => told[n]?.getD (0, 0)))
def LrnR (l : List Tm) (told : List Pr) (F : Pf) : List Pr → Pb → Pb → Prop
  | [], P, Q => Q = P
  | a :: r, P, Q => ∃ P1, LrnK l told F P a P1 ∧ LrnR l told F r P1 Q
/-- What Solve asks. -/
def SlvOk (P : Pb) (fs : List Fm) (ns : List Nat) : Prop := P.count ≤ 2000 ∧ (clsN P fs ns).length ≤ 100000000 ∧ ∀ c ∈ clsN P fs ns, ClOk P.count c
/-- The search for a model ends so, within the fuel. -/
def MdlT (l : List Tm) (fs : List Fm) (ns : List Nat) (Post : Option (List Pr) → Pb → Prop) : Nat → Pb → Prop
  | 0, _ => False
  | f + 1, P => SlvOk P fs ns ∧ match solveN P.count (clsN P fs ns) with
    | none => False
    | some none => Post none P
    | some (some vs) => (wroN l fs P ns vs = [] → Post (some (tolN fs P ns vs)) P) ∧ (wroN l fs P ns vs ≠ [] → ((wroN l fs P ns vs).length ≤ 1 ∧ 1 ≤ f) ∧ ∀ F Q, proofN l (tolN fs P ns vs) = some F → LrnR l (tolN fs P ns vs) F (wroN l fs P ns vs) P Q → MdlT l fs ns Post f Q)
end Go.Proofs.YtlehlgipbhfioaaGreat

namespace Go.Proofs.YtlehlgipbhfioaaGreat
open Go.RowKit Go.Maps

/-- How many Forms are below those of a list. -/
def dS (ks : List Lf) : Nat := (ks.map fun k => cF k.er - 1).sum
def dT (ts : List (List Lf)) : Nat := (ts.map dS).sum
theorem dT_snoc (ts : List (List Lf)) (ks : List Lf) : dT (ts ++ [ks]) = dT ts + dS ks := by simp [dT]
theorem dS_sum (ks : List Lf) : ks.length + dS ks = (ks.map fun k => cF k.er).sum := by
  induction ks with
  | nil => rfl
  | cons a r ih =>
    have : 1 ≤ cF a.er := by
      cases a with
      | mk b o op x y kv kids => rw [Lf.er, cF]; omega
    unfold dS at ih ⊢
    simp only [List.map_cons, List.sum_cons, List.length_cons]
    omega
theorem dS_kids (t : Lf) : t.kids.length + dS t.kids = cF t.er - 1 := by
  have := dS_sum t.kids
  have h2 := cS_kids t
  unfold cS at h2
  omega
/-- What areMany goes round with. -/
structure Tdw (w W : World) (N : Nat) (v : Value) (vs : List Value) (ts : List (List Lf)) : Prop where
  win : WinAt W w.heap.size 30 v vs
  len : vs.length = ts.length
  at_ : ∀ (i : Nat) (u : Value), vs[i]? = some u → ∃ ks, ts[i]? = some ks ∧ SlF w N u ks
  bel : Below w.heap.size w W
theorem Tdw.below {w W W' : World} {N : Nat} {v : Value} {vs : List Value} {ts : List (List Lf)} (h : Tdw w W N v vs ts) (hB : Below W.heap.size W W') : Tdw w W' N v vs ts :=
  ⟨h.win.keep (fun g hg => hB.block g (h.win.lt hg).2), h.len, h.at_, h.bel.trans (hB.mono h.bel.size)⟩

set_option maxRecDepth 100000 in
set_option maxHeartbeats 1000000 in
theorem areMany_in (w : World) (N : Nat) (ka : Option Addr) (kc : Nat) (ks : List Lf) (hk : SlF w N (.slice ka ks.length kc) ks) (hc : cS ks ≤ 601) :
    Calls Tryz.prog 42 #[.slice ka ks.length kc] w fun e w' => e = .returned (.bool false) ∧ Below w.heap.size w w' := by
  obtain ⟨kn, hkn⟩ : ∃ n, ks.length = n := ⟨_, rfl⟩
  have HI0 : Hid (∃ vs ts, vs.length = 1 ∧ cT ts ≤ cS ks ∧ kn + dT ts ≤ 600 ∧ Tdw w (w.alloc (.cells #[.slice ka kn kc] 30)) N (.slice (some ⟨w.heap.size, 0, none⟩) 1 1) vs ts) := by
    rw [hkn] at hk
    refine ⟨[.slice ka kn kc], [ks], rfl, by simp [cT], ?_, WinAt.one w _ _ _ (Nat.le_refl _), rfl, fun i u hu => ?_, (Below.refl _ _).alloc (Nat.le_refl _) _⟩
    · have := dS_sum ks
      have e : dT [ks] = dS ks := by simp [dT]
      unfold cS at hc
      rw [e]
      omega
    · match i, hu with
      | 0, hu => simp at hu; subst hu; exact ⟨ks, rfl, hk⟩
      | i + 1, hu => simp at hu
  have HC : Hid (cS ks ≤ 601) := hc
  rw [hkn]
  have hkn6 : kn ≤ 600 := by
    have := dS_sum ks
    unfold cS at hc
    omega
  clear hk hc hkn
  go_enter Tryz.func42, Tryz.ntmps42
  go_wp2_with fail
  generalize w.alloc (.cells #[.slice ka kn kc] 30) = w1 at *
  obtain ⟨g0, hg0⟩ : ∃ m, w.heap.size = m := ⟨_, rfl⟩
  have HG0 : Hid _ := hg0
  simp only [hg0] at HI0 ⊢
  clear hg0
  go_loopg [3, 4] (cS ks) (fun k t3 t4 W => ∃ (c n cap g off : Nat), t3 = .int .i64 (c : Int) ∧ t4 = .slice (some ⟨g, off, none⟩) n cap ∧ Hid (∃ vs ts, vs.length = n ∧ cT ts ≤ k ∧ k ≤ cS ks ∧ c + dT ts ≤ 600 ∧ Tdw w W N (.slice (some ⟨g, off, none⟩) n cap) vs ts))
  case atStart => exact ⟨kn, 1, 1, g0, 0, rfl, rfl, by obtain ⟨vs, ts, h0, h1, h2, h3⟩ := HI0.out; exact ⟨vs, ts, h0, h1, Nat.le_refl _, h2, h3⟩⟩
  case round =>
    obtain ⟨c, n, cap, g, off, rfl, rfl, HJ⟩ := hrel
    clear HI0
    have hc6 : c ≤ 600 := by obtain ⟨vs, ts, _, _, _, h, _⟩ := HJ.out; omega
    have dc : decide ((c : Int) ≤ 600) = true := decide_eq_true (by omega)
    by_cases hn0 : n = 0
    · subst hn0
      have HF : Hid (Below w.heap.size w wr) := by obtain ⟨vs, ts, _, _, _, _, h⟩ := HJ.out; exact h.bel
      have dg : decide ((600 : Int) < (c : Int)) = false := decide_eq_false (by omega)
      clear HJ
      go_wp2_with fail
      go_ret
      exact ⟨rfl, HF.out⟩
    · obtain ⟨m, rfl⟩ : ∃ m, n = m + 1 := ⟨n - 1, by omega⟩
      obtain ⟨vs, ts, hvl, hct, hkc, hcd, hT⟩ := HJ.out
      obtain ⟨u, vr, rfl⟩ : ∃ u vr, vs = u :: vr := by
        cases vs with
        | nil => cases hvl
        | cons u vr => exact ⟨u, vr, rfl⟩
      obtain ⟨fks, ht1, hS⟩ := hT.at_ 0 u rfl
      obtain ⟨tr, rfl⟩ : ∃ tr, ts = fks :: tr := by
        cases ts with
        | nil => cases ht1
        | cons t tr => simp at ht1; exact ⟨tr, by rw [ht1]⟩
      obtain ⟨fa, fc, hfv, hfc, hfk⟩ := hS.1
      have hS2 := hS
      rw [hfv] at hS2
      have cm : wr.cell? ⟨g, off, none⟩ = some (.slice fa fks.length fc) := by
        obtain ⟨g', off', cap', e, _, _, h4⟩ := hT.win.get
        cases e
        have := h4 0 u rfl
        rw [hfv] at this
        exact this
      have e1 : cT (fks :: tr) = cS fks + cT tr := by simp [cT]
      have e2 : dT (fks :: tr) = dS fks + dT tr := by simp [dT]
      rw [e1] at hct
      rw [e2] at hcd
      have hf6 : fks.length ≤ 601 := by
        have h1 := sum_cF fks
        have h3 := HC.out
        unfold cS at hct
        omega
      obtain ⟨fn, hfn⟩ : ∃ f, fks.length = f := ⟨_, rfl⟩
      rw [hfn] at cm hf6
      have HI1 : Hid (∃ vs tr', vs.length = m + 1 ∧ cT tr' + ((fks.drop 0).map fun k => cF k.er).sum + 1 ≤ gk ∧ c + dT tr' + dS (fks.drop 0) ≤ 600 ∧ Tdw w wr N (.slice (some ⟨g, off, none⟩) (m + 1) cap) vs (fks :: tr')) := ⟨u :: vr, tr, hvl, by unfold cS at hct; rw [List.drop_zero]; omega, by rw [List.drop_zero]; omega, hT⟩
      have HS : Hid (SlF w N (.slice fa fks.length fc) fks ∧ fks.length = fn) := ⟨hS2, hfn⟩
      clear HJ hT hS hS2 hfk hfv hfn hct ht1 e1 e2 hcd hvl
      go_wp2_with fail
      go_loopw [3, 4, 24] (fun t3 t4 t24 W => ∃ (i c n cap g off : Nat), i ≤ fn ∧ t24 = .int .i64 (i : Int) ∧ t3 = .int .i64 (c : Int) ∧ t4 = .slice (some ⟨g, off, none⟩) (n + 1) cap ∧ Hid (∃ vs tr', vs.length = n + 1 ∧ cT tr' + ((fks.drop i).map fun k => cF k.er).sum + 1 ≤ gk ∧ c + dT tr' + dS (fks.drop i) ≤ 600 ∧ Tdw w W N (.slice (some ⟨g, off, none⟩) (n + 1) cap) vs (fks :: tr'))) (fun _ _ t24 _ => fn - (intOf t24).toNat)
      case atStart => exact ⟨0, c, m, cap, g, off, Nat.zero_le _, rfl, rfl, rfl, HI1⟩
      case round =>
        obtain ⟨i, c2, n, cap2, g2, off2, hi, rfl, rfl, rfl, HK⟩ := hrel
        clear HI1 cm
        obtain ⟨vs2, ts2, hv2, hc2, hd2, hT2⟩ := HK.out
        by_cases hlt : i < fn
        · have di : decide ((i : Int) < (fn : Int)) = true := decide_eq_true (by omega)
          have hil : i < fks.length := by rw [HS.out.2]; exact hlt
          obtain ⟨kb, ko, rfl, hko⟩ : ∃ kb ko, fa = some ⟨kb, ko, none⟩ ∧ ∀ (j : Nat) (t : Lf), fks[j]? = some t → t.b = kb ∧ t.o = ko + j * 4 := by
            obtain ⟨a', c', e, _, h2⟩ := HS.out.1.1
            cases e
            rcases h2 with h2 | ⟨kb, ko, h2, h3⟩
            · rw [h2] at hil; cases hil
            · exact ⟨kb, ko, h2, h3⟩
          have hkm := List.getElem_mem hil
          obtain ⟨hb1, ho1⟩ := hko i _ (List.getElem?_eq_getElem hil)
          obtain ⟨hh1, hh2⟩ := HS.out.1.2 _ hkm
          have hdr : ((fks.drop i).map fun k => cF k.er).sum = cF fks[i].er + ((fks.drop (i + 1)).map fun k => cF k.er).sum := by rw [List.drop_eq_getElem_cons hil, List.map_cons, List.sum_cons]
          have hdd : dS (fks.drop i) = (cF fks[i].er - 1) + dS (fks.drop (i + 1)) := by unfold dS; rw [List.drop_eq_getElem_cons hil, List.map_cons, List.sum_cons]
          generalize fks[i] = k at *
          have hget : ∀ {a : Addr} {u : Value}, w.cell? a = some u → wr.cell? a = some u := fun hc => (hT2.bel.cell (World.block_lt_of_cell? w _ hc)).trans hc
          have f0 := hget hh1.cells.c0
          have f1 := hget hh1.cells.c1
          have f2 := hget hh1.cells.c2
          have f3 := hget hh1.cells.c3
          obtain ⟨ga, gc, hkv, hgc, _⟩ := hh1.kidsIn
          have hSk := HS.out.1.kid hkm
          rw [hkv] at f3 hSk
          rw [hb1, ho1] at f0 f1 f2 f3
          have hck : cS k.kids = cF k.er := cS_kids k
          have hdk := dS_kids k
          have hcp : 1 ≤ cF k.er := by rw [← hck]; unfold cS; omega
          obtain ⟨kn2, hkn2⟩ : ∃ q, k.kids.length = q := ⟨_, rfl⟩
          rw [hkn2] at f3 hSk hdk
          have hwi : IntKind.i64.wrap ((i : Int) + 1) = (i : Int) + 1 := wrap_nat1 (by omega)
          have hwc : IntKind.i64.wrap ((c2 : Int) + (kn2 : Int)) = (c2 : Int) + (kn2 : Int) := by rw [IntKind.wrap_i64]; omega
          have hBa : Below wr.heap.size wr (wr.alloc (.cells #[.int .i64 k.op, .int .i64 k.x, .int .i64 k.y, .slice ga kn2 gc] 36)) := (Below.refl _ _).alloc (Nat.le_refl _) _
          have T3 := hT2.below hBa
          have hwin := T3.win
          have HQ : Hid (_ ∧ _ ∧ _ ∧ _ ∧ _ ∧ _) := And.intro hSk (And.intro hck (And.intro hdk (And.intro hdr (And.intro hdd T3))))
          clear hb1 ho1 hh1 hh2 hget hkv hSk hck hdk hdr hdd T3 hT2 HK hko hkm hBa
          go_wp2_with (first | (at_builtin; refine Aside.out ?_))
          delta Aside
          obtain ⟨w5, hw5⟩ : ∃ w5, w5 = (wr.alloc (.cells #[.int .i64 k.op, .int .i64 k.x, .int .i64 k.y, .slice ga kn2 gc] 36)).alloc (.cells #[.slice ga kn2 gc] 30) := ⟨_, rfl⟩
          have T5 : Tdw w w5 N (.slice (some ⟨g2, off2, none⟩) (n + 1) cap2) vs2 (fks :: ts2) := by rw [hw5]; exact HQ.out.2.2.2.2.2.below ((Below.refl _ _).alloc (Nat.le_refl _) _)
          have cu : w5.cell? ⟨wr.heap.size + 1, 0, none⟩ = some (.slice ga kn2 gc) := by
            rw [hw5]
            have := cell_oneV (wr.alloc (.cells #[.int .i64 k.op, .int .i64 k.x, .int .i64 k.y, .slice ga kn2 gc] 36)) (.slice ga kn2 gc) 30 0 _ rfl
            simp at this
            exact this
          have hT5w := T5.bel.size
          rw [← hw5]
          obtain ⟨i0, hi0, hz0, hz1, hz2⟩ := info_parts infoFs
          have hn6 : n + 1 ≤ 1000 := by
            have h1 := len_cT ts2
            have h2 := T5.len
            have h3 := HC.out
            simp only [List.length_cons] at h2
            omega
          refine wpList_append_win rfl _ _ 130 rfl w.heap.size 30 i0 _ 24 Tryz.underlying130 hi0 hz0 hz1 hz2 rfl _ vs2 rfl T5.win ⟨_, 0, none⟩ 1 (.slice ga kn2 gc) rfl cu (by simp [Value.oneCell']) (by unfold maxLen; omega) (by omega) hT5w ?_
          intro v8 w8 hwin8 hgrow8 hat8
          obtain ⟨g8, off8, cap8, hv8, _⟩ := hwin8.get
          have hl8 : (vs2 ++ [Value.slice ga kn2 gc]).length = n + 1 + 1 := by simp [hv2]
          rw [hl8] at hv8
          subst hv8
          have HF : Hid (∃ vs tr', vs.length = n + 1 + 1 ∧ cT tr' + ((fks.drop (i + 1)).map fun k => cF k.er).sum + 1 ≤ gk ∧ (c2 + kn2) + dT tr' + dS (fks.drop (i + 1)) ≤ 600 ∧ Tdw w w8 N (.slice (some ⟨g8, off8, none⟩) (n + 1 + 1) cap8) vs (fks :: tr')) := by
            obtain ⟨hSk, hck, hdk, hdr, hdd, _⟩ := HQ.out
            refine ⟨vs2 ++ [.slice ga kn2 gc], ts2 ++ [k.kids], hl8, ?_, ?_, hwin8, ?_, fun q u hu => ?_, ?_⟩
            · rw [cT_snoc, hck]
              omega
            · rw [dT_snoc]
              omega
            · have := T5.len
              simp at this ⊢
              omega
            · by_cases hq : q < vs2.length
              · rw [List.getElem?_append_left hq] at hu
                obtain ⟨z, z1, z2⟩ := T5.at_ q u hu
                refine ⟨z, ?_, z2⟩
                rw [← List.cons_append, List.getElem?_append_left (by rw [← T5.len]; exact hq)]
                exact z1
              · rw [List.getElem?_append_right (by omega)] at hu
                have hq0 : q - vs2.length = 0 := by
                  have := (List.getElem?_eq_some_iff.1 hu).1
                  simp at this
                  omega
                rw [hq0] at hu
                simp at hu
                subst hu
                refine ⟨k.kids, ?_, hSk⟩
                rw [← List.cons_append, List.getElem?_append_right (by rw [← T5.len]; omega), ← T5.len, hq0]
                rfl
            · have K8 : Kept (fun k => winB (.slice (some ⟨g2, off2, none⟩) (n + 1) cap2) = some k) w5 w8 := Kept.grown (Kept.refl _ w5) hgrow8 (fun k e => e)
              exact T5.bel.trans (K8.below hT5w (fun q hq => (T5.win.lt hq).1))
          clear hwin8 hgrow8 hat8 T5 cu HQ hl8 hwin
          go_wp2_with fail
          exact ⟨⟨i + 1, c2 + kn2, n + 1, cap8, g8, off8, hlt, by simp, by simp, rfl, HF⟩, by simp [intOf]; omega⟩
        · have di : decide ((i : Int) < (fn : Int)) = false := decide_eq_false (by omega)
          obtain rfl : i = fn := by omega
          have hd0 : fks.drop i = [] := by rw [← HS.out.2]; exact List.drop_length
          rw [hd0] at hd2 hc2
          obtain ⟨u, vr, rfl⟩ : ∃ u vr, vs2 = u :: vr := by
            cases vs2 with
            | nil => cases hv2
            | cons u vr => exact ⟨u, vr, rfl⟩
          have hvr : vr.length = n := by simpa using hv2
          have hcap : n + 1 ≤ cap2 := by
            obtain ⟨_, _, _, e8, h8, _⟩ := hT2.win.get
            cases e8
            simpa using h8
          have hlg : cT ts2 + 1 ≤ gk := by simpa using hc2
          have HF : Hid (∀ v, WinAt wr w.heap.size 30 v vr → ∃ vs ts, vs.length = n ∧ cT ts ≤ cT ts2 ∧ cT ts2 ≤ cS ks ∧ c2 + dT ts ≤ 600 ∧ Tdw w wr N v vs ts) := fun v hv => by
            refine ⟨vr, ts2, hvr, Nat.le_refl _, by omega, by simp [dS] at hd2; exact hd2, hv, ?_, fun q z hz => ?_, hT2.bel⟩
            · have := hT2.len
              simp at this
              exact this
            · obtain ⟨y, y1, y2⟩ := hT2.at_ (q + 1) z (by simpa using hz)
              exact ⟨y, by simpa using y1, y2⟩
          have HW : Hid _ := hT2.win
          clear HK hc2 hd2 hT2 hd0 hv2
          by_cases hv1 : cap2 = 1
          · subst hv1
            obtain rfl : n = 0 := by omega
            go_wp2_with fail
            go_roundg (cT ts2)
            case measure => omega
            case rel =>
              refine ⟨c2, 0, 0, g2, off2, rfl, rfl, HF.out _ ?_⟩
              have := WinAt.none_ HW.out
              rw [hvr] at this
              exact this
          · go_wp2_with fail
            go_roundg (cT ts2)
            case measure => omega
            case rel =>
              refine ⟨c2, n, cap2 - 1, g2, off2 + 1, rfl, rfl, HF.out _ ?_⟩
              have := WinAt.tail HW.out
              rw [hvr] at this
              exact this
end Go.Proofs.YtlehlgipbhfioaaGreat

namespace Go.Proofs.YtlehlgipbhfioaaGreat
open Go.RowKit Go.Maps

def ordQ (q : Pr) : Pr := ordP q.1 q.2
theorem ordQ_le (q : Pr) : (ordQ q).1 ≤ (ordQ q).2 := by simp [ordQ, ordP]; omega
def foE (q : Pr) : Fo := Fo.eq (q.1 : Int) (q.2 : Int)
theorem ats_eq (q : Pr) : ats (eqF (foE q)) = [((q.1 : Int), (q.2 : Int))] := by simp [foE, Fo.eq, eqF, ats]
theorem ats_neg (q : Pr) : ats (eqF (Fo.neg (foE q))) = [((q.1 : Int), (q.2 : Int))] := by simp [foE, Fo.neg, Fo.eq, eqF, ats]
theorem atsN_eq (q : Pr) : atsN (foE q) = [ordQ q] := by simp [atsN, ats_eq, ordQ]
theorem atsN_neg (q : Pr) : atsN (Fo.neg (foE q)) = [ordQ q] := by simp [atsN, ats_neg, ordQ]
theorem tseN_eq (q : Pr) : tseN (foE q) = (1, (1, [])) := by
  unfold tseN
  rw [ats_eq]
  simp [foE, Fo.eq, Cn.tse, numP]
theorem tseN_neg (q : Pr) : tseN (Fo.neg (foE q)) = (-1, (1, [])) := by
  unfold tseN
  rw [ats_neg]
  simp [foE, Fo.neg, Fo.eq, Cn.tse, numP]
theorem addF_eq (P : Pb) (q : Pr) : P.addF (foE q) = (P.vari (ordQ q)).2 := by
  unfold Pb.addF
  rw [atsN_eq, tseN_eq]
  rfl
theorem addF_neg (P : Pb) (q : Pr) : P.addF (Fo.neg (foE q)) = (P.vari (ordQ q)).2 := by
  unfold Pb.addF
  rw [atsN_neg, tseN_neg]
  rfl
theorem fmOf_eq (n : Nat) (P : Pb) (q : Pr) : fmOf n P (foE q) = ⟨[ordQ q], [[((P.vari (ordQ q)).1 : Int)]], fun e => evE n e (foE q)⟩ := by
  unfold fmOf nmsN
  rw [atsN_eq, tseN_eq]
  simp [Pb.names, renL]
theorem fmOf_neg (n : Nat) (P : Pb) (q : Pr) : fmOf n P (Fo.neg (foE q)) = ⟨[ordQ q], [[-((P.vari (ordQ q)).1 : Int)]], fun e => evE n e (Fo.neg (foE q))⟩ := by
  unfold fmOf nmsN
  rw [atsN_neg, tseN_neg]
  simp [Pb.names, renL]
theorem evE_eq (n : Nat) (e : Nat → Nat → Bool) (q : Pr) (h : InN n q) : evE n e (foE q) = e q.1 q.2 := by
  have h1 : inC n (q.1 : Int) = true := by simp [inC]; exact h.1
  have h2 : inC n (q.2 : Int) = true := by simp [inC]; exact h.2
  rw [foE, Fo.eq, evE, evM]
  simp [h1, h2]
theorem evE_neg (n : Nat) (e : Nat → Nat → Bool) (f : Fo) : evE n e (Fo.neg f) = !evE n e f := by
  rw [Fo.neg, evE, evM]
  simp
/-- What stands behind some equalities. -/
structure EqI (n : Nat) (qs : List Pr) (P : Pb) (fs : List Fm) : Prop where
  num : NumOk P
  pk : Pk P
  known : P.known = []
  keys : P.vars.map (·.1) = addP [] (qs.map ordQ)
  len : fs.length = qs.length
  at_ : ∀ (i : Nat) (q : Pr), qs[i]? = some q → ∃ v, P.num (ordQ q) = some v ∧ fs[i]? = some ⟨[ordQ q], [[(v : Int)]], fun e => evE n e (foE q)⟩
  lem : ∀ c ∈ P.lemmas, ∃ (a : Pr) (v : Nat), a.1 = a.2 ∧ P.num a = some v ∧ c = [(v : Int)]
  few : P.lemmas.length ≤ P.count
theorem vari_lem {P : Pb} (h : ∀ c ∈ P.lemmas, ∃ (a : Pr) (v : Nat), a.1 = a.2 ∧ P.num a = some v ∧ c = [(v : Int)]) (hf : P.lemmas.length ≤ P.count) (a : Pr) :
    (∀ c ∈ (P.vari a).2.lemmas, ∃ (a' : Pr) (v : Nat), a'.1 = a'.2 ∧ (P.vari a).2.num a' = some v ∧ c = [(v : Int)]) ∧ (P.vari a).2.lemmas.length ≤ (P.vari a).2.count := by
  have hG := (P.vari_ok a).1
  cases hn : P.num a with
  | some x =>
    have e : (P.vari a).2 = P := by unfold Pb.vari; rw [hn]
    rw [e]
    exact ⟨h, hf⟩
  | none =>
    have e : (P.vari a).2 = { P with count := P.count + 1, vars := P.vars ++ [(a, P.count + 1)], lemmas := if a.1 = a.2 then P.lemmas ++ [[((P.count + 1 : Nat) : Int)]] else P.lemmas } := by unfold Pb.vari; rw [hn]
    have e1 : (P.vari a).1 = P.count + 1 := by unfold Pb.vari; rw [hn]
    have hl : (P.vari a).2.lemmas = if a.1 = a.2 then P.lemmas ++ [[((P.count + 1 : Nat) : Int)]] else P.lemmas := by rw [e]
    have hc : (P.vari a).2.count = P.count + 1 := by rw [e]
    refine ⟨fun c hcm => ?_, ?_⟩
    · rw [hl] at hcm
      have hold : c ∈ P.lemmas → ∃ (a' : Pr) (v : Nat), a'.1 = a'.2 ∧ (P.vari a).2.num a' = some v ∧ c = [(v : Int)] := fun hm => by
        obtain ⟨a', v, k1, k2, k3⟩ := h c hm
        exact ⟨a', v, k1, hG.num _ _ k2, k3⟩
      split at hcm
      · rename_i haa
        rcases List.mem_append.1 hcm with k | k
        · exact hold k
        · simp only [List.mem_singleton] at k
          refine ⟨a, P.count + 1, haa, ?_, k⟩
          rw [(P.vari_ok a).2.1, e1]
      · exact hold hcm
    · rw [hl, hc]
      split
      · simp; exact hf
      · omega
theorem EqI.start (n : Nat) : EqI n [] pb0 [] := ⟨⟨rfl, fun i e h => by simp [pb0] at h, by simp [pb0]⟩, ⟨fun e h => by simp [pb0] at h, fun c h => by simp [pb0] at h⟩, rfl, rfl, rfl, fun i q h => by simp at h, fun c h => by simp [pb0] at h, by simp [pb0]⟩
theorem EqI.snoc {n : Nat} {qs : List Pr} {P : Pb} {fs : List Fm} (h : EqI n qs P fs) (q : Pr) : EqI n (qs ++ [q]) (P.addF (foE q)) (fs ++ [fmOf n P (foE q)]) := by
  rw [addF_eq, fmOf_eq]
  obtain ⟨n1, n2⟩ := h.num.vari (ordQ q)
  obtain ⟨l1, l2⟩ := vari_lem h.lem h.few (ordQ q)
  obtain ⟨g1, g2, g3⟩ := P.vari_ok (ordQ q)
  refine ⟨n1, (h.pk.vari _).1, g3.trans h.known, ?_, by simp [h.len], fun i q' hi => ?_, l1, l2⟩
  · rw [n2, h.keys, List.map_append, addP_app]
    rfl
  · by_cases hlt : i < qs.length
    · rw [List.getElem?_append_left hlt] at hi
      obtain ⟨v, k1, k2⟩ := h.at_ i q' hi
      exact ⟨v, g1.num _ _ k1, by rw [List.getElem?_append_left (by rw [h.len]; exact hlt)]; exact k2⟩
    · rw [List.getElem?_append_right (by omega)] at hi
      have hi0 : i - qs.length = 0 := by
        have := (List.getElem?_eq_some_iff.1 hi).1
        simp at this
        omega
      rw [hi0] at hi
      simp at hi
      subst hi
      exact ⟨_, g2, by rw [List.getElem?_append_right (by rw [h.len]; omega), h.len, hi0]; rfl⟩
theorem EqI.all (n : Nat) (qs : List Pr) : ∀ k, k ≤ qs.length → EqI n (qs.take k) (Pb.adds n ((qs.take k).map foE) pb0 []).1 (Pb.adds n ((qs.take k).map foE) pb0 []).2
  | 0, _ => by simpa [Pb.adds] using EqI.start n
  | k + 1, h => by
    have ih := EqI.all n qs k (by omega)
    have e : qs.take (k + 1) = qs.take k ++ [qs[k]] := by rw [List.take_add_one, List.getElem?_eq_getElem (by omega)]; rfl
    rw [e, List.map_append, List.map_cons, List.map_nil, adds_snoc]
    exact ih.snoc _
/-- Members alone count. -/
theorem nil_of_mem {l : List Pr} (h : ∀ q, q ∉ l) : l = [] := List.eq_nil_iff_forall_not_mem.2 h
theorem cg_ord {l : List Tm} {qs : List Pr} (i j : Nat) : Cc.Cg l (addP [] (qs.map ordQ)) i j ↔ Cc.Cg l qs i j := by
  have hm : ∀ q, q ∈ addP [] (qs.map ordQ) ↔ ∃ q' ∈ qs, ordQ q' = q := fun q => by
    obtain ⟨a1, a2, a3⟩ := addP_sub (qs.map ordQ) []
    rw [← List.mem_map]
    exact ⟨fun h => (a3 q h).resolve_left (by simp), a2 q⟩
  constructor
  · refine fun h => Cc.Cg.mono (fun a b hab ha hb => ?_) h
    obtain ⟨q, hq, e⟩ := (hm _).1 hab
    simp only [ordQ, ordP, Prod.mk.injEq] at e
    by_cases hle : q.1 ≤ q.2
    · rw [Nat.min_eq_left hle, Nat.max_eq_right hle] at e
      exact Cc.Cg.told (by rw [← e.1, ← e.2]; exact hq) ha hb
    · rw [Nat.min_eq_right (by omega), Nat.max_eq_left (by omega)] at e
      exact Cc.Cg.symm (Cc.Cg.told (by rw [← e.1, ← e.2]; exact hq) hb ha)
  · refine fun h => Cc.Cg.mono (fun a b hab ha hb => ?_) h
    have := (hm (ordQ (a, b))).2 ⟨(a, b), hab, rfl⟩
    simp only [ordQ, ordP] at this
    by_cases hle : a ≤ b
    · rw [Nat.min_eq_left hle, Nat.max_eq_right hle] at this
      exact Cc.Cg.told this ha hb
    · rw [Nat.min_eq_right (by omega), Nat.max_eq_left (by omega)] at this
      exact Cc.Cg.symm (Cc.Cg.told this hb ha)
theorem mem_argN {l : List Tm} {a b : Nat} {t u : Tm} (ha : l[a]? = some t) (hb : l[b]? = some u) {q : Pr} (h : q ∈ argN l (ordP a b)) : ∃ k x y : Nat, t.args[k]? = some x ∧ u.args[k]? = some y ∧ (q = ordP x y ∨ q = ordP y x) := by
  have key : ∀ (xs ys : List Nat) (q : Pr), q ∈ List.zipWith ordP xs ys → ∃ k x y : Nat, xs[k]? = some x ∧ ys[k]? = some y ∧ q = ordP x y := fun xs ys q h => by
    obtain ⟨k, hk, e⟩ := List.getElem_of_mem h
    have hk' := hk
    rw [List.length_zipWith] at hk'
    refine ⟨k, xs[k]'(by omega), ys[k]'(by omega), List.getElem?_eq_getElem _, List.getElem?_eq_getElem _, ?_⟩
    rw [← e, List.getElem_zipWith]
  have e1 : argsN l a = t.args := by simp [argsN, ha]
  have e2 : argsN l b = u.args := by simp [argsN, hb]
  unfold argN ordP at h
  by_cases hle : a ≤ b
  · simp only [Nat.min_eq_left hle, Nat.max_eq_right hle] at h
    rw [e1, e2] at h
    obtain ⟨k, x, y, k1, k2, k3⟩ := key _ _ _ h
    exact ⟨k, x, y, k1, k2, .inl k3⟩
  · simp only [Nat.min_eq_right (show b ≤ a by omega), Nat.max_eq_left (show b ≤ a by omega)] at h
    rw [e1, e2] at h
    obtain ⟨k, x, y, k1, k2, k3⟩ := key _ _ _ h
    exact ⟨k, y, x, k2, k1, .inr k3⟩
theorem conn_ord {E : Edges} {x y : Nat} (h : Conn E x y) {q : Pr} (e : q = ordP x y ∨ q = ordP y x) : Conn E q.1 q.2 := by
  have : q = ordP x y := by
    rcases e with e | e
    · exact e
    · rw [e, ordP_comm]
  rw [this]
  unfold ordP
  by_cases hle : x ≤ y
  · simp only [Nat.min_eq_left hle, Nat.max_eq_right hle]
    exact h
  · simp only [Nat.min_eq_right (show y ≤ x by omega), Nat.max_eq_left (show y ≤ x by omega)]
    exact h.symm
/-- What was linked follows. -/
theorem PfIs.cg {l : List Tm} (hB : Bnk l) {told : List Pr} {P : Pf} {E : Edges} (h : PfIs l told P E) (hle : ∀ a ∈ told, a.2 < l.length ∧ a.1 ≤ a.2) : ∀ (n s : Nat), s ≤ n → n ≤ E.length → ∀ a b, a < l.length → Conn (E.take s) a b → Cc.Cg l told a b
  | 0, s, hs, _, a, b, ha, hc => by
    obtain rfl : s = 0 := by omega
    rw [List.take_zero] at hc
    cases hc with
    | refl => exact Cc.Cg.refl ha
    | step _ k => rcases k with k | k <;> cases k
  | n + 1, s, hs, hn, a, b, ha, hc => by
    by_cases hsn : s ≤ n
    · exact PfIs.cg hB h hle n s hsn (by omega) a b ha hc
    · obtain rfl : s = n + 1 := by omega
      have he : E.take (n + 1) = E.take n ++ [E[n]] := by rw [List.take_add_one, List.getElem?_eq_getElem (by omega)]; rfl
      have ih := fun a b ha hc => PfIs.cg hB h hle n n (Nat.le_refl _) (by omega) a b ha hc
      obtain ⟨l1, l2⟩ := h.lt E[n] (List.getElem_mem _)
      have hed : Cc.Cg l told (E[n]).1 (E[n]).2 := by
        rcases h.edge n (by omega) with k | ⟨t, u, t1, t2, t3, t4, t5⟩
        · obtain ⟨k1, k2⟩ := hle _ k
          unfold ordP at k
          by_cases hle' : (E[n]).1 ≤ (E[n]).2
          · rw [Nat.min_eq_left hle', Nat.max_eq_right hle'] at k
            exact Cc.Cg.told k l1 l2
          · rw [Nat.min_eq_right (by omega), Nat.max_eq_left (by omega)] at k
            exact Cc.Cg.symm (Cc.Cg.told k l2 l1)
        · refine Cc.Cg.cong t1 t2 t3 t4 fun k x y hx hy => ?_
          have hxl : x < l.length := hB.lt _ t t1 x (List.mem_of_getElem? hx)
          exact ih x y hxl (t5 k x y hx hy)
      rw [he] at hc
      have hc' := conn_add.1 hc
      rcases hc' with k | ⟨k1, k2⟩ | ⟨k1, k2⟩
      · exact ih a b ha k
      · exact (ih a _ ha k1).trans (hed.trans (ih _ b l2 k2))
      · exact (ih a _ ha k1).trans (hed.symm.trans (ih _ b l1 k2))
theorem cgN_iff {l : List Tm} (hB : Bnk l) {told : List Pr} (ht : ∀ a ∈ told, a.1 ≤ a.2 ∧ a.2 < l.length) {a b : Nat} (ha : a < l.length) (hb : b < l.length) : cgN l told a b = true ↔ Cc.Cg l told a b := by
  obtain ⟨P, E, h1, h2, h3⟩ := proof_ok hB ht
  unfold cgN
  rw [h1]
  simp only [decide_eq_true_eq]
  rw [h2.conn a b ha hb]
  constructor
  · intro h
    refine PfIs.cg hB h2 (fun q hq => ⟨(ht q hq).2, (ht q hq).1⟩) E.length E.length (Nat.le_refl _) (Nat.le_refl _) a b ha ?_
    rw [List.take_length]
    exact h
  · exact h3 a b
theorem toldN_addP (val : Nat → Bool) (vs : List (Pr × Nat)) (am : Nat → List Pr) : ∀ (ns : List Nat) (acc : List Pr), toldN val vs am acc ns = addP acc ((ns.flatMap am).filter fun a => val ((numV vs a).getD 0 - 1)) := by
  have h1 : ∀ (xs acc : List Pr), tellL val vs acc xs = addP acc (xs.filter fun a => val ((numV vs a).getD 0 - 1)) := by
    intro xs
    induction xs with
    | nil => intro acc; rfl
    | cons a xs ih =>
      intro acc
      have e : tellL val vs acc (a :: xs) = tellL val vs (tell1 val vs acc a) xs := rfl
      rw [e, ih, tell1, List.filter_cons]
      split
      · exact (addP_app acc [a] _).symm
      · rfl
  intro ns
  induction ns with
  | nil => intro acc; rfl
  | cons n ns ih =>
    intro acc
    have e : toldN val vs am acc (n :: ns) = toldN val vs am (tellL val vs acc (am n)) ns := rfl
    rw [e, ih, h1, List.flatMap_cons, List.filter_append, addP_app]
theorem wrongN_addP (val : Nat → Bool) (vs : List (Pr × Nat)) (cq : Nat → Nat → Bool) (am : Nat → List Pr) (ok : Nat → Bool) : ∀ (ns : List Nat) (acc : List Pr), wrongN val vs cq am ok acc ns = addP acc ((ns.flatMap fun n => if ok n then [] else am n).filter fun a => cq a.1 a.2 && !val ((numV vs a).getD 0 - 1)) := by
  have h1 : ∀ (xs acc : List Pr), wrngL val vs cq acc xs = addP acc (xs.filter fun a => cq a.1 a.2 && !val ((numV vs a).getD 0 - 1)) := by
    intro xs
    induction xs with
    | nil => intro acc; rfl
    | cons a xs ih =>
      intro acc
      have e : wrngL val vs cq acc (a :: xs) = wrngL val vs cq (wrng1 val vs cq acc a) xs := rfl
      rw [e, ih, wrng1, List.filter_cons]
      by_cases hc : cq a.1 a.2 = true ∧ val ((numV vs a).getD 0 - 1) = false
      · rw [if_pos hc, if_pos (by simp [hc.1, hc.2])]
        exact (addP_app acc [a] _).symm
      · rw [if_neg hc, if_neg (by simpa using hc)]
  intro ns
  induction ns with
  | nil => intro acc; rfl
  | cons n ns ih =>
    intro acc
    have e : wrongN val vs cq am ok acc (n :: ns) = wrongN val vs cq am ok (if ok n then acc else wrngL val vs cq acc (am n)) ns := rfl
    rw [e, ih, List.flatMap_cons, List.filter_append, addP_app]
    split
    · rfl
    · rw [h1]
theorem fm_range {fs : List Fm} {α : Type} (F : Fm → List α) : (List.range fs.length).flatMap (fun n => F (Fm.get fs n)) = fs.flatMap F := by
  have : (List.range fs.length).map (Fm.get fs) = fs := by
    refine List.ext_getElem? fun i => ?_
    by_cases hi : i < fs.length
    · rw [List.getElem?_map, List.getElem?_range hi]
      simp [Fm.get, List.getElem?_eq_getElem hi]
    · rw [List.getElem?_eq_none (by simp; omega), List.getElem?_eq_none (by omega)]
  conv => rhs; rw [← this]
  rw [List.flatMap_map]
/-- Behind equalities and one more variable. -/
structure EqJ (n : Nat) (qs : List Pr) (P : Pb) (fs : List Fm) : Prop where
  num : NumOk P
  pk : Pk P
  known : P.known = []
  len : fs.length = qs.length
  at_ : ∀ (i : Nat) (q : Pr), qs[i]? = some q → ∃ v, P.num (ordQ q) = some v ∧ fs[i]? = some ⟨[ordQ q], [[(v : Int)]], fun e => evE n e (foE q)⟩
  lem : ∀ c ∈ P.lemmas, ∃ (a : Pr) (v : Nat), a.1 = a.2 ∧ P.num a = some v ∧ c = [(v : Int)]
  few : P.lemmas.length ≤ P.count
theorem EqI.j {n : Nat} {qs : List Pr} {P : Pb} {fs : List Fm} (h : EqI n qs P fs) : EqJ n qs P fs := ⟨h.num, h.pk, h.known, h.len, h.at_, h.lem, h.few⟩
theorem EqJ.vari {n : Nat} {qs : List Pr} {P : Pb} {fs : List Fm} (h : EqJ n qs P fs) (a : Pr) : EqJ n qs (P.vari a).2 fs := by
  obtain ⟨l1, l2⟩ := vari_lem h.lem h.few a
  obtain ⟨g1, g2, g3⟩ := P.vari_ok a
  exact ⟨(h.num.vari a).1, (h.pk.vari _).1, g3.trans h.known, h.len, fun i q hi => by obtain ⟨v, k1, k2⟩ := h.at_ i q hi; exact ⟨v, g1.num _ _ k1, k2⟩, l1, l2⟩
theorem EqJ.mem {n : Nat} {qs : List Pr} {P : Pb} {fs : List Fm} (h : EqJ n qs P fs) {f : Fm} (hf : f ∈ fs) : ∃ q ∈ qs, ∃ v, P.num (ordQ q) = some v ∧ f = ⟨[ordQ q], [[(v : Int)]], fun e => evE n e (foE q)⟩ := by
  obtain ⟨i, hi, e⟩ := List.getElem_of_mem hf
  have hq : i < qs.length := by rw [← h.len]; exact hi
  obtain ⟨v, k1, k2⟩ := h.at_ i _ (List.getElem?_eq_getElem hq)
  refine ⟨_, List.getElem_mem hq, v, k1, ?_⟩
  rw [List.getElem?_eq_getElem hi] at k2
  injection k2 with k2
  exact e.symm.trans k2
theorem EqJ.has {n : Nat} {qs : List Pr} {P : Pb} {fs : List Fm} (h : EqJ n qs P fs) {q : Pr} (hq : q ∈ qs) : ∃ v, P.num (ordQ q) = some v ∧ ⟨[ordQ q], [[(v : Int)]], fun e => evE n e (foE q)⟩ ∈ fs := by
  obtain ⟨i, hi, e⟩ := List.getElem_of_mem hq
  obtain ⟨v, k1, k2⟩ := h.at_ i q (by rw [← e]; exact List.getElem?_eq_getElem hi)
  exact ⟨v, k1, List.mem_of_getElem? k2⟩
theorem flat_one (f : Pr → Pr) : ∀ qs : List Pr, qs.flatMap (fun q => [f q]) = qs.map f
  | [] => rfl
  | q :: qs => by rw [List.flatMap_cons, flat_one f qs]; rfl
theorem EqJ.ams {n : Nat} {qs : List Pr} {P : Pb} {fs : List Fm} (h : EqJ n qs P fs) : fs.flatMap Fm.am = qs.map ordQ := by
  have : fs.map Fm.am = qs.map fun q => [ordQ q] := by
    refine List.ext_getElem? fun i => ?_
    by_cases hi : i < qs.length
    · obtain ⟨v, k1, k2⟩ := h.at_ i _ (List.getElem?_eq_getElem hi)
      rw [List.getElem?_map, List.getElem?_map, k2, List.getElem?_eq_getElem hi]
      rfl
    · rw [List.getElem?_eq_none (by simp [h.len]; omega), List.getElem?_eq_none (by simp; omega)]
  have e : fs.flatMap Fm.am = (fs.map Fm.am).flatten := by rw [List.flatMap_def]
  rw [e, this, ← List.flatMap_def, flat_one]
/-- The clauses of equalities are units, and their variables are true. -/
theorem EqJ.unit {n : Nat} {qs : List Pr} {P : Pb} {fs : List Fm} (h : EqJ n qs P fs) {c : List Int} (hc : c ∈ P.lemmas ++ fs.flatMap Fm.cs) : ∃ (a : Pr) (v : Nat), (a.1 = a.2 ∨ ∃ q ∈ qs, ordQ q = a) ∧ P.num a = some v ∧ c = [(v : Int)] := by
  rcases List.mem_append.1 hc with k | k
  · obtain ⟨a, v, k1, k2, k3⟩ := h.lem c k
    exact ⟨a, v, .inl k1, k2, k3⟩
  · obtain ⟨f, k1, k2⟩ := List.mem_flatMap.1 k
    obtain ⟨q, hq, v, k3, rfl⟩ := h.mem k1
    simp only [List.mem_singleton] at k2
    exact ⟨_, v, .inr ⟨q, hq, rfl⟩, k3, k2⟩
theorem unit_ok {P : Pb} (hP : Pk P) {a : Pr} {v : Nat} (hv : P.num a = some v) (s : Int) (hs : s = (v : Int) ∨ s = -(v : Int)) : ClOk P.count [s] ∧ s ≠ 0 ∧ s.natAbs ≤ P.count := by
  have := hP.num hv
  have h2 : s ≠ 0 ∧ s.natAbs ≤ P.count := by omega
  exact ⟨⟨.inl (by simp), fun x hx => by simp only [List.mem_singleton] at hx; subst hx; exact h2⟩, h2⟩
/-- Of equalities alone there is a model. -/
theorem eq_model {l : List Tm} (hB : Bnk l) {qs : List Pr} (hq : ∀ q ∈ qs, InN l.length q) (hl : qs.length ≤ 600) {P : Pb} {fs : List Fm} (h : EqI l.length qs P fs) : MdlT l fs (List.range fs.length) (fun r _ => ∃ t, r = some t) 1 P := by
  have hj := h.j
  have hcls : clsN P fs (List.range fs.length) = P.lemmas ++ fs.flatMap Fm.cs := by unfold clsN; rw [fm_range Fm.cs]
  have hcnt : P.count ≤ 600 := by
    rw [h.num.cnt]
    have e1 : P.vars.length = (P.vars.map (·.1)).length := by simp
    rw [e1, h.keys]
    have := addP_len [] (qs.map ordQ)
    simp at this
    omega
  have hun : ∀ c ∈ clsN P fs (List.range fs.length), ∃ x, c = [x] ∧ 0 < x ∧ ClOk P.count c ∧ x.natAbs ≤ P.count := fun c hc => by
    rw [hcls] at hc
    obtain ⟨a, v, _, k2, rfl⟩ := hj.unit hc
    have := hj.pk.num k2
    exact ⟨_, rfl, by omega, (unit_ok hj.pk k2 _ (.inl rfl)).1, by omega⟩
  have hlen : (clsN P fs (List.range fs.length)).length ≤ 100000000 := by
    rw [hcls, List.length_append, List.length_flatMap]
    have h1 := h.few
    have h2 : (fs.map fun f => f.cs.length).sum ≤ fs.length * 1 := by
      have : ∀ gs : List Fm, (∀ f ∈ gs, f.cs.length ≤ 1) → (gs.map fun f => f.cs.length).sum ≤ gs.length * 1 := by
        intro gs
        induction gs with
        | nil => intro _; simp
        | cons g gs ih =>
          intro hg
          have := ih (fun f hf => hg f (by simp [hf]))
          have := hg g (by simp)
          simp at *
          omega
      exact this fs fun f hf => by obtain ⟨q, _, v, _, rfl⟩ := hj.mem hf; simp
    rw [h.len] at h2
    omega
  obtain ⟨vs, s1, s2, s3⟩ := solve_units (n := P.count) (cs := clsN P fs (List.range fs.length)) (fun c hc => by obtain ⟨x, k1, k2, k3, k4⟩ := hun c hc; exact ⟨x, k1, by omega, k4⟩) (fun x h1 h2 => by
    obtain ⟨y, k1, k2, _⟩ := hun _ h1
    obtain ⟨z, k3, k4, _⟩ := hun _ h2
    simp at k1 k3
    omega)
  refine ⟨⟨by omega, hlen, fun c hc => by obtain ⟨x, _, _, k3, _⟩ := hun c hc; exact k3⟩, ?_⟩
  rw [s1]
  have htrue : ∀ q ∈ qs, valB vs ((numV P.vars (ordQ q)).getD 0 - 1) = true := fun q hq => by
    obtain ⟨v, k1, k2⟩ := hj.has hq
    have e : numV P.vars (ordQ q) = some v := k1
    have hv := hj.pk.num k1
    rw [e]
    obtain ⟨v', rfl⟩ : ∃ v', v = v' + 1 := ⟨v - 1, by omega⟩
    have := (s3 v').1 (by rw [hcls]; exact List.mem_append_right _ (List.mem_flatMap.2 ⟨_, k2, by simp⟩))
    simp [valB, this]
  have htold : tolN fs P (List.range fs.length) vs = addP [] (qs.map ordQ) := by
    unfold tolN
    rw [toldN_addP, fm_range Fm.am, hj.ams, List.filter_eq_self.2 (fun a ha => by obtain ⟨q, k1, rfl⟩ := List.mem_map.1 ha; exact htrue q k1)]
  have hin : ∀ a ∈ addP [] (qs.map ordQ), a.1 ≤ a.2 ∧ a.2 < l.length := fun a ha => by
    rcases (addP_sub (qs.map ordQ) []).2.2 a ha with k | k
    · cases k
    · obtain ⟨q, k1, rfl⟩ := List.mem_map.1 k
      exact ⟨ordQ_le q, (InN.ord (hq q k1).1 (hq q k1).2).2⟩
  have hw : wroN l fs P (List.range fs.length) vs = [] := by
    refine nil_of_mem fun q hm => ?_
    unfold wroN at hm
    rw [wrongN_mem] at hm
    rcases hm with k | ⟨⟨n, hn, k1, k2⟩, _⟩
    · cases k
    · have hnl : n < fs.length := by simpa using hn
      have hnq : n < qs.length := by rw [← hj.len]; exact hnl
      obtain ⟨v, e1, e2⟩ := hj.at_ n _ (List.getElem?_eq_getElem hnq)
      have eg : Fm.get fs n = ⟨[ordQ qs[n]], [[(v : Int)]], fun e => evE l.length e (foE qs[n])⟩ := by unfold Fm.get; rw [e2]; rfl
      have hqn : qs[n] ∈ qs := List.getElem_mem _
      rw [eg] at k1
      simp only at k1
      rw [evE_eq _ _ _ (hq _ hqn), htold] at k1
      have := (cgN_iff hB hin (hq _ hqn).1 (hq _ hqn).2).2 ((cg_ord _ _).2 (Cc.Cg.told hqn (hq _ hqn).1 (hq _ hqn).2))
      rw [k1] at this
      cases this
  exact ⟨fun _ => ⟨_, rfl⟩, fun k => absurd hw k⟩
end Go.Proofs.YtlehlgipbhfioaaGreat

namespace Go.Proofs.YtlehlgipbhfioaaGreat
open Go.RowKit Go.Maps

theorem argN_in {l : List Tm} (hB : Bnk l) (p : Pr) : (∀ q ∈ argN l p, q.1 ≤ q.2 ∧ q.1 < l.length ∧ q.2 < l.length) ∧ (argN l p).length ≤ 4 := by
  have ha : ∀ i, (∀ a ∈ argsN l i, a < l.length) ∧ (argsN l i).length ≤ 4 := fun i => by
    unfold argsN
    cases hi : l[i]? with
    | none => simp
    | some t => exact ⟨fun a h => hB.lt i t hi a h, hB.four i t hi⟩
  refine ⟨fun q hq => ?_, ?_⟩
  · obtain ⟨k, hk, e⟩ := List.getElem_of_mem hq
    unfold argN at hk e
    have hk' := hk
    rw [List.length_zipWith] at hk'
    rw [List.getElem_zipWith] at e
    have h1 := (ha p.1).1 _ (List.getElem_mem (show k < (argsN l p.1).length by omega))
    have h2 := (ha p.2).1 _ (List.getElem_mem (show k < (argsN l p.2).length by omega))
    have := InN.ord h1 h2
    rw [e] at this
    refine ⟨?_, this⟩
    rw [← e]
    simp [ordP]
    omega
  · unfold argN
    rw [List.length_zipWith]
    have := (ha p.1).2
    omega
/-- What the links of a proof come of. -/
theorem PfIs.facts {l : List Tm} (hB : Bnk l) {told : List Pr} {F : Pf} {E : Edges} (h : PfIs l told F E) :
    (∀ s (hs : s < E.length), ordP (E[s]).1 (E[s]).2 ∈ told ∨ ∀ q ∈ argN l (ordP (E[s]).1 (E[s]).2), Conn (E.take s) q.1 q.2) ∧
    ∀ x y, AdjE E x y → ordP x y ∉ told → (∃ s t : Tm, l[(ordP x y).1]? = some s ∧ l[(ordP x y).2]? = some t ∧ s.args.length = t.args.length ∧ s.args.length ≤ 4) ∧ ∀ q ∈ argN l (ordP x y), Conn E q.1 q.2 ∧ q.1 < l.length ∧ q.2 < l.length := by
  have key : ∀ s (hs : s < E.length), ordP (E[s]).1 (E[s]).2 ∈ told ∨ ((∃ s' t : Tm, l[(ordP (E[s]).1 (E[s]).2).1]? = some s' ∧ l[(ordP (E[s]).1 (E[s]).2).2]? = some t ∧ s'.args.length = t.args.length ∧ s'.args.length ≤ 4) ∧ ∀ q ∈ argN l (ordP (E[s]).1 (E[s]).2), Conn (E.take s) q.1 q.2) := fun s hs => by
    rcases h.edge s hs with k | ⟨t, u, t1, t2, t3, t4, t5⟩
    · exact .inl k
    · refine .inr ⟨?_, fun q hq => ?_⟩
      · unfold ordP
        by_cases hle : (E[s]).1 ≤ (E[s]).2
        · simp only [Nat.min_eq_left hle, Nat.max_eq_right hle]
          exact ⟨t, u, t1, t2, t4, hB.four _ _ t1⟩
        · simp only [Nat.min_eq_right (show (E[s]).2 ≤ (E[s]).1 by omega), Nat.max_eq_left (show (E[s]).2 ≤ (E[s]).1 by omega)]
          exact ⟨u, t, t2, t1, t4.symm, hB.four _ _ t2⟩
      · obtain ⟨k, x, y, k1, k2, k3⟩ := mem_argN t1 t2 hq
        exact conn_ord (t5 k x y k1 k2) k3
  refine ⟨fun s hs => (key s hs).imp id (·.2), fun x y hxy hno => ?_⟩
  have hs : ∃ s, ∃ hs : s < E.length, ordP (E[s]).1 (E[s]).2 = ordP x y := by
    rcases hxy with k | k
    · obtain ⟨s, hs, e⟩ := List.getElem_of_mem k
      exact ⟨s, hs, by rw [e]⟩
    · obtain ⟨s, hs, e⟩ := List.getElem_of_mem k
      exact ⟨s, hs, by rw [e, ordP_comm]⟩
  obtain ⟨s, hs, e⟩ := hs
  have := key s hs
  rw [e] at this
  obtain ⟨k1, k2⟩ := this.resolve_left hno
  exact ⟨k1, fun q hq => ⟨(k2 q hq).mono (fun e he => List.mem_of_mem_take he), ((argN_in hB _).1 q hq).2⟩⟩
theorem forced_unit {cs : List (List Int)} {x : Int} (h : [x] ∈ cs) : Forced (cs.map litsN) (litN x) := by
  have e : litsN [x] = [litN x] := rfl
  refine Forced.by_ (c := litsN [x]) (List.mem_map.2 ⟨_, h, rfl⟩) (by rw [e]; simp) (fun y hy hne => ?_)
  rw [e] at hy
  exact absurd (by simpa using hy) hne
theorem forced_not {cs : List (List Int)} {v : Nat} (hv : v ≠ 0) (h : [-(v : Int)] ∈ cs) : Forced (cs.map litsN) (opp (litN (v : Int))) := by
  rw [opp_litN (by omega)]
  exact forced_unit h
theorem Pb.vari_had {P : Pb} {a : Pr} {x : Nat} (h : P.num a = some x) : P.vari a = (x, P) := by
  unfold Pb.vari
  rw [h]
theorem cube_le {n : Nat} (h : n ≤ 150) : 2 * n * (n * n) ≤ 6750000 := by
  have h1 : n * n ≤ 150 * 150 := Nat.mul_le_mul h h
  have h2 : 2 * n ≤ 300 := by omega
  exact Nat.le_trans (Nat.mul_le_mul h2 h1) (by decide)
/-- The formulas of Follows. -/
structure FoI (l : List Tm) (qs : List Pr) (q0 : Pr) (P : Pb) (V : Nat) (fs : List Fm) : Prop where
  j : EqJ l.length qs P fs
  num : P.num (ordQ q0) = some V
  keys : P.vars.map (·.1) = addP (addP [] (qs.map ordQ)) [ordQ q0]
  self : (ordQ q0).1 = (ordQ q0).2 → [(V : Int)] ∈ P.lemmas ++ fs.flatMap Fm.cs
theorem FoI.of {l : List Tm} {qs : List Pr} {P : Pb} {fs : List Fm} (h : EqI l.length qs P fs) (q0 : Pr) : FoI l qs q0 (P.vari (ordQ q0)).2 (P.vari (ordQ q0)).1 fs := by
  refine ⟨h.j.vari _, (P.vari_ok _).2.1, by rw [(h.num.vari _).2, h.keys], fun hs => ?_⟩
  cases hn : P.num (ordQ q0) with
  | some x =>
    have hm : ordQ q0 ∈ P.vars.map (·.1) := Classical.byContradiction fun k => by rw [(num_none_iff P _).2 k] at hn; cases hn
    rw [h.keys] at hm
    rcases (addP_sub (qs.map ordQ) []).2.2 _ hm with k | k
    · cases k
    · obtain ⟨q, k1, k2⟩ := List.mem_map.1 k
      obtain ⟨v, k3, k4⟩ := (h.j.vari (ordQ q0)).has k1
      rw [k2, (P.vari_ok _).2.1] at k3
      cases k3
      exact List.mem_append_right _ (List.mem_flatMap.2 ⟨_, k4, by simp⟩)
  | none =>
    refine List.mem_append_left _ ?_
    unfold Pb.vari
    rw [hn]
    simp only [if_pos hs]
    simp
theorem FoI.last {l : List Tm} {qs : List Pr} {q0 : Pr} {P : Pb} {V : Nat} {fs : List Fm} (h : FoI l qs q0 P V fs) (hno : ordQ q0 ∉ addP [] (qs.map ordQ)) : V = (addP [] (qs.map ordQ)).length + 1 ∧ ∀ (n : Nat) (a : Pr), (addP [] (qs.map ordQ))[n]? = some a → P.num a = some (n + 1) := by
  have hk := h.keys
  simp only [addP, if_neg hno] at hk
  have hat : ∀ (n : Nat) (a : Pr), (addP [] (qs.map ordQ) ++ [ordQ q0])[n]? = some a → P.num a = some (n + 1) := fun n a hn => by
    rw [← hk, List.getElem?_map] at hn
    cases he : P.vars[n]? with
    | none => rw [he] at hn; cases hn
    | some e =>
      rw [he] at hn
      cases hn
      exact h.j.num.num_at (i := n) (a := e.1) (x := e.2) he
  refine ⟨?_, fun n a hn => hat n a ?_⟩
  · have := hat (addP [] (qs.map ordQ)).length (ordQ q0) (by simp)
    rw [h.num] at this
    cases this
    rfl
  · rw [List.getElem?_append_left (List.getElem?_eq_some_iff.1 hn).1]
    exact hn
theorem nodup_addP : ∀ (r l : List Pr), l.Nodup → (addP l r).Nodup
  | [], _, h => h
  | a :: r, l, h => by
    rw [addP]
    refine nodup_addP r _ ?_
    split
    · exact h
    · rename_i hn
      rw [List.nodup_append]
      exact ⟨h, by simp, fun x hx y hy => by simp only [List.mem_singleton] at hy; subst hy; exact fun e => hn (e ▸ hx)⟩
/-- Once the goal is learned, the clauses cannot be. -/
theorem follow_learned {l : List Tm} (hB : Bnk l) (hl : l.length ≤ 150) {qs : List Pr} (hq : ∀ q ∈ qs, InN l.length q) (hql : qs.length ≤ 600) {q0 : Pr} (hq0 : InN l.length q0) {P : Pb} {V : Nat} {fs : List Fm} (h : FoI l qs q0 P V fs) (hno : ordQ q0 ∉ addP [] (qs.map ordQ)) (hns : (ordQ q0).1 ≠ (ordQ q0).2)
    (hcg : Cc.Cg l qs q0.1 q0.2) {F : Pf} (hF : proofN l (addP [] (qs.map ordQ)) = some F) {Q : Pb} (hL : LrnK l (addP [] (qs.map ordQ)) F P (ordQ q0) Q) (ns : List Nat) (fs' : List Fm) (hcls : ∀ R : Pb, clsN R fs' ns = R.lemmas ++ (fs.flatMap Fm.cs ++ [[-(V : Int)]])) :
    SlvOk Q fs' ns ∧ solveN Q.count (clsN Q fs' ns) = some none := by
  have htin : ∀ a ∈ addP [] (qs.map ordQ), ∃ q ∈ qs, ordQ q = a := fun a ha => by
    rcases (addP_sub (qs.map ordQ) []).2.2 a ha with k | k
    · cases k
    · exact List.mem_map.1 k
  have hin : ∀ a ∈ addP [] (qs.map ordQ), a.1 ≤ a.2 ∧ a.2 < l.length := fun a ha => by
    obtain ⟨q, k1, rfl⟩ := htin a ha
    exact ⟨ordQ_le q, (InN.ord (hq q k1).1 (hq q k1).2).2⟩
  have htlen : (addP [] (qs.map ordQ)).length ≤ 600 := by
    have := addP_len [] (qs.map ordQ)
    simp at this
    omega
  obtain ⟨hV, hnum⟩ := h.last hno
  have hP := h.j.pk
  have hVr := hP.num h.num
  have hcnt : P.count ≤ 601 := by
    rw [h.j.num.cnt]
    have e1 : P.vars.length = (P.vars.map (·.1)).length := by simp
    rw [e1, h.keys]
    have := addP_len (addP [] (qs.map ordQ)) [ordQ q0]
    simp at this
    omega
  have hunit : ∀ a ∈ addP [] (qs.map ordQ), ∃ v : Nat, v ≠ 0 ∧ P.num a = some v ∧ [(v : Int)] ∈ fs.flatMap Fm.cs := fun a ha => by
    obtain ⟨q, k1, rfl⟩ := htin a ha
    obtain ⟨v, k2, k3⟩ := h.j.has k1
    have := hP.num k2
    exact ⟨v, by omega, k2, List.mem_flatMap.2 ⟨_, k3, by simp⟩⟩
  have hrest : ∀ c ∈ fs.flatMap Fm.cs ++ [[-(V : Int)]], ClOk P.count c := fun c hc => by
    rcases List.mem_append.1 hc with k | k
    · obtain ⟨a, v, _, k2, rfl⟩ := h.j.unit (List.mem_append_right _ k)
      exact (unit_ok hP k2 _ (.inl rfl)).1
    · simp only [List.mem_singleton] at k
      subst k
      exact (unit_ok hP h.num _ (.inr rfl)).1
  have hfl : (fs.flatMap Fm.cs ++ [[-(V : Int)]]).length ≤ 601 := by
    rw [List.length_append, List.length_flatMap]
    have : ∀ gs : List Fm, (∀ f ∈ gs, f.cs.length ≤ 1) → (gs.map fun f => f.cs.length).sum ≤ gs.length := by
      intro gs
      induction gs with
      | nil => intro _; simp
      | cons g gs ih =>
        intro hg
        have := ih (fun f hf => hg f (by simp [hf]))
        have := hg g (by simp)
        simp at *
        omega
    have := this fs fun f hf => by obtain ⟨q, _, v, _, rfl⟩ := h.j.mem hf; simp
    rw [h.j.len] at this
    simp
    omega
  have hPl := h.j.few
  -- what is left to show of Q
  have fin : Pk Q → P.count ≤ Q.count → Q.count ≤ 2000 → Q.lemmas.length ≤ 90000000 → Forced ((clsN Q fs' ns).map litsN) (litN (V : Int)) → SlvOk Q fs' ns ∧ solveN Q.count (clsN Q fs' ns) = some none := fun hQ hle h2000 hlem hf => by
    have hall : ∀ c ∈ clsN Q fs' ns, ClOk Q.count c := fun c hc => by
      rw [hcls] at hc
      rcases List.mem_append.1 hc with k | k
      · exact hQ.lem c k
      · exact (hrest c k).mono hle
    refine ⟨⟨h2000, ?_, hall⟩, ?_⟩
    · rw [hcls, List.length_append]
      omega
    · refine solve_no (fun c hc x hx => ((hall c hc).2 x hx).2) hf (forced_not (by omega) ?_)
      rw [hcls]
      simp
  obtain ⟨F', E, p1, p2, p3⟩ := proof_ok hB hin
  rw [hF] at p1
  cases p1
  obtain ⟨f1, f2⟩ := p2.facts hB
  have hg0 : Conn E (ordQ q0).1 (ordQ q0).2 := conn_ord (p3 _ _ ((cg_ord _ _).2 hcg)) (.inl rfl)
  have hgi := InN.ord hq0.1 hq0.2
  obtain ⟨S, hS, hroom, hwhole⟩ := hL
  by_cases hr : P.count + (missN P S []).length ≤ 2000
  · have hQ := hroom hr
    subst hQ
    obtain ⟨S', e1, e2⟩ := stepsN_ok p2.lnk p2.grew (argp := argN l) (told := addP [] (qs.map ordQ)) (fun p q hq => by rw [p2.len]; exact (argN_in hB p).1 q hq) f1 hg0 (by rw [p2.len]; exact hgi.1) (by rw [p2.len]; exact hgi.2)
    rw [hS] at e1
    cases e1
    obtain ⟨n1, n2, n3, n4⟩ := stepsN_had p2.lnk (argp := argN l) (told := addP [] (qs.map ordQ)) (fun p q hq => by rw [p2.len]; exact ((argN_in hB p).1 q hq).2) (fun p => (argN_in hB p).2) (fun p q hq => ((argN_in hB p).1 q hq).1) (fun x y hxy hn => by rw [p2.len]; exact (f2 x y hxy hn).2) hg0 (by rw [p2.len]; exact hgi.1) (by rw [p2.len]; exact hgi.2) (ordQ_le q0) hS
    have hG := Gr.proof P (S := S) (told := addP [] (qs.map ordQ)) (fun q hq => by obtain ⟨v, _, k, _⟩ := hunit q hq; rw [k]; simp) n1 S.length
    rw [List.take_length] at hG
    rw [p2.len] at n4
    have n4 := Nat.le_trans n4 (cube_le hl)
    have hk0 : KnownOk P := fun k hk => by rw [h.j.known] at hk; cases hk
    obtain ⟨g1, g2, g3⟩ := Pb.steps_ok S P hk0
    have hPQ := Pk.steps S P hP
    have hQc : (S.foldl Pb.step P).count ≤ 2000 := Nat.le_trans hG.count hr
    refine fin hPQ hG.cnt hQc (by have := hG.lem; omega) ?_
    obtain ⟨x, x1, x2⟩ := goal_forced (P := S.foldl Pb.step P) (S := S) (told := addP [] (qs.map ordQ)) (g := ordQ q0) (cs := clsN (S.foldl Pb.step P) fs' ns) g3 (fun c hc => by rw [hcls]; exact List.mem_append_left _ hc)
      (fun p hp => by obtain ⟨v, k1, k2, k3⟩ := hunit p hp; exact ⟨v, k1, g1.num _ _ k2, by rw [hcls]; exact List.mem_append_right _ (List.mem_append_left _ k3)⟩) (fun a x hx => by have := hPQ.num hx; omega)
      (fun G h1 h2 h3 => by have := e2 G h1 h2 h3; rw [ordP_self (ordQ_le q0)] at this; exact this) hns
    rw [g1.num _ _ h.num] at x1
    cases x1
    exact x2
  · obtain ⟨nl, hfit, hQ⟩ := hwhole hr
    have hlt : ∀ n ∈ nl, n < (addP [] (qs.map ordQ)).length := fun n hn => by have := hfit.lt n hn; simpa using this
    have hget : ∀ n ∈ nl, ∃ a, (addP [] (qs.map ordQ))[n]? = some a ∧ P.num a = some (n + 1) ∧ a ∈ addP [] (qs.map ordQ) := fun n hn => by
      have e := List.getElem?_eq_getElem (hlt n hn)
      exact ⟨_, e, hnum n _ e, List.getElem_mem _⟩
    have hqs' : ∀ a ∈ nl.map fun n => (addP [] (qs.map ordQ))[n]?.getD (0, 0), P.num a ≠ none := fun a ha => by
      obtain ⟨n, k1, rfl⟩ := List.mem_map.1 ha
      obtain ⟨a, k2, k3, _⟩ := hget n k1
      rw [k2, Option.getD_some, k3]
      simp
    obtain ⟨m1, m2⟩ := names_had _ P hqs'
    have hlits : (Pb.names (nl.map fun n => (addP [] (qs.map ordQ))[n]?.getD (0, 0)) P).1.map (fun n : Nat => -(n : Int)) = nl.map fun n : Nat => -((n : Int) + 1) := by
      rw [m2, List.map_map, List.map_map]
      refine List.map_congr_left fun n hn => ?_
      obtain ⟨a, k2, k3, _⟩ := hget n hn
      simp [k2, k3]
    have hQ2 : Q = { P with lemmas := P.lemmas ++ [(V : Int) :: nl.map fun n : Nat => -((n : Int) + 1)] } := by
      rw [hQ]
      unfold Pb.whole
      rw [Pb.vari_had h.num]
      simp only
      rw [hlits, m1]
    have hnl : nl.length ≤ 600 := by
      have h1 := nodup_le (n := (addP [] (qs.map ordQ)).length) (hfit.up.imp (fun h => Nat.ne_of_lt h)) hlt
      omega
    have hc : ClOk P.count ((V : Int) :: nl.map fun n : Nat => -((n : Int) + 1)) := by
      refine ⟨.inr ⟨by simp; omega, litN (V : Int), (nl.map fun n : Nat => -((n : Int) + 1)).map litN, by simp, ?_, fun x hx => ?_⟩, fun x hx => ?_⟩
      · rw [List.map_map]
        refine List.pairwise_map.2 (hfit.up.imp fun {a b} hab => ?_)
        simp only [Function.comp, litN]
        rw [if_pos (by omega), if_pos (by omega)]
        omega
      · obtain ⟨y, k1, rfl⟩ := List.mem_map.1 hx
        obtain ⟨n, k2, rfl⟩ := List.mem_map.1 k1
        have := hlt n k2
        simp only [litN]
        rw [if_pos (by omega), if_neg (by omega)]
        omega
      · rcases List.mem_cons.1 hx with rfl | hx
        · omega
        · obtain ⟨n, k2, rfl⟩ := List.mem_map.1 hx
          have := hlt n k2
          omega
    have hPQ : Pk Q := by
      rw [hQ2]
      refine ⟨hP.vars, fun c hc' => ?_⟩
      rcases List.mem_append.1 hc' with k | k
      · exact hP.lem c k
      · simp only [List.mem_singleton] at k
        subst k
        exact hc
    refine fin hPQ (by rw [hQ2]; exact Nat.le_refl _) (by rw [hQ2]; simp only; omega) (by rw [hQ2]; simp; omega) ?_
    have hmem : (V : Int) :: nl.map (fun n : Nat => -((n : Int) + 1)) ∈ clsN Q fs' ns := by
      rw [hcls, hQ2]
      exact List.mem_append_left _ (by simp)
    refine Forced.by_ (c := litsN ((V : Int) :: nl.map fun n : Nat => -((n : Int) + 1))) (List.mem_map.2 ⟨_, hmem, rfl⟩) ((mem_litsN _ _).2 ⟨_, by simp, rfl⟩) (fun x hx hne => ?_)
    obtain ⟨y, k1, rfl⟩ := (mem_litsN _ _).1 hx
    rcases List.mem_cons.1 k1 with rfl | k1
    · exact absurd rfl hne
    · obtain ⟨n, k2, rfl⟩ := List.mem_map.1 k1
      rw [opp_litN (by omega), Int.neg_neg]
      obtain ⟨a, _, k3, k4⟩ := hget n k2
      obtain ⟨v, _, k5, k6⟩ := hunit a k4
      rw [k3] at k5
      cases k5
      exact forced_unit (by rw [hcls]; exact List.mem_append_right _ (List.mem_append_left _ (by simpa using k6)))
/-- An equality follows just if the closure says so. -/
theorem follow_model {l : List Tm} (hB : Bnk l) (hl : l.length ≤ 150) {qs : List Pr} (hq : ∀ q ∈ qs, InN l.length q) (hql : qs.length ≤ 600) {q0 : Pr} (hq0 : InN l.length q0) {P : Pb} {V : Nat} {fs : List Fm} (h : FoI l qs q0 P V fs) :
    MdlT l (fs ++ [⟨[ordQ q0], [[-(V : Int)]], fun e => evE l.length e (Fo.neg (foE q0))⟩]) (List.range (fs ++ [(⟨[ordQ q0], [[-(V : Int)]], fun e => evE l.length e (Fo.neg (foE q0))⟩ : Fm)]).length) (fun r _ => (r = none ↔ Cc.Cg l qs q0.1 q0.2)) 2 P := by
  obtain ⟨fs', hfs⟩ : ∃ fs', fs' = fs ++ [(⟨[ordQ q0], [[-(V : Int)]], fun e => evE l.length e (Fo.neg (foE q0))⟩ : Fm)] := ⟨_, rfl⟩
  rw [← hfs]
  have hcls : ∀ R : Pb, clsN R fs' (List.range fs'.length) = R.lemmas ++ (fs.flatMap Fm.cs ++ [[-(V : Int)]]) := fun R => by
    unfold clsN
    rw [fm_range Fm.cs, hfs, List.flatMap_append]
    rfl
  have hj := h.j
  have hP := hj.pk
  have hVr := hP.num h.num
  have hcnt : P.count ≤ 601 := by
    rw [h.j.num.cnt]
    have e1 : P.vars.length = (P.vars.map (·.1)).length := by simp
    rw [e1, h.keys]
    have h1 := addP_len (addP [] (qs.map ordQ)) [ordQ q0]
    have h2 := addP_len [] (qs.map ordQ)
    simp at h1 h2
    omega
  have hall : ∀ c ∈ clsN P fs' (List.range fs'.length), c = [-(V : Int)] ∨ ∃ (a : Pr) (v : Nat), (a.1 = a.2 ∨ ∃ q ∈ qs, ordQ q = a) ∧ P.num a = some v ∧ c = [(v : Int)] := fun c hc => by
    rw [hcls, ← List.append_assoc] at hc
    rcases List.mem_append.1 hc with k | k
    · exact .inr (hj.unit k)
    · exact .inl (by simpa using k)
  have hunit : ∀ c ∈ clsN P fs' (List.range fs'.length), ∃ x, c = [x] ∧ x ≠ 0 ∧ x.natAbs ≤ P.count ∧ ClOk P.count c := fun c hc => by
    rcases hall c hc with rfl | ⟨a, v, _, k2, rfl⟩
    · exact ⟨_, rfl, (unit_ok hP h.num _ (.inr rfl)).2.1, (unit_ok hP h.num _ (.inr rfl)).2.2, (unit_ok hP h.num _ (.inr rfl)).1⟩
    · exact ⟨_, rfl, (unit_ok hP k2 _ (.inl rfl)).2.1, (unit_ok hP k2 _ (.inl rfl)).2.2, (unit_ok hP k2 _ (.inl rfl)).1⟩
  have hlen : (clsN P fs' (List.range fs'.length)).length ≤ 100000000 := by
    rw [hcls, List.length_append, List.length_append, List.length_flatMap]
    have : ∀ gs : List Fm, (∀ f ∈ gs, f.cs.length ≤ 1) → (gs.map fun f => f.cs.length).sum ≤ gs.length := by
      intro gs
      induction gs with
      | nil => intro _; simp
      | cons g gs ih =>
        intro hg
        have := ih (fun f hf => hg f (by simp [hf]))
        have := hg g (by simp)
        simp at *
        omega
    have := this fs fun f hf => by obtain ⟨q, _, v, _, rfl⟩ := hj.mem hf; simp
    rw [hj.len] at this
    have := hj.few
    simp
    omega
  have hslv : SlvOk P fs' (List.range fs'.length) := ⟨by omega, hlen, fun c hc => by obtain ⟨x, _, _, _, k⟩ := hunit c hc; exact k⟩
  refine ⟨hslv, ?_⟩
  by_cases hpos : [(V : Int)] ∈ P.lemmas ++ fs.flatMap Fm.cs
  · have hno : solveN P.count (clsN P fs' (List.range fs'.length)) = some none := by
      refine solve_no (l := litN (V : Int)) (fun c hc x hx => ?_) (forced_unit ?_) (forced_not (by omega) ?_)
      · obtain ⟨y, k1, _, k3, _⟩ := hunit c hc
        rw [k1] at hx
        simp only [List.mem_singleton] at hx
        rw [hx]
        exact k3
      · rw [hcls, ← List.append_assoc]
        exact List.mem_append_left _ hpos
      · rw [hcls]
        simp
    rw [hno]
    refine ⟨fun _ => ?_, fun _ => rfl⟩
    obtain ⟨a, v, k1, k2, k3⟩ := hj.unit hpos
    have hv : V = v := by simp at k3; omega
    have ha := hj.num.inj k2 (by rw [← hv]; exact h.num)
    subst ha
    rcases k1 with k1 | ⟨q, k1, k4⟩
    · have : q0.1 = q0.2 := by simp only [ordQ, ordP] at k1; omega
      rw [this]
      exact Cc.Cg.refl hq0.2
    · refine (cg_ord (qs := qs) _ _).1 ?_
      have hm : ordQ q0 ∈ addP [] (qs.map ordQ) := (addP_sub _ _).2.1 _ (List.mem_map.2 ⟨q, k1, k4⟩)
      unfold ordQ ordP at hm
      by_cases hle : q0.1 ≤ q0.2
      · rw [Nat.min_eq_left hle, Nat.max_eq_right hle] at hm
        exact Cc.Cg.told hm hq0.1 hq0.2
      · rw [Nat.min_eq_right (by omega), Nat.max_eq_left (by omega)] at hm
        exact Cc.Cg.symm (Cc.Cg.told hm hq0.2 hq0.1)
  · have hns : (ordQ q0).1 ≠ (ordQ q0).2 := fun e => hpos (h.self e)
    have hnq : ∀ q ∈ qs, ordQ q ≠ ordQ q0 := fun q hqm e => by
      obtain ⟨v, k1, k2⟩ := hj.has hqm
      rw [e, h.num] at k1
      cases k1
      exact hpos (List.mem_append_right _ (List.mem_flatMap.2 ⟨_, k2, by simp⟩))
    have hno : ordQ q0 ∉ addP [] (qs.map ordQ) := fun k => by
      rcases (addP_sub (qs.map ordQ) []).2.2 _ k with k | k
      · cases k
      · obtain ⟨q, k1, k2⟩ := List.mem_map.1 k
        exact hnq q k1 k2
    obtain ⟨vs, s1, s2, s3⟩ := solve_units (n := P.count) (cs := clsN P fs' (List.range fs'.length)) (fun c hc => by obtain ⟨x, k1, k2, k3, _⟩ := hunit c hc; exact ⟨x, k1, k2, k3⟩) (fun x h1 h2 => by
      rcases hall _ h1 with e1 | ⟨a, v, k1, k2, e1⟩
      · rcases hall _ h2 with e2 | ⟨a, v, k1, k2, e2⟩
        · simp at e1 e2
          omega
        · have hv := hP.num k2
          simp at e1 e2
          have : v = V := by omega
          exact hpos (by rw [← this]; exact (by
            rcases List.mem_append.1 (show [-x] ∈ (P.lemmas ++ fs.flatMap Fm.cs) ++ [[-(V : Int)]] by rw [List.append_assoc, ← hcls]; exact h2) with k | k
            · rw [e2] at k; exact k
            · simp at k; omega))
      · have hv := hP.num k2
        rcases hall _ h2 with e2 | ⟨a', v', k1', k2', e2⟩
        · simp at e1 e2
          have : v = V := by omega
          exact hpos (by rw [← this]; exact (by
            rcases List.mem_append.1 (show [x] ∈ (P.lemmas ++ fs.flatMap Fm.cs) ++ [[-(V : Int)]] by rw [List.append_assoc, ← hcls]; exact h1) with k | k
            · rw [e1] at k; exact k
            · simp at k; omega))
        · have hv' := hP.num k2'
          simp at e1 e2
          omega)
    rw [s1]
    have htrue : ∀ q ∈ qs, valB vs ((numV P.vars (ordQ q)).getD 0 - 1) = true := fun q hqm => by
      obtain ⟨v, k1, k2⟩ := hj.has hqm
      have e : numV P.vars (ordQ q) = some v := k1
      have hv := hP.num k1
      rw [e]
      obtain ⟨v', rfl⟩ : ∃ v', v = v' + 1 := ⟨v - 1, by omega⟩
      have := (s3 v').1 (by rw [hcls]; exact List.mem_append_right _ (List.mem_append_left _ (List.mem_flatMap.2 ⟨_, k2, by simp⟩)))
      simp [valB, this]
    have hfalse : valB vs ((numV P.vars (ordQ q0)).getD 0 - 1) = false := by
      have e : numV P.vars (ordQ q0) = some V := h.num
      rw [e]
      obtain ⟨v', rfl⟩ : ∃ v', V = v' + 1 := ⟨V - 1, by omega⟩
      have := (s3 v').2 (by rw [hcls]; simp)
      simp [valB, this]
    have hams : fs'.flatMap Fm.am = qs.map ordQ ++ [ordQ q0] := by
      rw [hfs, List.flatMap_append, hj.ams]
      rfl
    have htold : tolN fs' P (List.range fs'.length) vs = addP [] (qs.map ordQ) := by
      unfold tolN
      rw [toldN_addP, fm_range Fm.am, hams, List.filter_append, List.filter_eq_self.2 (fun a ha => by obtain ⟨q, k1, rfl⟩ := List.mem_map.1 ha; exact htrue q k1)]
      simp [hfalse]
    have hin : ∀ a ∈ addP [] (qs.map ordQ), a.1 ≤ a.2 ∧ a.2 < l.length := fun a ha => by
      rcases (addP_sub (qs.map ordQ) []).2.2 a ha with k | k
      · cases k
      · obtain ⟨q, k1, rfl⟩ := List.mem_map.1 k
        exact ⟨ordQ_le q, (InN.ord (hq q k1).1 (hq q k1).2).2⟩
    have hcq := fun a b (ha : a < l.length) (hb : b < l.length) => cgN_iff hB hin ha hb
    have hok : ∀ f ∈ fs, f.ev (cgN l (addP [] (qs.map ordQ))) = true := fun f hf => by
      obtain ⟨q, k1, v, k2, rfl⟩ := hj.mem hf
      simp only
      rw [evE_eq _ _ _ (hq q k1)]
      exact (hcq _ _ (hq q k1).1 (hq q k1).2).2 ((cg_ord _ _).2 (Cc.Cg.told k1 (hq q k1).1 (hq q k1).2))
    have hflat : (fs'.flatMap fun f => if f.ev (cgN l (addP [] (qs.map ordQ))) then [] else f.am) = if cgN l (addP [] (qs.map ordQ)) q0.1 q0.2 then [ordQ q0] else [] := by
      rw [hfs, List.flatMap_append]
      have e1 : (fs.flatMap fun f => if f.ev (cgN l (addP [] (qs.map ordQ))) then [] else f.am) = [] := by
        rw [List.flatMap_eq_nil_iff]
        intro f hf
        rw [if_pos (hok f hf)]
      rw [e1]
      simp only [List.flatMap_cons, List.flatMap_nil, List.append_nil, List.nil_append, evE_neg, evE_eq _ _ _ hq0]
      cases cgN l (addP [] (qs.map ordQ)) q0.1 q0.2 <;> rfl
    have hwro : wroN l fs' P (List.range fs'.length) vs = if cgN l (addP [] (qs.map ordQ)) q0.1 q0.2 then [ordQ q0] else [] := by
      unfold wroN
      rw [htold, wrongN_addP]
      have e := fm_range (fs := fs') (fun f : Fm => if f.ev (cgN l (addP [] (qs.map ordQ))) then [] else f.am)
      rw [e, hflat]
      cases hc : cgN l (addP [] (qs.map ordQ)) q0.1 q0.2
      · rfl
      · have hc2 : cgN l (addP [] (qs.map ordQ)) (ordQ q0).1 (ordQ q0).2 = true := by
          have hgi := InN.ord hq0.1 hq0.2
          refine (hcq (ordQ q0).1 (ordQ q0).2 hgi.1 hgi.2).2 ?_
          rw [hcq _ _ hq0.1 hq0.2] at hc
          unfold ordQ ordP
          by_cases hle : q0.1 ≤ q0.2
          · simp only [Nat.min_eq_left hle, Nat.max_eq_right hle]
            exact hc
          · simp only [Nat.min_eq_right (show q0.2 ≤ q0.1 by omega), Nat.max_eq_left (show q0.2 ≤ q0.1 by omega)]
            exact hc.symm
        simp [hc2, hfalse, addP]
    have hcc : cgN l (addP [] (qs.map ordQ)) q0.1 q0.2 = true ↔ Cc.Cg l qs q0.1 q0.2 := (hcq _ _ hq0.1 hq0.2).trans (cg_ord _ _)
    refine ⟨fun hw => ⟨fun e => by simp at e, fun hc => ?_⟩, fun hw => ⟨⟨by rw [hwro]; split <;> simp, Nat.le_refl _⟩, fun F Q hF hL => ?_⟩⟩
    · rw [hwro, if_pos (hcc.2 hc)] at hw
      cases hw
    · have hc : cgN l (addP [] (qs.map ordQ)) q0.1 q0.2 = true := by
        cases hc : cgN l (addP [] (qs.map ordQ)) q0.1 q0.2
        · rw [hwro, hc] at hw
          exact absurd rfl hw
        · rfl
      rw [htold] at hF
      rw [hwro, if_pos hc, htold] at hL
      obtain ⟨P1, hK, rfl⟩ := hL
      obtain ⟨r1, r2⟩ := follow_learned hB hl hq hql hq0 h hno hns (hcc.1 hc) hF hK (List.range fs'.length) fs' hcls
      refine ⟨r1, ?_⟩
      rw [r2]
      exact ⟨fun _ => hcc.1 hc, fun _ => rfl⟩
end Go.Proofs.YtlehlgipbhfioaaGreat

namespace Go.Proofs.YtlehlgipbhfioaaGreat
open Go.RowKit Go.Maps

/-- What is learned, where there is room. -/
def lrnN (l : List Tm) (told : List Pr) (F : Pf) : List Pr → Pb → Option Pb
  | [], P => some P
  | a :: r, P => match stepsN F.L told (argN l) a with
    | none => none
    | some S => if P.count + (missN P S []).length ≤ 2000 then lrnN l told F r (S.foldl Pb.step P) else none
theorem lrnN_ok {l : List Tm} {told : List Pr} {F : Pf} : ∀ (xs : List Pr) (P Q Q' : Pb), lrnN l told F xs P = some Q' → LrnR l told F xs P Q → Q = Q'
  | [], P, Q, Q', h, k => by
    simp only [lrnN] at h
    cases h
    exact k
  | a :: r, P, Q, Q', h, ⟨P1, ⟨S, k1, k2, _⟩, k3⟩ => by
    simp only [lrnN, k1] at h
    by_cases hr : P.count + (missN P S []).length ≤ 2000
    · rw [if_pos hr] at h
      have e := k2 hr
      subst e
      exact lrnN_ok r _ Q Q' h k3
    · rw [if_neg hr] at h
      cases h
def slvB (P : Pb) (fs : List Fm) (ns : List Nat) : Bool := decide (P.count ≤ 2000) && (decide ((clsN P fs ns).length ≤ 100000000) && (clsN P fs ns).all fun c => decide (c.length ≤ 12) && c.all fun x => decide (x ≠ 0) && decide (x.natAbs ≤ P.count))
theorem slvB_ok {P : Pb} {fs : List Fm} {ns : List Nat} (h : slvB P fs ns = true) : SlvOk P fs ns := by
  simp only [slvB, Bool.and_eq_true, decide_eq_true_eq, List.all_eq_true] at h
  exact ⟨h.1, h.2.1, fun c hc => ⟨.inl (h.2.2 c hc).1, fun x hx => (h.2.2 c hc).2 x hx⟩⟩
/-- model, reckoned. -/
def mdlN (l : List Tm) (fs : List Fm) (ns : List Nat) : Nat → Pb → Option (Option (List Pr) × Pb)
  | 0, _ => none
  | f + 1, P => if slvB P fs ns then (match solveN P.count (clsN P fs ns) with
    | none => none
    | some none => some (none, P)
    | some (some vs) => if wroN l fs P ns vs = [] then some (some (tolN fs P ns vs), P) else if 1 < (wroN l fs P ns vs).length then none else match proofN l (tolN fs P ns vs) with
      | none => none
      | some F => match lrnN l (tolN fs P ns vs) F (wroN l fs P ns vs) P with
        | none => none
        | some Q => mdlN l fs ns f Q) else none
theorem mdlN_ok {l : List Tm} {fs : List Fm} {ns : List Nat} : ∀ (f : Nat) (P : Pb) (r : Option (List Pr) × Pb), mdlN l fs ns f P = some r → MdlT l fs ns (fun a Q => (a, Q) = r) f P
  | 0, P, r, h => by simp [mdlN] at h
  | f + 1, P, r, h => by
    rw [mdlN] at h
    split at h
    · rename_i hb
      refine ⟨slvB_ok hb, ?_⟩
      cases hs : solveN P.count (clsN P fs ns) with
      | none => rw [hs] at h; cases h
      | some o =>
        rw [hs] at h
        cases o with
        | none =>
          simp only at h ⊢
          cases h
          rfl
        | some vs =>
          simp only at h ⊢
          refine ⟨fun hw => ?_, fun hw => ?_⟩
          · rw [if_pos hw] at h
            cases h
            rfl
          · rw [if_neg hw] at h
            by_cases hl1 : 1 < (wroN l fs P ns vs).length
            · rw [if_pos hl1] at h
              cases h
            rw [if_neg hl1] at h
            refine ⟨⟨by omega, ?_⟩, fun F Q hF hL => ?_⟩
            · cases f with
              | zero =>
                exfalso
                split at h
                · cases h
                · split at h
                  · cases h
                  · simp [mdlN] at h
              | succ f => omega
            rw [hF] at h
            simp only at h
            cases hq : lrnN l (tolN fs P ns vs) F (wroN l fs P ns vs) P with
            | none => rw [hq] at h; cases h
            | some Q' =>
              rw [hq] at h
              simp only at h
              have := lrnN_ok _ _ _ _ hq hL
              subst this
              exact mdlN_ok f Q r h
    · cases h
/-- The first formula that is false. -/
def fstF (l : List Tm) (told : List Pr) (fs : List Fm) : Nat := fs.findIdx fun f => !f.ev (cgN l told)
def insN (x : Nat) : List Nat → List Nat
  | [] => [x]
  | y :: ys => if x ≤ y then x :: y :: ys else y :: insN x ys
def srtN (l : List Nat) : List Nat := l.foldr insN []
/-- enough, reckoned. -/
def enoN (l : List Tm) (fs : List Fm) (g : Nat) : Nat → Pb → List Nat → Option (List Nat × Pb)
  | 0, _, _ => none
  | f + 1, P, ns => match mdlN l fs ns g P with
    | none => none
    | some (none, Q) => some (srtN ns, Q)
    | some (some told, Q) => if fstF l told fs < fs.length then enoN l fs g f Q (ns ++ [fstF l told fs]) else none
/-- core's loop, reckoned. -/
def corN (l : List Tm) (fs : List Fm) (g : Nat) : List Nat → Pb → List Nat → Option (List Nat × Pb)
  | [], P, ns => some (ns, P)
  | x :: xs, P, ns => match mdlN l fs (ns.filter fun m => !decide (m = x)) g P with
    | none => none
    | some (none, Q) => corN l fs g xs Q (ns.filter fun m => !decide (m = x))
    | some (some _, Q) => corN l fs g xs Q ns
end Go.Proofs.YtlehlgipbhfioaaGreat

namespace Go.Proofs.YtlehlgipbhfioaaGreat
open Go.RowKit Go.Maps

theorem evE_or (n : Nat) (e : Nat → Nat → Bool) (f g : Fo) : evE n e (Fo.two 3 f g) = (evE n e f || evE n e g) := by
  rw [Fo.two, evE, evM]
  simp
def l7 : List Tm := [⟨⟨#[97]⟩, []⟩, ⟨⟨#[102]⟩, [0]⟩, ⟨⟨#[98]⟩, []⟩, ⟨⟨#[99]⟩, []⟩, ⟨⟨#[100]⟩, []⟩, ⟨⟨#[102]⟩, [3]⟩]
def f7a : Fo := foE (1, 2)
def f7b : Fo := Fo.two 3 (foE (0, 3)) (foE (0, 4))
def f7c : Fo := Fo.neg (foE (5, 2))
def f7d : Fo := Fo.neg (foE (0, 4))
def fm7 : List Fm := [⟨[(1, 2)], [[1]], fun e => e 1 2⟩, ⟨[(0, 3), (0, 4)], [[-4, -2], [-4, -3], [4, 2, 3], [-4]], fun e => e 0 3 || e 0 4⟩, ⟨[(2, 5)], [[-5]], fun e => !e 5 2⟩, ⟨[(0, 4)], [[-3]], fun e => !e 0 4⟩]
def p7 : Pb := ⟨5, [((1, 2), 1), ((0, 3), 2), ((0, 4), 3), ((2, 5), 5)], [], []⟩
theorem inN7 {a b : Nat} (h : a < 6 := by decide) (k : b < 6 := by decide) : InN 6 (a, b) := ⟨h, k⟩
theorem add7a : pb0.addF f7a = ⟨1, [((1, 2), 1)], [], []⟩ ∧ fmOf 6 pb0 f7a = ⟨[(1, 2)], [[1]], fun e => e 1 2⟩ := by
  refine ⟨by rw [f7a, addF_eq]; rfl, ?_⟩
  rw [f7a, fmOf_eq]
  congr 1
  funext e
  exact evE_eq 6 e _ inN7
theorem ats7b : ats (eqF f7b) = [(0, 3), (0, 4)] := by
  simp [f7b, Fo.two, foE, Fo.eq, eqF, ats]
theorem tse7b : tseN f7b = (-3, (3, [[-3, -1], [-3, -2], [3, 1, 2]])) := by
  unfold tseN
  rw [ats7b]
  have n1 : numP [(0, 3), (0, 4)] (0, 3) = 1 := by decide
  have n2 : numP [(0, 3), (0, 4)] (0, 4) = 2 := by decide
  simp [f7b, Fo.two, foE, Fo.eq, Cn.tse, Cn.both, n1, n2]
theorem atsN7b : atsN f7b = [(0, 3), (0, 4)] := by
  unfold atsN
  rw [ats7b]
  rfl
theorem add7b : (⟨1, [((1, 2), 1)], [], []⟩ : Pb).addF f7b = ⟨4, [((1, 2), 1), ((0, 3), 2), ((0, 4), 3)], [], []⟩ ∧ fmOf 6 ⟨1, [((1, 2), 1)], [], []⟩ f7b = ⟨[(0, 3), (0, 4)], [[-4, -2], [-4, -3], [4, 2, 3], [-4]], fun e => e 0 3 || e 0 4⟩ := by
  refine ⟨?_, ?_⟩
  · unfold Pb.addF
    rw [atsN7b, tse7b]
    rfl
  · unfold fmOf nmsN
    rw [atsN7b, tse7b]
    congr 1
    funext e
    rw [f7b, evE_or, evE_eq 6 e _ inN7, evE_eq 6 e _ inN7]
theorem add7c : (⟨4, [((1, 2), 1), ((0, 3), 2), ((0, 4), 3)], [], []⟩ : Pb).addF f7c = p7 ∧ fmOf 6 ⟨4, [((1, 2), 1), ((0, 3), 2), ((0, 4), 3)], [], []⟩ f7c = ⟨[(2, 5)], [[-5]], fun e => !e 5 2⟩ := by
  refine ⟨by rw [f7c, addF_neg]; rfl, ?_⟩
  rw [f7c, fmOf_neg]
  congr 1
  funext e
  rw [evE_neg, evE_eq 6 e _ inN7]
theorem add7d : p7.addF f7d = p7 ∧ fmOf 6 p7 f7d = ⟨[(0, 4)], [[-3]], fun e => !e 0 4⟩ := by
  refine ⟨by rw [f7d, addF_neg]; rfl, ?_⟩
  rw [f7d, fmOf_neg]
  congr 1
  funext e
  rw [evE_neg, evE_eq 6 e _ inN7]
theorem adds7 : Pb.adds 6 [f7a, f7b, f7c] pb0 [] = (p7, fm7.take 3) := by
  simp only [Pb.adds, add7a.1, add7a.2, add7b.1, add7b.2, add7c.1, add7c.2]
  rfl
theorem adds7d : Pb.adds 6 [f7a, f7b, f7c, f7d] pb0 [] = (p7, fm7) := by
  simp only [Pb.adds, add7a.1, add7a.2, add7b.1, add7b.2, add7c.1, add7c.2, add7d.1, add7d.2]
  rfl
def q7 : Pb := ⟨6, [((1, 2), 1), ((0, 3), 2), ((0, 4), 3), ((2, 5), 5), ((1, 5), 6)], [[6, -2], [5, -1, -6]], [((1, 5), [(0, 3), (0, 0), (0, 0), (0, 0)]), ((2, 5), [(1, 2), (1, 5), (0, 0), (0, 0)])]⟩
theorem one7 : mdlN l7 (fm7.take 3) [0, 1, 2] 2 p7 = some (some [(1, 2), (0, 4)], q7) := by kernel_rfl
theorem two7 : mdlN l7 fm7 [0, 1, 2, 3] 2 p7 = some (none, q7) := by kernel_rfl
theorem eno7 : enoN l7 fm7 2 6 q7 [] = some ([0, 1, 2, 3], q7) := by kernel_rfl
theorem cor7 : corN l7 fm7 2 [0, 1, 2, 3] q7 [0, 1, 2, 3] = some ([0, 1, 2, 3], q7) := by kernel_rfl
end Go.Proofs.YtlehlgipbhfioaaGreat
