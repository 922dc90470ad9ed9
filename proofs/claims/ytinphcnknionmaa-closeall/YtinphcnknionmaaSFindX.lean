/- The document's own Sets (equateref02): Join. -/
import Derived.Test.YtinphcnknionmaaG13
namespace Go.Proofs.Ytinphcnknionmaa
open Go.RowKit

/-- Behind a join each number's least one is as the document has it. -/
theorem lo_joined {n : Nat} {s : GT} {k : Nat} (hok : Uf.Ok n s.1 k) {i j : Nat} (hi : i < n) (hj : j < n) (hne : s.1.rt i ≠ s.1.rt j) (x : Nat) (hx : x < n) :
    (stp n s ((i : Int), (j : Int))).1.lo x = if s.1.lo x = s.1.lo i ∨ s.1.lo x = s.1.lo j then (if s.1.lo j < s.1.lo i then s.1.lo j else s.1.lo i) else s.1.lo x := by
  have hjn : joins n s.1 (i : Int) (j : Int) = true := by simp [joins, inB_nat hi, inB_nat hj, hne]
  have e1 := lo_root hok hx hi
  have e2 := lo_root hok hx hj
  have li : (s.1.N (s.1.rt i)).lst = s.1.lo i := rfl
  have lj : (s.1.N (s.1.rt j)).lst = s.1.lo j := rfl
  simp only [stp, joinG, if_pos hjn, Int.toNat_natCast, Uf.pick]
  split
  · rw [Uf.hang_lo s.1 _ _ x (Ne.symm hne), li, lj]
    by_cases a : s.1.rt x = s.1.rt i
    · rw [if_pos (Or.inr a), if_pos (Or.inl (e1.2 a))]; split <;> omega
    · by_cases b : s.1.rt x = s.1.rt j
      · rw [if_pos (Or.inl b), if_pos (Or.inr (e2.2 b))]; split <;> omega
      · rw [if_neg (by simp [a, b]), if_neg (by rw [e1, e2]; simp [a, b])]
  · rw [Uf.hang_lo s.1 _ _ x hne, li, lj]
    by_cases a : s.1.rt x = s.1.rt i
    · rw [if_pos (Or.inl a), if_pos (Or.inl (e1.2 a))]; split <;> omega
    · by_cases b : s.1.rt x = s.1.rt j
      · rw [if_pos (Or.inr b), if_pos (Or.inr (e2.2 b))]; split <;> omega
      · rw [if_neg (by simp [a, b]), if_neg (by rw [e1, e2]; simp [a, b])]

theorem owns_base {w : World} {base base' e size n : Nat} {v : Value} {xs : List Value} (h : w.ownsRow base e size v n xs) (hb : base' ≤ base) : w.ownsRow base' e size v n xs :=
  ⟨h.1, h.2.imp id fun ⟨g, cap, cur, h1, h2, h3⟩ => ⟨g, cap, cur, h1, Nat.le_trans hb h2, h3⟩⟩

theorem infoInts : (Try.prog.info? 40).map (fun i => (i.zero, i.size, i.bytes)) = some (some (.slice none 0 0), 1, 24) := by kernel_rfl

/-- A row is kept at the log's end. -/
theorem Ref.grown {w W W5 : World} {base rp n : Nat} {lv v v' : Value} {log : List (List Nat)} {l : List Nat} (h : Ref w base rp n lv log) (hB : Below w.heap.size w W) (hbase : base ≤ w.heap.size) (hl : W.ownsRow w.heap.size 3 1 v l.length (intsC l)) (O : Obj)
    {vals : List Value} (hv1 : vals.length = log.length) (hv2 : w.ownsRow base 40 1 lv log.length vals) (hv3 : ∀ (k : Nat) (l : List Nat), log[k]? = some l → ∃ v, vals[k]? = some v ∧ w.ownsRow base 3 1 v l.length (intsC l))
    (ho : W5.ownsRow base 40 1 v' (log.length + 1) (vals ++ [v])) (hg : (W.alloc O).grownBy W5 lv.ownBlock) :
    Ref (W5.setCell ⟨rp, 1, none⟩ v') base rp n v' (log ++ [l]) ∧ Kept (SFoot rp lv) w (W5.setCell ⟨rp, 1, none⟩ v') ∧ W5.cell? ⟨rp, 1, none⟩ = some lv ∧ W5.frozen? ⟨rp, 1, none⟩ = false := by
  have KB : Kept (fun k => w.heap.size ≤ k) w W := ⟨hB.os, hB.tape, hB.output, hB.size, fun k hk hs => hB.block k hk⟩
  have nrp : lv.ownBlock ≠ some rp := rowIs_type h.sets (by decide) hv2
  have hrW : W.rowIs rp 133 2 (rsetsC n lv) := h.sets.of_block (hB.block rp h.sets.lt)
  have hr5 : W5.rowIs rp 133 2 (rsetsC n lv) := (hrW.alloc O).of_block (hg.block rp (hrW.alloc O).lt (fun e => nrp e.symm))
  have np' : v'.ownBlock ≠ some rp := rowIs_type hr5 (by decide) ho
  have K5 : Kept (SFoot rp lv) w W5 := by
    have k1 : Kept (SFoot rp lv) w (W.alloc O) := (⟨hB.os, hB.tape, hB.output, hB.size, fun k hk _ => hB.block k hk⟩ : Kept (SFoot rp lv) w W).alloc O
    exact k1.grown hg (fun k hk => Or.inr hk)
  have lvlt : ∀ k, lv.ownBlock = some k → k < w.heap.size := fun k hk => (hv2.lt k hk).2
  have inner : ∀ {u : Value} {L : List Nat} {b0 : Nat} {X : World}, X = W → X.ownsRow b0 3 1 u L.length (intsC L) → (W5.setCell ⟨rp, 1, none⟩ v').ownsRow b0 3 1 u L.length (intsC L) := by
    intro u L b0 X e hu
    subst e
    have h5 : W5.ownsRow b0 3 1 u L.length (intsC L) := by
      refine (hu.alloc O).kept hg ?_
      cases hub : u.ownBlock with
      | none => exact Or.inl rfl
      | some k =>
        refine Or.inr (fun e => ?_)
        obtain ⟨cur, hc⟩ := row_block hu hub
        have hw2 : X.ownsRow base 40 1 lv log.length vals := owns_kept hv2 KB (fun j hj => by have := lvlt j hj; omega)
        obtain ⟨cur2, hc2⟩ := row_block hw2 e.symm
        rw [hc] at hc2
        cases hc2
    refine ownsRow_setCell_other h5 (fun e => ?_) _
    obtain ⟨cur, hc⟩ := row_block h5 e
    obtain ⟨c, hc', _⟩ := hr5
    rw [hc'] at hc
    cases hc
  refine ⟨⟨(hr5.set 1 v').congr ?_, h.low, ⟨vals ++ [v], by simp [hv1], ?_, ?_⟩, h.small⟩, Kept.setCell (S := SFoot rp lv) (p := ⟨rp, 1, none⟩) K5 (Or.inl rfl) _, hr5.cell (i := 1) (by omega), hr5.frozen 1⟩
  · intro i hi
    unfold rsetsC
    by_cases e : i = 0
    · simp [e]
    · rw [if_pos (by omega), if_neg e]
  · rw [List.length_append]
    exact ownsRow_setCell_other ho np' _
  · intro k L hk
    by_cases e : k < log.length
    · rw [List.getElem?_append_left e] at hk
      obtain ⟨u, hu, hou⟩ := hv3 k L hk
      refine ⟨u, by rw [List.getElem?_append_left (by omega)]; exact hu, inner rfl (owns_kept hou KB (fun j hj => by have := (hou.lt j hj).2; omega))⟩
    · by_cases e2 : k = log.length
      · subst e2
        rw [List.getElem?_append_right (Nat.le_refl _)] at hk
        simp at hk
        subst hk
        refine ⟨v, by rw [List.getElem?_append_right (by omega)]; simp [hv1], owns_base (inner rfl hl) hbase⟩
      · rw [List.getElem?_eq_none (by simp; omega)] at hk
        cases hk

set_option maxRecDepth 100000 in
set_option maxHeartbeats 1000000 in
theorem rJoin_no (w : World) (base rp n : Nat) (lv : Value) (s : GT) (h : RefS w base rp n lv s) (ht : s.2.length ≤ 150) (k : Nat) (hok : Uf.Ok n s.1 k) (a b : Int) (hj : joins n s.1 a b = false) :
    Calls Try.prog 30 #[.pointer (some ⟨rp, 0, none⟩), .int .i64 a, .int .i64 b] w fun e w' => e = .returned (.bool false) ∧ ∃ m, w' = w.drewN m := by
  have HA := rhas_in _ _ _ _ _ _ h a
  have HB := rhas_in _ _ _ _ _ _ h b
  have HS := rSame_in w base rp n lv s h ht k hok a b
  cases ha : inB n a
  · rw [ha] at HA
    clear h HS HB
    go_enter Try.func30, Try.ntmps30
    go_wp2_with fail
    refine HA.mono ?_
    rintro e w' ⟨rfl, rfl⟩
    go_wp2
    go_ret
    exact ⟨rfl, 0, rfl⟩
  · cases hb : inB n b
    · rw [ha] at HA
      rw [hb] at HB
      clear h HS
      go_enter Try.func30, Try.ntmps30
      go_wp2_with fail
      refine HA.mono ?_
      rintro e w' ⟨rfl, rfl⟩
      go_wp2_with fail
      refine HB.mono ?_
      rintro e w' ⟨rfl, rfl⟩
      go_wp2
      go_ret
      exact ⟨rfl, 0, rfl⟩
    · rw [joins_same ha hb] at hj
      have hs : sameB n s.1 a b = true := by simpa using hj
      rw [ha] at HA
      rw [hb] at HB
      rw [hs] at HS
      clear h hj hs
      go_enter Try.func30, Try.ntmps30
      go_wp2_with fail
      refine HA.mono ?_
      rintro e w' ⟨rfl, rfl⟩
      go_wp2_with fail
      refine HB.mono ?_
      rintro e w' ⟨rfl, rfl⟩
      go_wp2_with fail
      refine HS.mono ?_
      rintro e w' ⟨rfl, m, rfl⟩
      go_wp2
      go_ret
      exact ⟨rfl, _, rfl⟩

/-- One row of the document's Join: what a number's least one becomes. -/
def turnN (x y z : Nat) : Nat := if z = x ∨ z = y then (if y < x then y else x) else z

set_option maxRecDepth 100000 in
set_option maxHeartbeats 2000000 in
theorem rJoin_yes (w : World) (base rp n : Nat) (lv : Value) (s : GT) (h : RefS w base rp n lv s) (hbase : base ≤ w.heap.size) (ht : s.2.length ≤ 150) (k : Nat) (hok : Uf.Ok n s.1 k) (i j : Nat) (hi : i < n) (hj : j < n) (hne : s.1.rt i ≠ s.1.rt j) :
    Calls Try.prog 30 #[.pointer (some ⟨rp, 0, none⟩), .int .i64 i, .int .i64 j] w fun e w' => e = .returned (.bool true) ∧ ∃ lv', RefS w' base rp n lv' (stp n s ((i : Int), (j : Int))) ∧ Kept (SFoot rp lv) w w' := by
  have ha := inB_nat hi
  have hb := inB_nat hj
  have hsame : sameB n s.1 (i : Int) (j : Int) = false := by
    cases e : sameB n s.1 (i : Int) (j : Int)
    · rfl
    · have := (same_iff.1 e).2.2; rw [Int.toNat_natCast, Int.toNat_natCast] at this; exact absurd this hne
  have hjoin : joins n s.1 (i : Int) (j : Int) = true := by rw [joins_same ha hb, hsame]; rfl
  have HA := rhas_in _ _ _ _ _ _ h (i : Int)
  have HB := rhas_in _ _ _ _ _ _ h (j : Int)
  have HS := rSame_in w base rp n lv s h ht k hok (i : Int) (j : Int)
  have LI := fun m => rLeast_in (w.drewN m) base rp n lv s h.drewN ht (i : Int)
  have LJ := fun m => rLeast_in (w.drewN m) base rp n lv s h.drewN ht (j : Int)
  have NOW := fun m => RefS.now (w.drewN m) base rp n lv s h.drewN ht
  rw [ha] at HA
  rw [hb] at HB
  rw [hsame] at HS
  rw [leastV_in ha, Int.toNat_natCast] at LI
  rw [leastV_in hb, Int.toNat_natCast] at LJ
  have hlog : Uf.logOf n (stp n s ((i : Int), (j : Int))).1 (stp n s ((i : Int), (j : Int))).2 = Uf.logOf n s.1 s.2 ++ [Uf.los n (stp n s ((i : Int), (j : Int))).1] := by
    simp only [stp, joinT, if_pos hjoin, Uf.logOf]
  have hlos : Uf.los n (stp n s ((i : Int), (j : Int))).1 = (List.range n).map fun x => turnN (s.1.lo i) (s.1.lo j) (s.1.lo x) := by
    unfold Uf.los
    refine List.map_congr_left fun x hx => ?_
    exact lo_joined hok hi hj hne x (List.mem_range.1 hx)
  generalize stp n s ((i : Int), (j : Int)) = s' at *
  obtain ⟨i0, hi0, hz0, hz1, hz2⟩ := info_parts infoInt
  obtain ⟨j0, kj0, kz0, kz1, kz2⟩ := info_parts infoInts
  have hn60 := h.small
  obtain ⟨vals, v1, v2, v3⟩ := h.rows
  have hLL := Uf.logOf_length n s.2 s.1
  have hlo : ∀ x, x < n → s.1.lo x < n := fun x hx => by have := hok.lole x hx; omega
  have hxi := hlo i hi
  have hxj := hlo j hj
  generalize hx : s.1.lo i = x at *
  generalize hy : s.1.lo j = y at *
  clear hx hy hsame hjoin ha hb hne
  go_enter Try.func30, Try.ntmps30
  go_wp2_with fail
  refine HA.mono ?_
  rintro e w' ⟨rfl, rfl⟩
  go_wp2_with fail
  refine HB.mono ?_
  rintro e w' ⟨rfl, rfl⟩
  go_wp2_with fail
  refine HS.mono ?_
  rintro e w' ⟨rfl, m1, rfl⟩
  clear HA HB HS
  go_wp2_with fail
  refine (LI _).mono ?_
  rintro e w' ⟨rfl, m2, rfl⟩
  go_wp2_with fail
  refine (LJ _).mono ?_
  rintro e w' ⟨rfl, m3, rfl⟩
  go_wp2_with fail
  refine (NOW _).mono ?_
  rintro e w' ⟨vn, m4, rfl, rfl, hnow⟩
  clear LI LJ NOW
  obtain ⟨kn, hkn⟩ : ∃ kn, n = kn + 1 := ⟨n - 1, by omega⟩
  have hform := hnow
  rw [hkn] at hform
  obtain ⟨bn, capn, hvn⟩ := ownsRow_succ hform
  rw [← hkn] at hvn
  subst hvn
  clear hform hkn
  have CN : ∀ W, Below w.heap.size w W → ∀ q, q < n → W.cell? ⟨bn, q, none⟩ = some (.int .i64 ((s.1.lo q : Nat) : Int)) := fun W hB q hq => by
    rw [hB.cell (p := ⟨bn, q, none⟩) ((hnow.lt bn rfl).2)]
    have := hnow.cellAt q (by omega)
    rw [intsC_get _ q (by rw [los_length]; exact hq), los_get n s.1 q hq] at this
    exact this
  have HCN : Hid (∀ W, Below w.heap.size w W → ∀ q, q < n → W.cell? ⟨bn, q, none⟩ = some (.int .i64 ((s.1.lo q : Nat) : Int))) := CN
  have HL : Hid (∀ q, q < n → s.1.lo q < n) := hlo
  clear CN hnow hlo
  go_wp2_with fail
  go_loopw [10, 11] (fun v t W => ∃ q : Nat, q ≤ n ∧ t = .int .i64 q ∧ W.ownsRow w.heap.size 3 1 v q (intsC ((List.range q).map fun z => turnN x y (s.1.lo z))) ∧ Hid (Below w.heap.size w W)) (fun _ t _ => n - (intOf t).toNat)
  case atStart => exact ⟨0, Nat.zero_le _, rfl, World.ownsRow_nil _ _ _ _, below_drewN (Below.refl _ _) _⟩
  case round =>
    obtain ⟨q, hq, rfl, hown, hB⟩ := hrel
    by_cases hlt : q < n
    · have cq := HCN.out _ hB.out q hlt
      have hqn := HL.out q hlt
      have hsn : intsC ((List.range (q + 1)).map fun z => turnN x y (s.1.lo z)) = intsC ((List.range q).map fun z => turnN x y (s.1.lo z)) ++ [.int .i64 ((turnN x y (s.1.lo q) : Nat) : Int)] := by
        rw [List.range_succ, List.map_append]; exact intsC_snoc _ _
      have HSN : Hid (_ = _) := hsn
      have hl := hown.lt
      have HLT : Hid (∀ k, Value.ownBlock _ = some k → w.heap.size ≤ k) := fun k hk => (hl k hk).1
      clear hl hsn
      by_cases c1 : s.1.lo q = x
      · rw [c1] at cq HSN
        by_cases hyx : y < x
        · have ht1 : turnN x y x = y := by unfold turnN; rw [if_pos (Or.inl rfl), if_pos hyx]
          have hmn : min (x : Int) (y : Int) = (y : Int) := by omega
          rw [ht1] at HSN
          clear ht1 c1 hqn
          clear HCN
          go_wp2_with (at_builtin; refine wpList_append_own _ rfl _ _ 40 rfl w.heap.size 3 i0 _ 1 8 Try.underlying40 hi0 hz0 hz1 hz2 rfl (by decide) _ _ _ rfl (hown.alloc _) ⟨wr.heap.size, 0, none⟩ 1 1 [.int .i64 (y : Int)] rfl rfl (cell_one_new _ _ _) (by simp [Value.oneCell']) (by unfold maxLen; omega) (by omega) (by have := hB.out.size; simp; omega) ?_; intro v' w5 hown5 hgrow5 _; have hB5 : Hid (Below w.heap.size w w5) := (hB.out.alloc hB.out.size _).grown hgrow5 (by have := hB.out.size; simp; omega) (fun k hk => HLT.out k hk))
          go_roundw
          case rel => exact ⟨q + 1, by omega, by go_num, by rw [HSN.out]; exact hown5, hB5⟩
          case measure => simp [intOf]; omega
        · have ht1 : turnN x y x = x := by unfold turnN; rw [if_pos (Or.inl rfl), if_neg hyx]
          have hmn : min (x : Int) (y : Int) = (x : Int) := by omega
          have hxy : x ≤ y := by omega
          rw [ht1] at HSN
          clear ht1 c1 hqn
          clear HCN
          go_wp2_with (at_builtin; refine wpList_append_own _ rfl _ _ 40 rfl w.heap.size 3 i0 _ 1 8 Try.underlying40 hi0 hz0 hz1 hz2 rfl (by decide) _ _ _ rfl (hown.alloc _) ⟨wr.heap.size, 0, none⟩ 1 1 [.int .i64 (x : Int)] rfl rfl (cell_one_new _ _ _) (by simp [Value.oneCell']) (by unfold maxLen; omega) (by omega) (by have := hB.out.size; simp; omega) ?_; intro v' w5 hown5 hgrow5 _; have hB5 : Hid (Below w.heap.size w w5) := (hB.out.alloc hB.out.size _).grown hgrow5 (by have := hB.out.size; simp; omega) (fun k hk => HLT.out k hk))
          go_roundw
          case rel => exact ⟨q + 1, by omega, by go_num, by rw [HSN.out]; exact hown5, hB5⟩
          case measure => simp [intOf]; omega
      · by_cases c2 : s.1.lo q = y
        · rw [c2] at cq HSN c1
          have e1 : ((y : Int) == (x : Int)) = false := beq_eq_false_iff_ne.2 (by omega)
          by_cases hyx : y < x
          · have ht1 : turnN x y y = y := by unfold turnN; rw [if_pos (Or.inr rfl), if_pos hyx]
            have hmn : min (x : Int) (y : Int) = (y : Int) := by omega
            rw [ht1] at HSN
            clear ht1 c1 c2 hqn
            clear HCN
            go_wp2_with (at_builtin; refine wpList_append_own _ rfl _ _ 40 rfl w.heap.size 3 i0 _ 1 8 Try.underlying40 hi0 hz0 hz1 hz2 rfl (by decide) _ _ _ rfl (hown.alloc _) ⟨wr.heap.size, 0, none⟩ 1 1 [.int .i64 (y : Int)] rfl rfl (cell_one_new _ _ _) (by simp [Value.oneCell']) (by unfold maxLen; omega) (by omega) (by have := hB.out.size; simp; omega) ?_; intro v' w5 hown5 hgrow5 _; have hB5 : Hid (Below w.heap.size w w5) := (hB.out.alloc hB.out.size _).grown hgrow5 (by have := hB.out.size; simp; omega) (fun k hk => HLT.out k hk))
            go_roundw
            case rel => exact ⟨q + 1, by omega, by go_num, by rw [HSN.out]; exact hown5, hB5⟩
            case measure => simp [intOf]; omega
          · have ht1 : turnN x y y = x := by unfold turnN; rw [if_pos (Or.inr rfl), if_neg hyx]
            have hmn : min (x : Int) (y : Int) = (x : Int) := by omega
            have hxy : x ≤ y := by omega
            rw [ht1] at HSN
            clear ht1 c1 c2 hqn
            clear HCN
            go_wp2_with (at_builtin; refine wpList_append_own _ rfl _ _ 40 rfl w.heap.size 3 i0 _ 1 8 Try.underlying40 hi0 hz0 hz1 hz2 rfl (by decide) _ _ _ rfl (hown.alloc _) ⟨wr.heap.size, 0, none⟩ 1 1 [.int .i64 (x : Int)] rfl rfl (cell_one_new _ _ _) (by simp [Value.oneCell']) (by unfold maxLen; omega) (by omega) (by have := hB.out.size; simp; omega) ?_; intro v' w5 hown5 hgrow5 _; have hB5 : Hid (Below w.heap.size w w5) := (hB.out.alloc hB.out.size _).grown hgrow5 (by have := hB.out.size; simp; omega) (fun k hk => HLT.out k hk))
            go_roundw
            case rel => exact ⟨q + 1, by omega, by go_num, by rw [HSN.out]; exact hown5, hB5⟩
            case measure => simp [intOf]; omega
        · have ht1 : turnN x y (s.1.lo q) = s.1.lo q := by unfold turnN; rw [if_neg (by simp [c1, c2])]
          rw [ht1] at HSN
          clear ht1
          generalize s.1.lo q = z at *
          have e1 : ((z : Int) == (x : Int)) = false := beq_eq_false_iff_ne.2 (by omega)
          have e2 : ((z : Int) == (y : Int)) = false := beq_eq_false_iff_ne.2 (by omega)
          clear c1 c2 hqn
          clear HCN
          go_wp2_with (at_builtin; refine wpList_append_own _ rfl _ _ 40 rfl w.heap.size 3 i0 _ 1 8 Try.underlying40 hi0 hz0 hz1 hz2 rfl (by decide) _ _ _ rfl (hown.alloc _) ⟨wr.heap.size, 0, none⟩ 1 1 [.int .i64 (z : Int)] rfl rfl (cell_one_new _ _ _) (by simp [Value.oneCell']) (by unfold maxLen; omega) (by omega) (by have := hB.out.size; simp; omega) ?_; intro v' w5 hown5 hgrow5 _; have hB5 : Hid (Below w.heap.size w w5) := (hB.out.alloc hB.out.size _).grown hgrow5 (by have := hB.out.size; simp; omega) (fun k hk => HLT.out k hk))
          go_roundw
          case rel => exact ⟨q + 1, by omega, by go_num, by rw [HSN.out]; exact hown5, hB5⟩
          case measure => simp [intOf]; omega
    · obtain rfl : q = n := by omega
      rw [← hlos] at hown
      obtain ⟨la, lc, hlv⟩ := Ref.form h
      subst hlv
      have hown2 : wr.ownsRow w.heap.size 3 1 u10 (Uf.los q s'.1).length (intsC (Uf.los q s'.1)) := by rw [los_length]; exact hown
      have GROW := fun (W5 : World) (v' : Value) O ho hg => Ref.grown (v' := v') (W5 := W5) h hB.out hbase hown2 O v1 v2 v3 ho hg
      clear hown2
      obtain ⟨av, lv2, cv, hvf⟩ : ∃ a l c, u10 = Value.slice a l c := by
        rcases hown.2 with ⟨e, _⟩ | ⟨b, cap, cur, e, _⟩
        · exact ⟨_, _, _, e⟩
        · exact ⟨_, _, _, e⟩
      subst hvf
      have c1 : wr.cell? ⟨rp, 1, none⟩ = some (.slice la (Uf.logOf q s.1 s.2).length lc) := (hB.out.cell (p := ⟨rp, 1, none⟩) h.sets.lt).trans h.c1
      have KB : Kept (fun k => w.heap.size ≤ k) w wr := ⟨hB.out.os, hB.out.tape, hB.out.output, hB.out.size, fun k hk _ => hB.out.block k hk⟩
      have hvr : wr.ownsRow base 40 1 (.slice la (Uf.logOf q s.1 s.2).length lc) (Uf.logOf q s.1 s.2).length vals := owns_kept v2 KB (fun j hj => by have := (v2.lt j hj).2; omega)
      have rplt : rp < wr.heap.size := Nat.lt_of_lt_of_le h.sets.lt hB.out.size
      have hsz := hB.out.size
      have HLOG : Hid (_ = _) := hlog
      simp only [hLL] at GROW
      rw [hLL] at hvr c1
      have HG : Hid _ := GROW
      clear GROW hown h v1 v2 v3 KB hlog hlos HCN HL
      go_wp2_with (at_builtin; refine wpList_append_own _ rfl _ _ 131 rfl base 40 j0 _ 1 24 Try.underlying131 kj0 kz0 kz1 kz2 rfl (by decide) (.slice la (s.2.length + 1) lc) _ _ rfl (hvr.alloc _) ⟨wr.heap.size, 0, none⟩ 1 1 [.slice av lv2 cv] rfl rfl (cell_one_new _ _ _) (by simp [Value.oneCell']) (by unfold maxLen; omega) (by omega) (by simp; omega) ?_; intro v' w5 hown5 hgrow5 _; obtain ⟨G1, G2, G3, G4⟩ := HG.out w5 v' _ hown5 hgrow5; obtain ⟨b5, cap5, hv5⟩ := ownsRow_succ hown5; subst hv5)
      go_ret
      refine ⟨rfl, .slice (some ⟨b5, 0, none⟩) (s.2.length + 1 + 1) cap5, ?_, ?_⟩
      · unfold RefS
        rw [HLOG.out]
        exact G1
      · rw [hLL]
        exact G2

theorem rJoin_in (w : World) (base rp n : Nat) (lv : Value) (s : GT) (h : RefS w base rp n lv s) (hbase : base ≤ w.heap.size) (ht : s.2.length ≤ 150) (k : Nat) (hok : Uf.Ok n s.1 k) (a b : Int) :
    Calls Try.prog 30 #[.pointer (some ⟨rp, 0, none⟩), .int .i64 a, .int .i64 b] w fun e w' => e = .returned (.bool (joins n s.1 a b)) ∧ ∃ lv', RefS w' base rp n lv' (stp n s (a, b)) ∧ Kept (SFoot rp lv) w w' := by
  cases hj : joins n s.1 a b
  · refine (rJoin_no w base rp n lv s h ht k hok a b hj).mono ?_
    rintro e w' ⟨he, m, rfl⟩
    rw [stp_no hj]
    exact ⟨he, lv, h.drewN, (Kept.refl _ w).drewN _⟩
  · have h3 : inB n a = true ∧ inB n b = true ∧ s.1.rt a.toNat ≠ s.1.rt b.toNat := by
      simp only [joins, Bool.and_eq_true, Bool.not_eq_true', decide_eq_false_iff_not] at hj
      exact ⟨hj.1.1, hj.1.2, hj.2⟩
    obtain ⟨ha, hb, hne⟩ := h3
    obtain ⟨a1, a2⟩ := inB_true ha
    obtain ⟨b1, b2⟩ := inB_true hb
    obtain ⟨i, rfl⟩ := Int.eq_ofNat_of_zero_le a1
    obtain ⟨j, rfl⟩ := Int.eq_ofNat_of_zero_le b1
    rw [Int.toNat_natCast, Int.toNat_natCast] at hne
    exact rJoin_yes w base rp n lv s h hbase ht k hok i j (by omega) (by omega) hne

end Go.Proofs.Ytinphcnknionmaa
