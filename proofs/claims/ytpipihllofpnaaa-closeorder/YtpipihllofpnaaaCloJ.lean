/- Package close: firstUses. -/
import Derived.Test.YtpipihllofpnaaaCloI
import Derived.Test.YtpipihllofpnaaaCcB
import Derived.Test.YtpipihllofpnaaaRefE
namespace Go.Proofs.Ytpipihllofpnaaa
open Go.RowKit Go.Maps

/-- append where there is room, in the walk. -/
theorem wpList_append_spare {P : Program} {ops : Array Oper} {rest : List Oper} {o : Oper} {a : Act} {w : World} {Q : Exit → Act → World → Prop} (hgd : o.guard = none) (sl x : Operand) (t : TypeId)
    (ho : o.op = .call { callee := .builtin .append, args := #[sl, x], argTypes := #[t, t] })
    (e : TypeId) (i : TypeInfo) (size : Nat) (h1 : P.underlying t = some (.slice e)) (h2 : P.info? e = some i) (h4 : i.size = size)
    (b off n cap : Nat) (hs : a.eval sl = .slice (some ⟨b, off, none⟩) n cap)
    (ad : Addr) (m c : Nat) (news : List Value) (hx : a.eval x = .slice (some ad) m c) (hn : news.length = m * size) (hc : ∀ j u, news[j]? = some u → w.cell? (ad.add j) = some u) (h1c : ∀ u ∈ news, u.oneCell' = true)
    (hroom : n + m ≤ cap) (hspare : ∀ j, j < news.length → (w.cell? ⟨b, off + n * size + j, none⟩).isSome = true ∧ w.frozen? ⟨b, off + n * size + j, none⟩ = false)
    (h : wpList P ops Q rest (a.put o.dst (.slice (some ⟨b, off, none⟩) (n + m) cap)) (w.setCells b (off + n * size) news)) : wpList P ops Q (o :: rest) a w := by
  refine wpList_plain hgd fun K hK => ?_
  subst h4
  have hr := run_append_room_cells (P := P) w t o.type e i h1 h2 b off n cap ad m c news hn hc h1c hroom (fun j hj => (hspare j hj).1) (fun j hj => (hspare j hj).2)
  unfold Oper.wp execOp
  simp only [ho, resolve, invoke, builtin, Sem.run_bind, Sem.run_pure, Result.andThen_ok, List.map_toArray, List.map_cons, List.map_nil, hs, hx, hr]
  exact hK _ _ h

/-- A row of numbers, one for each term. -/
theorem make_ints (w : World) (ty : TypeId) (hty : Try.prog.underlying ty = some (.slice 3)) (n : Nat) (hn : n ≤ 1000000) : (Instr.makeSlice ty (.int .i64 (n : Int)) (.int .i64 (n : Int))).run Try.prog w = .ok (.slice (some ⟨w.heap.size, 0, none⟩) n n) (w.alloc (.cells (madeCells #[.int .i64 0] n) 3)) := by
  obtain ⟨i0, hi0, hz0, hz1, hz2⟩ := info_parts infoIntK
  have hmk := run_make (P := Try.prog) w ty 3 i0 _ hty hi0 hz0 .i64 .i64 (n : Int) (n : Int) (by omega) (Int.le_refl _) (by rw [hz2]; omega) (by omega)
  rw [hz1] at hmk
  simp only [Int.toNat_natCast, Nat.mul_one] at hmk
  exact hmk

theorem infoUses : (Try.prog.info? 198).map (fun i => (i.zero, i.size, i.bytes)) = some (some (.slice none 0 0), 1, 24) := by kernel_rfl
theorem make_uses (w : World) (n : Nat) (hn : n ≤ 1000000) : (Instr.makeSlice 146 (.int .i64 (n : Int)) (.int .i64 (n : Int))).run Try.prog w = .ok (.slice (some ⟨w.heap.size, 0, none⟩) n n) (w.alloc (.cells (madeCells #[.slice none 0 0] n) 198)) := by
  obtain ⟨i0, hi0, hz0, hz1, hz2⟩ := info_parts infoUses
  have hmk := run_make (P := Try.prog) w 146 198 i0 _ Try.underlying146 hi0 hz0 .i64 .i64 (n : Int) (n : Int) (by omega) (Int.le_refl _) (by rw [hz2]; omega) (by omega)
  rw [hz1] at hmk
  simp only [Int.toNat_natCast, Nat.mul_one] at hmk
  exact hmk

/-- The room as far as it is filled. -/
def Rm (W : World) (rb total N : Nat) (c : Nat → Nat) (d : List (Nat × Nat)) : Prop := ∃ g, W.rowIs rb 3 total g ∧ ∀ i, i < N → ∀ j x : Nat, (Cc.usf d i)[j]? = some x → g (Cc.offs c i + j) = .int .i64 (x : Int)
theorem Rm.step {W : World} {rb total N : Nat} {c : Nat → Nat} {d : List (Nat × Nat)} (h : Rm W rb total N c d) {a n : Nat} (hd : Cc.cna d a < c a) (hle : ∀ i, Cc.cna d i ≤ c i) :
    Rm (W.setCell ⟨rb, Cc.offs c a + Cc.cna d a, none⟩ (.int .i64 (n : Int))) rb total N c (d ++ [(a, n)]) := by
  obtain ⟨g, R, hg⟩ := h
  refine ⟨_, R.set (Cc.offs c a + Cc.cna d a) (.int .i64 (n : Int)), fun i hi j x hj => ?_⟩
  rw [Cc.usf_snoc] at hj
  show (if Cc.offs c i + j = Cc.offs c a + Cc.cna d a then Value.int .i64 (n : Int) else g (Cc.offs c i + j)) = _
  by_cases e : i = a
  · subst e
    rw [if_pos rfl] at hj
    by_cases ej : j < Cc.cna d i
    · rw [List.getElem?_append_left ej] at hj
      rw [if_neg (by omega)]
      exact hg i hi j x hj
    · have hjl := (List.getElem?_eq_some_iff.1 hj).1
      rw [List.length_append, List.length_singleton] at hjl
      have ej2 : j = Cc.cna d i := by unfold Cc.cna at ej ⊢; omega
      subst ej2
      rw [if_pos rfl]
      unfold Cc.cna at hj
      rw [List.getElem?_append_right (Nat.le_refl _), Nat.sub_self] at hj
      simp at hj
      rw [hj]
  · rw [if_neg e] at hj
    have hjl : j < Cc.cna d i := (List.getElem?_eq_some_iff.1 hj).1
    have h1 := hle i
    have : ¬ Cc.offs c i + j = Cc.offs c a + Cc.cna d a := by
      rcases Nat.lt_or_gt_of_ne e with e | e
      · have := Cc.offs_mono c e; omega
      · have := Cc.offs_mono c e; omega
    rw [if_neg this]
    exact hg i hi j x hj

/-- The slice of term i, behind d. -/
def slD (rb : Nat) (c : Nat → Nat) (d : List (Nat × Nat)) (i : Nat) : Value := .slice (some ⟨rb, if c i = 0 then 0 else Cc.offs c i, none⟩) (Cc.cna d i) (c i)

/-- What firstUses leaves. -/
structure Fu (w w' : World) (ub : Nat) (l : List Tm) (uv : Nat → Value) (st : List (Nat × Obj)) : Prop where
  row : w'.rowIs ub 198 l.length uv
  sat : Sat st w'
  far : ∀ x ∈ st, w.heap.size ≤ x.1 ∧ x.1 ≠ ub
  uses : ∀ i, i < l.length → UseIs st (uv i) (Cc.usf (Cc.evs l 0) i)
  kept : Kept0 w w'
  ub : w.heap.size ≤ ub

theorem Fu.made {w w' : World} {rb : Nat} {l : List Tm} (h1 : w'.rowIs (rb + 1) 198 l.length (slD rb (Cc.cna (Cc.evs l 0)) (Cc.evs l 0))) (h2 : Rm w' rb (Cc.evs l 0).length l.length (Cc.cna (Cc.evs l 0)) (Cc.evs l 0)) (hall : Cc.offs (Cc.cna (Cc.evs l 0)) l.length = (Cc.evs l 0).length) (K : Kept0 w w') (hb : w.heap.size ≤ rb) :
    ∃ uv st2, Fu w w' (rb + 1) l uv st2 := by
  obtain ⟨g, ⟨C, q1, q2, q3⟩, hg⟩ := h2
  refine ⟨_, [(rb, .cells C 3 (0, 0))], ⟨h1, fun x hx => by simp at hx; subst hx; exact q1, fun x hx => by simp at hx; subst hx; exact ⟨hb, by show rb ≠ rb + 1; omega⟩, fun i hi => ?_, K, by omega⟩⟩
  refine ⟨_, Cc.cna (Cc.evs l 0) i, rfl, Nat.le_refl _, ?_⟩
  by_cases e : Cc.usf (Cc.evs l 0) i = []
  · exact .inl e
  · have hc : Cc.cna (Cc.evs l 0) i ≠ 0 := fun x => e (List.eq_nil_of_length_eq_zero x)
    refine .inr ⟨rb, Cc.offs (Cc.cna (Cc.evs l 0)) i, C, (0, 0), by rw [if_neg hc], by simp, fun j x hj => ?_⟩
    have hjl : j < Cc.cna (Cc.evs l 0) i := (List.getElem?_eq_some_iff.1 hj).1
    have := Cc.offs_mono (Cc.cna (Cc.evs l 0)) hi
    rw [q3 _ (by omega), hg i hi j x hj]

set_option maxHeartbeats 2000000 in
set_option maxRecDepth 100000 in
theorem first_in (w : World) (l : List Tm) (tb : Nat) (av : Nat → Value) (st : List (Nat × Obj)) (hR : w.rowIs tb 42 (l.length * 2) (termC l av)) (hS : Sat st w) (hA : ∀ (i : Nat) (t : Tm), l[i]? = some t → UseIs st (av i) t.args) (hb : Cc.Bd l) (hl : l.length ≤ 150) :
    Calls Try.prog 120 #[.slice (some ⟨tb, 0, none⟩) l.length l.length] w fun e w' => ∃ ub uv st2, e = .returned (.slice (some ⟨ub, 0, none⟩) l.length l.length) ∧ Fu w w' ub l uv st2 := by
  have M1 := make_ints w 40 Try.underlying40 l.length (by omega)
  have R1 := World.rowIs_made w (.int .i64 0) l.length 3
  have K1 : Kept0 w (w.alloc (.cells (madeCells #[.int .i64 0] l.length) 3)) := Kept.alloc (Kept.refl _ w) _
  go_enter Try.func120, Try.ntmps120
  go_wp2_with fail
  clear M1
  generalize w.alloc (.cells (madeCells #[.int .i64 0] l.length) 3) = w1 at *
  have h4 := hb.four
  have hcb : w.heap.size < w1.heap.size := R1.lt
  have htl := hR.lt
  generalize hcbe : w.heap.size = cb at *
  have T0 : ∀ W, Kept0 w W → ∀ (n : Nat) (t : Tm), l[n]? = some t → W.cell? ⟨tb, n * 2, none⟩ = some (.string t.name) ∧ W.cell? ⟨tb, n * 2 + 1, none⟩ = some (av n) := fun W K n t ht => by
    have hn := (List.getElem?_eq_some_iff.1 ht).1
    have R := World.rowIs.of_block hR (K.block tb (by omega) (fun e => e))
    refine ⟨?_, ?_⟩
    · rw [R.cell (i := n * 2) (by omega)]; simp [termC, ht]
    · rw [R.cell (i := n * 2 + 1) (by omega)]
      have h1 : (n * 2 + 1) % 2 = 1 := by omega
      have h2 : (n * 2 + 1) / 2 = n := by omega
      simp [termC, h1, h2]
  have T0h : Hid _ := T0
  clear T0
  have SS : ∀ W, Kept0 w W → Sat st W := fun W K x hx => (K.block x.1 (Array.getElem?_eq_some_iff.1 (hS x hx)).1 (fun e => e)).trans (hS x hx)
  go_loopw [4, 23] (fun t4 t23 W => ∃ n : Nat, n ≤ l.length ∧ t23 = .int .i64 (n : Int) ∧ t4 = .int .i64 ((Cc.evs (l.take n) 0).length : Int) ∧ W.rowIs cb 3 l.length (fun i => .int .i64 (Cc.cna (Cc.evs (l.take n) 0) i : Int)) ∧ Kept0 w W) (fun _ t23 _ => l.length - (intOf t23).toNat)
  case atStart => exact ⟨0, by omega, rfl, rfl, R1, K1⟩
  case round =>
    clear R1 K1
    obtain ⟨n, hn, rfl, rfl, R, K⟩ := hrel
    by_cases hn2 : n < l.length
    · have dn : decide ((n : Int) < (l.length : Int)) = true := decide_eq_true (by omega)
      have ht : l[n]? = some l[n] := List.getElem?_eq_getElem hn2
      generalize hln : l[n] = t at ht
      obtain ⟨t0, t1⟩ := T0h.out wr K n t ht
      obtain ⟨aa, ac, hav⟩ := (hA n t ht).form
      rw [hav] at t1
      have hU := hA n t ht
      rw [hav] at hU
      have K2 : Kept0 w (wr.alloc (.cells #[.string t.name, .slice aa t.args.length ac] 42)) := K.alloc _
      have R2 := R.alloc (.cells #[.string t.name, .slice aa t.args.length ac] 42)
      rw [← Cc.pre_zero l n t] at R2
      have e0 : (Cc.evs (l.take n) 0).length = (Cc.pre l n t 0).length := by rw [Cc.pre_zero]
      go_wp2_with fail
      rw [e0]
      generalize wr.alloc (.cells #[.string t.name, .slice aa t.args.length ac] 42) = w2 at *
      clear t0 t1 R K
      go_loopw [4, 30] (fun t4 t30 W => ∃ k : Nat, k ≤ t.args.length ∧ t30 = .int .i64 (k : Int) ∧ t4 = .int .i64 ((Cc.pre l n t k).length : Int) ∧ W.rowIs cb 3 l.length (fun i => .int .i64 (Cc.cna (Cc.pre l n t k) i : Int)) ∧ Kept0 w W) (fun _ t30 _ => t.args.length - (intOf t30).toNat)
      case atStart => exact ⟨0, by omega, rfl, rfl, R2, K2⟩
      case round =>
        clear R2 K2
        obtain ⟨k, hk, rfl, rfl, R, K⟩ := hrel
        by_cases hk2 : k < t.args.length
        · have dk : decide ((k : Int) < (t.args.length : Int)) = true := decide_eq_true (by omega)
          have hka : t.args[k]? = some t.args[k] := List.getElem?_eq_getElem hk2
          obtain ⟨b, off, cap, hv, _, hc⟩ := hU.cell (SS wr K) hka
          injection hv with e1 e2 e3
          clear e2
          subst e1 e3
          have ck := hc k _ hka
          clear hc
          have hlt := hb.args n t ht _ (List.getElem_mem hk2)
          have hpl := Cc.pre_len h4 ht k
          have hcl := Cc.cna_le (Cc.pre l n t k) t.args[k]
          have R' := World.rowIs.congr (R.set t.args[k] (.int .i64 ((Cc.cna (Cc.pre l n t k) t.args[k] : Int) + 1))) (g := fun i => .int .i64 (Cc.cna (Cc.pre l n t (k + 1)) i : Int)) (fun i hi => by
            rw [Cc.pre_step hka, Cc.cna_snoc]
            by_cases e : i = t.args[k]
            · rw [if_pos e, if_pos e, e]; simp
            · rw [if_neg e, if_neg e])
          have cc := R.cell (i := t.args[k]) hlt
          have fc := R.frozen t.args[k]
          have hpl' : (Cc.pre l n t (k + 1)).length = (Cc.pre l n t k).length + 1 := by rw [Cc.pre_step hka]; simp
          generalize t.args[k] = xa at *
          generalize Cc.cna (Cc.pre l n t k) xa = cn at *
          generalize (Cc.pre l n t k).length = pn at *
          have hk4 : t.args.length ≤ 4 := h4 t (List.mem_of_getElem? ht)
          have HF : Hid (_ ∧ _ ∧ _) := ⟨R', hpl', Kept.setNew (off := xa) K (Nat.le_of_eq hcbe) (.int .i64 ((cn : Int) + 1))⟩
          clear R R' hpl' K hU hka hav hA hR hS T0h SS hb h4 hln ht e0 hcb htl hcbe
          go_wp2_with fail
          obtain ⟨R', hpl', K'⟩ := HF.out
          refine ⟨⟨k + 1, hk2, ?_, ?_, R', K'⟩, ?_⟩
          · simp
          · rw [hpl']; simp
          · simp [intOf]; omega
        · have dk : decide ((k : Int) < (t.args.length : Int)) = false := decide_eq_false (by omega)
          obtain rfl : k = t.args.length := by omega
          rw [Cc.pre_all ht] at R ⊢
          go_wp2_with fail
          exact ⟨⟨n + 1, by omega, by simp, rfl, R, K⟩, by simp [intOf]; omega⟩
    · have dn : decide ((n : Int) < (l.length : Int)) = false := decide_eq_false (by omega)
      obtain rfl : n = l.length := by omega
      rw [Cc.evs_all] at R ⊢
      have htot : (Cc.evs l 0).length ≤ 4 * l.length := Cc.evs_len h4 0
      have hall : Cc.offs (Cc.cna (Cc.evs l 0)) l.length = (Cc.evs l 0).length := Cc.offs_all _ _ (Cc.evs_lt (fun t ht a ha => by
        obtain ⟨n, hn, rfl⟩ := List.mem_iff_getElem.1 ht
        exact hb.args n _ (List.getElem?_eq_getElem hn) a ha) 0)
      have M2 := make_ints wr 198 Try.underlying198 (Cc.evs l 0).length (by omega)
      have M3 := make_uses (wr.alloc (.cells (madeCells #[.int .i64 0] (Cc.evs l 0).length) 3)) l.length (by omega)
      have Rr := World.rowIs.alloc (World.rowIs_made wr (.int .i64 0) (Cc.evs l 0).length 3) (.cells (madeCells #[.slice none 0 0] l.length) 198)
      have Ra := World.rowIs_made (wr.alloc (.cells (madeCells #[.int .i64 0] (Cc.evs l 0).length) 3)) (.slice none 0 0) l.length 198
      have hs1 : (wr.alloc (.cells (madeCells #[.int .i64 0] (Cc.evs l 0).length) 3)).heap.size = wr.heap.size + 1 := by simp
      rw [hs1] at M3 Ra
      have Rc := (R.alloc (.cells (madeCells #[.int .i64 0] (Cc.evs l 0).length) 3)).alloc (.cells (madeCells #[.slice none 0 0] l.length) 198)
      have K5 := (K.alloc (.cells (madeCells #[.int .i64 0] (Cc.evs l 0).length) 3)).alloc (.cells (madeCells #[.slice none 0 0] l.length) 198)
      have hrb : cb < wr.heap.size := R.lt
      go_wp2_with fail
      clear M2 M3 R K hs1
      generalize (wr.alloc (.cells (madeCells #[.int .i64 0] (Cc.evs l 0).length) 3)).alloc (.cells (madeCells #[.slice none 0 0] l.length) 198) = w5 at *
      generalize wr.heap.size = rb at *
      generalize hE : Cc.evs l 0 = E at *
      have hEh : Hid (Cc.evs l 0 = E) := hE
      clear hE
      go_loopw [11, 51] (fun t11 t51 W => ∃ n : Nat, n ≤ l.length ∧ t51 = .int .i64 (n : Int) ∧ t11 = .int .i64 (Cc.offs (Cc.cna E) n : Int) ∧ W.rowIs (rb + 1) 198 l.length (fun i => if i < n then slD rb (Cc.cna E) [] i else .slice none 0 0) ∧ W.rowIs cb 3 l.length (fun i => .int .i64 (Cc.cna E i : Int)) ∧ W.rowIs rb 3 E.length (fun _ => .int .i64 0) ∧ Kept0 w W) (fun _ t51 _ => l.length - (intOf t51).toNat)
      case atStart => exact ⟨0, by omega, rfl, rfl, Ra.congr (fun i _ => by simp), Rc, Rr, K5⟩
      case round =>
        clear Ra Rc Rr K5
        obtain ⟨n, hn, rfl, rfl, Ra, Rc, Rr, K⟩ := hrel
        by_cases hn2 : n < l.length
        · have dn : decide ((n : Int) < (l.length : Int)) = true := decide_eq_true (by omega)
          have cc := Rc.cell (i := n) hn2
          have ca := Ra.cell (i := n) hn2
          rw [if_neg (Nat.lt_irrefl n)] at ca
          have fa := Ra.frozen n
          have hom := Cc.offs_mono (Cc.cna E) hn2
          rw [hall] at hom
          have hoff : Cc.offs (Cc.cna E) (n + 1) = Cc.offs (Cc.cna E) n + Cc.cna E n := rfl
          have SLD : Hid (slD rb (Cc.cna E) [] n = .slice (some ⟨rb, if Cc.cna E n = 0 then 0 else Cc.offs (Cc.cna E) n, none⟩) 0 (Cc.cna E n)) := rfl
          generalize hcn : Cc.cna E n = cn at *
          generalize hon : Cc.offs (Cc.cna E) n = on at *
          clear hA hR hS T0h SS hb h4 hall hcb htl
          have HH : Hid (_ ∧ _ ∧ _ ∧ _ ∧ _ ∧ _) := ⟨hcn, hon, Ra, Rc, Rr, K⟩
          clear hcn hon Ra Rc Rr K
          by_cases hc0 : cn = 0
          · subst hc0
            go_wp2_with fail
            obtain ⟨hcn, hon, Ra, Rc, Rr, K⟩ := HH.out
            have hv := SLD.out
            rw [if_pos rfl] at hv
            refine ⟨⟨n + 1, hn2, by simp, by rw [hoff]; rfl, (Ra.set n _).congr (fun i hi => ?_), Rc.setOther (show cb ≠ rb + 1 by omega) _, Rr.setOther (show rb ≠ rb + 1 by omega) _, Kept.setNew K (by omega) _⟩, by simp [intOf]; omega⟩
            by_cases e : i = n
            · rw [if_pos e, e, if_pos (Nat.lt_succ_self n), hv]
            · rw [if_neg e]
              by_cases e2 : i < n
              · rw [if_pos e2, if_pos (by omega)]
              · rw [if_neg e2, if_neg (by omega)]
          · go_wp2_with fail
            obtain ⟨hcn, hon, Ra, Rc, Rr, K⟩ := HH.out
            have hv := SLD.out
            rw [if_neg hc0] at hv
            refine ⟨⟨n + 1, hn2, by simp, by rw [hoff]; simp, (Ra.set n _).congr (fun i hi => ?_), Rc.setOther (show cb ≠ rb + 1 by omega) _, Rr.setOther (show rb ≠ rb + 1 by omega) _, Kept.setNew K (by omega) _⟩, by simp [intOf]; omega⟩
            by_cases e : i = n
            · rw [if_pos e, e, if_pos (Nat.lt_succ_self n), hv]
            · rw [if_neg e]
              by_cases e2 : i < n
              · rw [if_pos e2, if_pos (by omega)]
              · rw [if_neg e2, if_neg (by omega)]
        · have dn : decide ((n : Int) < (l.length : Int)) = false := decide_eq_false (by omega)
          obtain rfl : n = l.length := by omega
          have Ra0 : wr.rowIs (rb + 1) 198 l.length (slD rb (Cc.cna E) (Cc.evs (l.take 0) 0)) := Ra.congr (fun i hi => by rw [if_pos hi]; rfl)
          have Rm0 : Rm wr rb E.length l.length (Cc.cna E) (Cc.evs (l.take 0) 0) := ⟨_, Rr, fun i _ j x hj => by simp [Cc.evs, Cc.usf] at hj⟩
          have HC : Hid (cb < rb ∧ w.heap.size = cb) := ⟨hrb, hcbe⟩
          clear hrb hcbe hcb htl
          go_wp2_with fail
          clear Ra Rc Rr
          go_loopw [72] (fun t72 W => ∃ n : Nat, n ≤ l.length ∧ t72 = .int .i64 (n : Int) ∧ W.rowIs (rb + 1) 198 l.length (slD rb (Cc.cna E) (Cc.evs (l.take n) 0)) ∧ Rm W rb E.length l.length (Cc.cna E) (Cc.evs (l.take n) 0) ∧ Kept0 w W) (fun t72 _ => l.length - (intOf t72).toNat)
          case atStart => exact ⟨0, by omega, rfl, Ra0, Rm0, K⟩
          case round =>
            clear Ra0 Rm0 K
            obtain ⟨n, hn, rfl, Ra, Rm1, K⟩ := hrel
            by_cases hn2 : n < l.length
            · have dn : decide ((n : Int) < (l.length : Int)) = true := decide_eq_true (by omega)
              have ht : l[n]? = some l[n] := List.getElem?_eq_getElem hn2
              generalize hln : l[n] = t at ht
              clear hln
              obtain ⟨t0, t1⟩ := T0h.out wr K n t ht
              have hU := hA n t ht
              obtain ⟨aa, ac, hav⟩ := hU.form
              rw [hav] at t1 hU
              have K2 : Kept0 w (wr.alloc (.cells #[.string t.name, .slice aa t.args.length ac] 42)) := K.alloc _
              have R2 := Ra.alloc (.cells #[.string t.name, .slice aa t.args.length ac] 42)
              have Rm2 : Rm (wr.alloc (.cells #[.string t.name, .slice aa t.args.length ac] 42)) rb E.length l.length (Cc.cna E) (Cc.evs (l.take n) 0) := by
                obtain ⟨g, q1, q2⟩ := Rm1
                exact ⟨g, q1.alloc _, q2⟩
              rw [← Cc.pre_zero l n t] at R2 Rm2
              have HT : Hid (l[n]? = some t) := ht
              clear ht
              go_wp2_with fail
              have ht := HT.out
              clear HT
              generalize wr.alloc (.cells #[.string t.name, .slice aa t.args.length ac] 42) = w6 at *
              clear t0 t1 Ra Rm1 K hav
              go_loopw [80] (fun t80 W => ∃ k : Nat, k ≤ t.args.length ∧ t80 = .int .i64 (k : Int) ∧ W.rowIs (rb + 1) 198 l.length (slD rb (Cc.cna E) (Cc.pre l n t k)) ∧ Rm W rb E.length l.length (Cc.cna E) (Cc.pre l n t k) ∧ Kept0 w W) (fun t80 _ => t.args.length - (intOf t80).toNat)
              case atStart => exact ⟨0, by omega, rfl, R2, Rm2, K2⟩
              case round =>
                clear R2 Rm2 K2
                obtain ⟨k, hk, rfl, Ra, Rm1, K⟩ := hrel
                by_cases hk2 : k < t.args.length
                · have dk : decide ((k : Int) < (t.args.length : Int)) = true := decide_eq_true (by omega)
                  have hka : t.args[k]? = some t.args[k] := List.getElem?_eq_getElem hk2
                  obtain ⟨b, off, cap, hv, _, hc⟩ := hU.cell (SS wr K) hka
                  injection hv with e1 e2 e3
                  clear e2
                  subst e1 e3
                  have ck := hc k _ hka
                  clear hc
                  have hlt := hb.args n t ht _ (List.getElem_mem hk2)
                  have hk4 : t.args.length ≤ 4 := h4 t (List.mem_of_getElem? ht)
                  generalize t.args[k] = xa at *
                  have hle : ∀ i, Cc.cna (Cc.pre l n t k) i ≤ Cc.cna E i := fun i => by rw [← hEh.out]; exact Cc.pre_cna ht k i
                  have hlt2 : Cc.cna (Cc.pre l n t k) xa < Cc.cna E xa := by
                    have := Cc.pre_cna ht (k + 1) xa
                    rw [Cc.pre_step hka, Cc.cna_snoc, if_pos rfl, hEh.out] at this
                    omega
                  have hom := Cc.offs_mono (Cc.cna E) hlt
                  rw [hall] at hom
                  have Rm3 := Rm1.step (n := n) hlt2 hle
                  rw [← Cc.pre_step hka] at Rm3
                  have ca := Ra.cell (i := xa) hlt
                  have fa := Ra.frozen xa
                  have hsl : slD rb (Cc.cna E) (Cc.pre l n t k) xa = .slice (some ⟨rb, Cc.offs (Cc.cna E) xa, none⟩) (Cc.cna (Cc.pre l n t k) xa) (Cc.cna E xa) := by unfold slD; rw [if_neg (by omega)]
                  have hsl2 : slD rb (Cc.cna E) (Cc.pre l n t (k + 1)) xa = .slice (some ⟨rb, Cc.offs (Cc.cna E) xa, none⟩) (Cc.cna (Cc.pre l n t k) xa + 1) (Cc.cna E xa) := by unfold slD; rw [if_neg (by omega), Cc.pre_step hka, Cc.cna_snoc, if_pos rfl]
                  have hso : ∀ i, i ≠ xa → slD rb (Cc.cna E) (Cc.pre l n t (k + 1)) i = slD rb (Cc.cna E) (Cc.pre l n t k) i := fun i hi => by unfold slD; rw [Cc.pre_step hka, Cc.cna_snoc, if_neg hi]
                  rw [hsl] at ca
                  obtain ⟨g, Rg, hg⟩ := Rm1
                  have hxl : Cc.offs (Cc.cna E) xa + Cc.cna (Cc.pre l n t k) xa < E.length := by omega
                  have cr : ∀ O, (wr.alloc O).cell? ⟨rb, Cc.offs (Cc.cna E) xa + Cc.cna (Cc.pre l n t k) xa, none⟩ = some (g (Cc.offs (Cc.cna E) xa + Cc.cna (Cc.pre l n t k) xa)) ∧ (wr.alloc O).frozen? ⟨rb, Cc.offs (Cc.cna E) xa + Cc.cna (Cc.pre l n t k) xa, none⟩ = false := fun O => by
                    have := Rg.alloc O
                    exact ⟨this.cell hxl, this.frozen _⟩
                  have FIN : Hid (∀ O, ((((wr.alloc O).setCell ⟨rb, Cc.offs (Cc.cna E) xa + Cc.cna (Cc.pre l n t k) xa, none⟩ (.int .i64 (n : Int))).setCell ⟨rb + 1, xa, none⟩ (.slice (some ⟨rb, Cc.offs (Cc.cna E) xa, none⟩) (Cc.cna (Cc.pre l n t k) xa + 1) (Cc.cna E xa))).rowIs (rb + 1) 198 l.length (slD rb (Cc.cna E) (Cc.pre l n t (k + 1)))) ∧ Rm (((wr.alloc O).setCell ⟨rb, Cc.offs (Cc.cna E) xa + Cc.cna (Cc.pre l n t k) xa, none⟩ (.int .i64 (n : Int))).setCell ⟨rb + 1, xa, none⟩ (.slice (some ⟨rb, Cc.offs (Cc.cna E) xa, none⟩) (Cc.cna (Cc.pre l n t k) xa + 1) (Cc.cna E xa))) rb E.length l.length (Cc.cna E) (Cc.pre l n t (k + 1)) ∧ Kept0 w (((wr.alloc O).setCell ⟨rb, Cc.offs (Cc.cna E) xa + Cc.cna (Cc.pre l n t k) xa, none⟩ (.int .i64 (n : Int))).setCell ⟨rb + 1, xa, none⟩ (.slice (some ⟨rb, Cc.offs (Cc.cna E) xa, none⟩) (Cc.cna (Cc.pre l n t k) xa + 1) (Cc.cna E xa)))) := fun O => by
                    obtain ⟨h1, h2⟩ := HC.out
                    refine ⟨?_, ?_, ?_⟩
                    · refine (((Ra.alloc O).setOther (a := ⟨rb, Cc.offs (Cc.cna E) xa + Cc.cna (Cc.pre l n t k) xa, none⟩) (show rb + 1 ≠ rb by omega) (.int .i64 (n : Int))).set xa _).congr (fun i hi => ?_)
                      by_cases e : i = xa
                      · rw [if_pos e, e, hsl2]
                      · rw [if_neg e, hso i e]
                    · have := Rm.step (W := wr.alloc O) (n := n) (⟨g, Rg.alloc O, hg⟩ : Rm (wr.alloc O) rb E.length l.length (Cc.cna E) (Cc.pre l n t k)) hlt2 hle
                      rw [← Cc.pre_step hka] at this
                      obtain ⟨g', q1, q2⟩ := this
                      exact ⟨g', q1.setOther (a := ⟨rb + 1, xa, none⟩) (show rb ≠ rb + 1 by omega) _, q2⟩
                    · exact Kept.setNew (Kept.setNew (K.alloc O) (by omega) _) (by omega) _
                  have ca' : ∀ O, ((wr.alloc O).setCell ⟨rb, Cc.offs (Cc.cna E) xa + Cc.cna (Cc.pre l n t k) xa, none⟩ (.int .i64 (n : Int))).cell? ⟨rb + 1, xa, none⟩ = some (.slice (some ⟨rb, Cc.offs (Cc.cna E) xa, none⟩) (Cc.cna (Cc.pre l n t k) xa) (Cc.cna E xa)) ∧ ((wr.alloc O).setCell ⟨rb, Cc.offs (Cc.cna E) xa + Cc.cna (Cc.pre l n t k) xa, none⟩ (.int .i64 (n : Int))).frozen? ⟨rb + 1, xa, none⟩ = false := fun O => by
                    have q := (Ra.alloc O).setOther (a := ⟨rb, Cc.offs (Cc.cna E) xa + Cc.cna (Cc.pre l n t k) xa, none⟩) (show rb + 1 ≠ rb by omega) (.int .i64 (n : Int))
                    exact ⟨by rw [q.cell hlt, hsl], q.frozen _⟩
                  have HT : Hid (l[n]? = some t ∧ t.args[k]? = some xa) := ⟨ht, hka⟩
                  obtain ⟨i0, hi0, hz0, hz1, hz2⟩ := info_parts infoIntK
                  clear ht hka Ra Rg hg hsl hsl2 hso K Rm3 hle hU hA hS SS hR T0h hb hall h4
                  generalize Cc.cna E xa = cE at *
                  generalize Cc.offs (Cc.cna E) xa = oE at *
                  generalize Cc.cna (Cc.pre l n t k) xa = cd at *
                  obtain ⟨q1, q2⟩ := ca' (.cells #[.int .i64 (n : Int)] 3)
                  obtain ⟨q3, q4⟩ := cr (.cells #[.int .i64 (n : Int)] 3)
                  have hroom : cd + 1 ≤ cE := by omega
                  clear cr ca' hi0 hz0 hz1 hz2
                  go_wp2_with fail
                  obtain ⟨f1, f2, f3⟩ := FIN.out (.cells #[.int .i64 (n : Int)] 3)
                  exact ⟨⟨k + 1, hk2, by simp, f1, f2, f3⟩, by simp [intOf]; omega⟩
                · have dk : decide ((k : Int) < (t.args.length : Int)) = false := decide_eq_false (by omega)
                  obtain rfl : k = t.args.length := by omega
                  rw [Cc.pre_all ht] at Ra Rm1
                  have HT : Hid (l[n]? = some t) := ht
                  clear ht
                  go_wp2_with fail
                  exact ⟨⟨n + 1, by omega, by simp, Ra, Rm1, K⟩, by simp [intOf]; omega⟩
            · have dn : decide ((n : Int) < (l.length : Int)) = false := decide_eq_false (by omega)
              obtain rfl : n = l.length := by omega
              rw [Cc.evs_all] at Ra Rm1
              go_wp2_with fail
              go_ret
              obtain ⟨h1, h2⟩ := HC.out
              have hE := hEh.out
              rw [hE] at Ra Rm1
              rw [← hE] at Ra Rm1 hall
              obtain ⟨uv, st2, F⟩ := Fu.made Ra Rm1 hall K (by omega)
              exact ⟨_, uv, st2, rfl, F⟩
