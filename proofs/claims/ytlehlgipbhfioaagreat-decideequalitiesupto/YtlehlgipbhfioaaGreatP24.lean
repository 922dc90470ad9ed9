/- Package close: takeBack's walk. Package close: takeBack where no step was ever kept. Package close: what was told, and the states between. Package close: Undo. Package close: Merge and Undo of a closure with its past. Package why, plainly: a choice of which none can be left out. Package why, plainly: the pairs that say something new. Package why: enough. Package why: enough's walk. Package why: turn. slices.Reverse of a row of numbers. -/
import Derived.Test.YtlehlgipbhfioaaGreatP23
import Derived.Lib.SliceRun
import Derived.Test.YtlehlgipbhfioaaGreatP22
import Derived.Deep.RegionWith
import Derived.Deep.RegionLaw
namespace Go.Proofs.YtlehlgipbhfioaaGreat
open Go.RowKit Go.Shelf
attribute [local go_sem] Oper.semAt_some

theorem keptS_b {S : Nat → Prop} {n₀ : Nat} {w : World} (hn : n₀ ≤ w.heap.size) (W : World) (l : Nat) (o o' : Obj) (hl : w.heap.size ≤ l) (_ : W.heap[l]? = some o) (_ : o.isCells = false) (_ : o.isWalk = false) : KeptS S n₀ W (W.putObj l o') :=
  (Kept.refl _ W).grown (grownBy_putObj' W l o') (fun k e => by cases e; exact Or.inr (by omega))
theorem ownsRow_above {W : World} {base : Nat} {e : TypeId} {g cap m : Nat} {ys : List Value} (h : W.ownsRow base e 1 (.slice (some ⟨g, 0, none⟩) m cap) m ys) {o : Nat} (ho : m ≤ o) (v : Value) : (W.setCell ⟨g, o, none⟩ v).ownsRow base e 1 (.slice (some ⟨g, 0, none⟩) m cap) m ys := by
  refine ⟨h.1, ?_⟩
  rcases h.2 with ⟨e', _⟩ | ⟨g', c, cur, e', h1, h2, h3, h4, h5, h6⟩
  · cases e'
  · simp only [Value.slice.injEq, Option.some.injEq, Addr.mk.injEq, and_true, true_and] at e'
    obtain ⟨rfl, rfl⟩ := e'
    refine .inr ⟨g, cap, cur.setIfInBounds o v, rfl, h1, ?_, h3, h4, by simpa using h5, ?_⟩
    · simp [World.setCell, Array.getElem?_modify, h2]
    · rw [← h6, Array.toList_setIfInBounds, List.take_set_of_le (by omega)]
theorem ownsRow_aboves {base : Nat} {e : TypeId} {g cap m : Nat} {ys : List Value} : ∀ (vs : List Value) (o : Nat) (W : World), m ≤ o → W.ownsRow base e 1 (.slice (some ⟨g, 0, none⟩) m cap) m ys → (W.setCells g o vs).ownsRow base e 1 (.slice (some ⟨g, 0, none⟩) m cap) m ys ∧ Kept1 g W (W.setCells g o vs)
  | [], _, W, _, h => ⟨h, Kept.refl _ W⟩
  | v :: vs, o, W, ho, h => by
    obtain ⟨h1, h2⟩ := ownsRow_aboves vs (o + 1) (W.setCell ⟨g, o, none⟩ v) (by omega) (ownsRow_above h ho v)
    exact ⟨h1, (Kept1.set (Kept.refl _ W) o v).trans h2⟩

theorem zeroStep (w : World) : (zeroValue 1).run Tryz.prog w = .ok .nilFunc w := by kernel_rfl
/-- The steps that were taken back are cleared. -/
theorem clear_back {W : World} {base bb cap n m off : Nat} {xs : List Value} (h : W.ownsRow base 1 1 (.slice (some ⟨bb, 0, none⟩) n cap) n xs) (hm : m ≤ n) (hoff : m < n → off = m) (ty : TypeId) :
    ∃ W', (Builtin.clear_ #[69] ty #[.slice (some ⟨bb, off, none⟩) (n - m) (cap - m)]).run Tryz.prog W = .ok (.tuple #[]) W' ∧ W'.ownsRow base 1 1 (.slice (some ⟨bb, 0, none⟩) m cap) m (xs.take m) ∧ Kept1 bb W W' := by
  have hc := ownsRow_cut h rfl hm
  rw [Nat.mul_one] at hc
  by_cases e : m < n
  · rw [hoff e]
    have hcell : ∀ j, j < n - m → (W.cell? ⟨bb, m + j, none⟩).isSome = true := fun j hj => by
      rw [h.cellAt (m + j) (by omega), List.getElem?_eq_getElem (by rw [h.1]; omega)]
      rfl
    have hr := Lib.run_clear_slice (P := Tryz.prog) W 69 1 ty .nilFunc Tryz.underlying69 zeroStep rfl rfl bb m (n - m) (cap - m) (by omega) hcell (fun j _ => h.frozenAt (m + j))
    obtain ⟨h1, h2⟩ := ownsRow_aboves (List.replicate (n - m) .nilFunc) m W (Nat.le_refl _) hc
    exact ⟨_, hr, h1, h2⟩
  · obtain rfl : m = n := by omega
    refine ⟨W, ?_, hc, Kept.refl _ W⟩
    simp [Builtin.clear_, run_underlying Tryz.underlying69]

/-- The row of steps is another, where it lay. -/
theorem Cz.reback {w w1 : World} {base : Nat} {l : List Tm} {z : Zs} (h : Cz w base l z) (K1 : Kept (fun k => z.bv.ownBlock = some k) w w1) (v' : Value) (ys : List Value) (hown : w1.ownsRow base 1 1 v' ys.length ys) (hv : v'.ownBlock = z.bv.ownBlock) :
    Cz (w1.setCell ⟨z.pk, 4, none⟩ v') base l { z with bv := v', bs := ys } ∧ Kept z.Foot w (w1.setCell ⟨z.pk, 4, none⟩ v') ∧ w1.cell? ⟨z.pk, 4, none⟩ = some z.bv ∧ w1.frozen? ⟨z.pk, 4, none⟩ = false := by
  have K2 : Kept (fun k => k = z.pk ∨ z.bv.ownBlock = some k) w (w1.setCell ⟨z.pk, 4, none⟩ v') := Kept.setCell (p := ⟨z.pk, 4, none⟩) (Kept.mono K1 (fun _ _ e => .inr e)) (.inl rfl) _
  have A := h.apart
  have hp : w1.rowIs z.pk 71 5 (clsC z l.length) := h.cls.of_block (K1.block _ h.cls.lt A.kb)
  have np := rowIs_type hp (by decide) hown
  obtain ⟨D, d1, d2, d3⟩ := h.known
  have hfoot : ∀ k, Zs.Foot { z with bv := v', bs := ys } k → z.Foot k := by
    rintro k (e | e | e | e | e)
    · exact .inl e
    · exact .inr (.inl e)
    · exact .inr (.inr (.inl e))
    · exact .inr (.inr (.inr (.inl e)))
    · exact .inr (.inr (.inr (.inr (hv ▸ e))))
  refine ⟨⟨(hp.set 4 v').congr ?_, h.sets.other K2 ?_ ?_ ?_, h.terms.of_block (K2.block _ h.terms.lt ?_), h.uses.of_block (K2.block _ h.uses.lt ?_), ⟨D, mapIs_block d1 (K2.block _ (World.ownsMap.lt d1) ?_), d2, d3⟩, ?_, ?_, ?_, h.argsAt, h.usesAt, h.bd, h.oks, h.len, h.bp, h.bt, h.bu, h.bm⟩, ?_, hp.cell (i := 4) (by omega), hp.frozen 4⟩
  · intro i hi
    rcases (by omega : i = 0 ∨ i = 1 ∨ i = 2 ∨ i = 3 ∨ i = 4) with rfl | rfl | rfl | rfl | rfl <;> simp [clsC]
  · rintro (e | e)
    · exact A.kp e.symm
    · exact A.pb e
  · rintro (e | e)
    · exact A.kn e.symm
    · exact A.nb e
  · rintro k hk (e | e)
    · exact A.kj (by rw [hk, e])
    · exact A.jb k hk e
  · rintro (e | e)
    · exact A.kt e.symm
    · exact A.bt e
  · rintro (e | e)
    · exact A.ku e.symm
    · exact A.ub e
  · rintro (e | e)
    · exact A.km e.symm
    · exact A.mb e
  · exact ownsRow_setCell_other hown np _
  · intro x hx
    refine (K2.block x.1 (h.st_lt hx) ?_).trans (h.sat x hx)
    rintro (e | e)
    · exact (h.far x hx).2 (.inl e)
    · exact (h.far x hx).2 (.inr (.inr (.inr (.inr e))))
  · intro x hx
    refine ⟨(h.far x hx).1, fun hk => ?_⟩
    exact (h.far x hx).2 (hfoot _ hk)
  · refine Kept.mono K2 ?_
    rintro k _ (e | e)
    · exact .inl e
    · exact .inr (.inr (.inr (.inr e)))

theorem Chain.eq_of_len {l : List Tm} {a b : Zs} (h : Chain l a b) (hl : b.bs.length = a.bs.length) : b = a := by
  by_cases e : a.bs.length < b.bs.length
  · omega
  · cases h with
    | refl => rfl
    | @like b n s bc bx v hc h1 h2 =>
      obtain ⟨r, hr⟩ := hc.bs
      have : (likeZ b n s bc bx v).bs.length = b.bs.length + 1 := by show (b.bs ++ [_]).length = _; simp
      rw [hr, List.length_append] at this
      omega
    | @join b low high bc bm bo bl jv st2 v bv hc h1 h2 h3 =>
      obtain ⟨r, hr⟩ := hc.bs
      have : (joinZ l b low high bc bm bo bl jv st2 v bv).bs.length = b.bs.length + 1 := by show (b.bs ++ [_]).length = _; simp
      rw [hr, List.length_append] at this
      omega
theorem StepOf.form {l : List Tm} {z : Zs} {f : Value} (h : StepOf l z f) : ∃ fn ca, f = .func fn #[] ca := by
  cases h with
  | del bc bx s => exact ⟨_, _, rfl⟩
  | undo bc bm bo bl => exact ⟨_, _, rfl⟩

set_option maxRecDepth 100000 in
set_option maxHeartbeats 2000000 in
theorem takeBack_in (w : World) (base : Nat) (l : List Tm) (z z0 : Zs) (h : Cz w base l z) (hc : Chain l z0 z) (hbs : z.bs.length ≤ 100000) (bb cap : Nat) (hbv : z.bv = .slice (some ⟨bb, 0, none⟩) z.bs.length cap) :
    CallsIn .wide 6 Tryz.prog 249 #[.pointer (some ⟨z.pk, 0, none⟩), .int .i64 (z0.bs.length : Int)] w fun e w' => e = .returned (.tuple #[]) ∧ ∃ jv, jv.ownBlock = z.jv.ownBlock ∧ Cz w' base l { z.with z0 jv with bv := .slice (some ⟨bb, 0, none⟩) z0.bs.length cap, bs := z0.bs } ∧ Kept z.Foot w w' := by
  have hml : z0.bs.length ≤ z.bs.length := by obtain ⟨r, hr⟩ := hc.bs; rw [hr]; simp
  generalize hm : z0.bs.length = m at *
  have k4 := h.k4
  rw [hbv] at k4
  have hcap : z.bs.length ≤ cap ∧ cap ≤ maxLen := by
    have hb := h.back
    rw [hbv] at hb
    rcases hb.2 with ⟨e, _⟩ | ⟨b, c, cur, e, _, _, h1, h2, _⟩
    · cases e
    · simp only [Value.slice.injEq] at e
      obtain ⟨_, _, rfl⟩ := e
      exact ⟨h1, h2⟩
  unfold maxLen at hcap
  obtain ⟨hc1, hc2⟩ := hcap
  obtain ⟨off, hoff, hsl⟩ : ∃ off, (m < z.bs.length → off = m) ∧ ∀ W, (Instr.slice 69 (.slice (some ⟨bb, 0, none⟩) z.bs.length cap) (some (.int .i64 (m : Int))) none none).run Tryz.prog W = .ok (.slice (some ⟨bb, off, none⟩) (z.bs.length - m) (cap - m)) W := by
    refine ⟨if cap = m then 0 else m, fun hlt => if_neg (by omega), fun W => ?_⟩
    have hsz : (sizeOf 1).run Tryz.prog W = .ok 1 W := by
      obtain ⟨i0, hi0, _, hz1, _⟩ := info_parts infoStepC
      simp [sizeOf, typeInfo, hi0, hz1]
    rw [run_slice_l W 69 _ _ _ (by kernel_rfl) .i64 (m : Int) (by omega) (by omega)]
    rw [show Tryz.prog.elem 69 = 1 from by kernel_rfl, hsz]
    simp only [Result.andThen, sliced, Int.toNat_natCast]
    by_cases e : cap = m
    · simp [e]
    · simp [e, Addr.add]
      exact fun h => h.symm
  have Hoff : Hid (m < z.bs.length → off = m) := hoff
  have HM : Hid (z0.bs.length = m) := hm
  clear hoff hm
  refine callsIn_of_wp_marks Tryz.func249 rfl trivial ?_ rfl
  simp only [Tryz.ntmps249, List.size_toArray, List.length_cons, List.length_nil, Nat.reduceAdd, Nat.reduceSub, Array.replicate_succ, Array.replicate_zero, List.push_toArray, List.append_toArray, List.nil_append, List.cons_append]
  gi_wp2_with fail
  refine ⟨trivial, (kBw_in .wide _ trivial rfl _ _ _ _).mono ?_⟩
  rintro e w' ⟨rfl, rfl⟩
  gi_wp2_with fail
  have K2 : Kept0 w (w.alloc (.cells #[.slice (some ⟨bb, off, none⟩) (z.bs.length - m) (cap - m)] 69)) := (Kept.refl _ w).alloc _
  have S2 : (w.alloc (.cells #[.slice (some ⟨bb, off, none⟩) (z.bs.length - m) (cap - m)] 69)).cell? ⟨w.heap.size, 0, none⟩ = some (.slice (some ⟨bb, off, none⟩) (z.bs.length - m) (cap - m)) := (made_row w #[.slice (some ⟨bb, off, none⟩) (z.bs.length - m) (cap - m)] 69).cell (i := 0) (by simp)
  have Z2 : (w.alloc (.cells #[.slice (some ⟨bb, off, none⟩) (z.bs.length - m) (cap - m)] 69)).heap.size = w.heap.size + 1 := by simp
  generalize (w.alloc (.cells #[.slice (some ⟨bb, off, none⟩) (z.bs.length - m) (cap - m)] 69)) = W0 at *
  have H0 := h.kept0 K2
  have hbl : bb < w.heap.size := (h.back.lt bb (by rw [hbv]; rfl)).2
  have nWb : ¬ z.Wr bb := fun e => e.2 (by rw [hbv]; rfl)
  have nWw : ¬ z.Wr w.heap.size := fun e => Nat.lt_irrefl _ (h.foot_lt e.1)
  have hst : ∀ j, j < z.bs.length - m → StepOf l z (z.bs[m + j]?.getD undef) := fun j hj => by
    have hlt : m + j < z.bs.length := by omega
    rw [List.getElem?_eq_getElem hlt]
    refine hc.steps _ ?_
    rw [HM.out]
    exact List.mem_drop_iff_getElem.2 ⟨j, by omega, by simp⟩
  have hSA : StepsAt W0.heap.size z.Wr W0 (.slice (some ⟨bb, off, none⟩) (z.bs.length - m) (cap - m)) (z.bs.length - m) (fun j => z.bs[m + j]?.getD undef) := by
    refine .inr ⟨bb, off, _, rfl, by omega, nWb, fun j hj => (hst j hj).form, fun j hj => ?_⟩
    rw [Hoff.out (by omega)]
    have hb := H0.back
    rw [hbv] at hb
    have := hb.cellAt (m + j) (by omega)
    rw [this]
    simp [List.getElem?_eq_getElem (show m + j < z.bs.length by omega)]
  refine wpIn_rangeFunc_ownH rfl (by omega) (gf := 258) (lb := #[.pointer (some ⟨w.heap.size, 0, none⟩)]) rfl trivial (enters_of Tryz.func258 (by kernel_rfl) rfl)
    (kBw_stops .wide 5 trivial rfl (by omega) w.heap.size W0.heap.size z.Wr _ (z.bs.length - m) (fun j => z.bs[m + j]?.getD undef) (by omega) W0 (by omega) nWw (Nat.le_refl _) S2 hSA)
    (fun a b => a.trans (b.mono fun k _ hk => hk)) (keptS_b (Nat.le_refl _)) (Below.refl _ _) (fun _ => rfl)
    (MidK W0 base l z z0 (z.bs.length - m)) (fun _ _ _ => False) (midK_own W0 base l z z0 (z.bs.length - m) H0) (fun _ _ _ _ _ hs _ _ => hs)
    ?start (fun x a' W => ∃ v13 v14 v15 v16, a' = { tmps := #[.pointer (some ⟨z.pk, 0, none⟩), .int .i64 m, undef, undef, undef, z.bs[m + x.1]?.getD undef, .pointer (some ⟨z.pk, 0, none⟩), .pointer (some ⟨z.pk, 0, none⟩), .pointer (some ⟨z.pk, 4, none⟩), .slice (some ⟨bb, 0, none⟩) z.bs.length cap, .int .i64 m, .slice (some ⟨bb, off, none⟩) (z.bs.length - m) (cap - m), .func (.func 258) #[] #[.pointer (some ⟨w.heap.size, 0, none⟩)], v13, v14, v15, v16, undef, undef, undef, undef, undef, undef, undef, undef, undef, undef, undef, undef, undef, undef, undef], defers := [] }) ?hAx ?assign ?body ?done ?stop
  case start => exact ⟨⟨z, z.jv, rfl, H0, fun _ => ⟨z, hc, .refl z, by simp, rfl, rfl, rfl, rfl, rfl, rfl⟩⟩, Kept.refl _ _⟩
  case hAx =>
    rintro x a' _ A B row ⟨v13, v14, v15, v16, rfl⟩ hg hr
    exact ⟨v13, v14, v15, v16, rfl⟩
  case assign =>
    rintro lx pre x W K hM hK
    simp only [encK]
    gi_wp2
    exact hK _ _ (KeepsFrom.refl _ _) (Kept.refl _ _) hM ⟨_, _, _, _, rfl⟩
  case body =>
    rintro lx pre x a' W hl _ hM ⟨v13, v14, v15, v16, rfl⟩ hlt
    obtain ⟨y, jv, h1, C, h3⟩ := hM.st
    obtain ⟨fn, ca, hf, hsh, CALL⟩ := step_call (z0 := z0) h1 C (hst x.1 x.2)
    rw [hf]
    have FIN : ∀ W' y' jv', jv'.ownBlock = z.jv.ownBlock → Cz W' base l (z.with y' jv') → Kept z.Wr W W' → (∀ zk, Chain l zk z → Chain l z0 zk → z0.bs.length < zk.bs.length → z.bs[zk.bs.length - 1]? = some (.func (.func fn) #[] ca) → y.uv = zk.uv → y.g = zk.g → y.t = zk.t → y.us = zk.us → y.kn = zk.kn → y.ms = zk.ms → ∃ b, Chain l z0 b ∧ Chain l b z ∧ b.bs.length + 1 = zk.bs.length ∧ y'.uv = b.uv ∧ y'.g = b.g ∧ y'.t = b.t ∧ y'.us = b.us ∧ y'.kn = b.kn ∧ y'.ms = b.ms) →
        KeepsFrom W0.heap.size W W' ∧ KeptS z.Wr W0.heap.size W W' ∧ MidK W0 base l z z0 (z.bs.length - m) (pre ++ [x]) W' := fun W' y' jv' hj' C' K' hright => by
      have KS : KeptS z.Wr W0.heap.size W W' := Kept.mono K' (fun k _ e => Or.inl e)
      refine ⟨⟨K'.size, fun i o hB hi ho => ?_⟩, KS, ⟨⟨y', jv', hj', C', fun hd => ?_⟩, hM.kept.trans KS⟩⟩
      · have hlt : i < W.heap.size := (Array.getElem?_eq_some_iff.1 hi).1
        rw [K'.block i hlt (fun e => by have := H0.foot_lt e.1; omega)]
        exact hi
      · have hpre : Down (z.bs.length - m) pre := by
          intro r hr
          have := hd r (by simp; omega)
          rwa [List.getElem_append_left hr] at this
        have hxr : x.1 + pre.length + 1 = z.bs.length - m := by simpa using hd pre.length (by simp)
        obtain ⟨zk, c1, c2, c3, e1, e2, e3, e4, e5, e6⟩ := h3 hpre
        have hmm := HM.out
        have hidx : z.bs[zk.bs.length - 1]? = some (.func (.func fn) #[] ca) := by
          have hx1 : zk.bs.length - 1 = m + x.1 := by omega
          rw [hx1, List.getElem?_eq_getElem (by omega)]
          rw [List.getElem?_eq_getElem (by omega)] at hf
          simpa using hf
        obtain ⟨b, b1, b2, b3, f1, f2, f3, f4, f5, f6⟩ := hright zk c2 c1 (by omega) hidx e1 e2 e3 e4 e5 e6
        exact ⟨b, b1, b2, by simp; omega, f1, f2, f3, f4, f5, f6⟩
    rcases hsh with ⟨rfl, p1, p2, rfl⟩ | ⟨rfl, p1, p2, p3, p4, rfl⟩
    · clear h3 C hM H0 h hc hst hSA
      gi_wp2_with fail
      refine ⟨trivial, (CallsIn.inRound lx (callsIn_wide.2 CALL)).mono ?_⟩
      rintro e W' ⟨rfl, y', jv', hj', C', K', hright⟩
      gi_wp2
      rw [hf] at hright
      exact FIN W' y' jv' hj' C' K' hright
    · clear h3 C hM H0 h hc hst hSA
      gi_wp2_with fail
      refine ⟨trivial, (CallsIn.inRound lx (callsIn_wide.2 CALL)).mono ?_⟩
      rintro e W' ⟨rfl, y', jv', hj', C', K', hright⟩
      gi_wp2
      rw [hf] at hright
      exact FIN W' y' jv' hj' C' K' hright
  case done =>
    rintro D ys W hD ⟨hd, hlen⟩ hM hK
    obtain ⟨y, jv, h1, C, h3⟩ := hM.st
    obtain ⟨zk, c1, c2, c3, e1, e2, e3, e4, e5, e6⟩ := h3 hd
    have hmm := HM.out
    obtain rfl : zk = z0 := c1.eq_of_len (by omega)
    have CW : Cz W base l (z.with zk jv) := by
      have e : z.with y jv = z.with zk jv := by unfold Zs.with; rw [e1, e2, e3, e4, e5, e6]
      rw [← e]
      exact C
    have hbv2 : (z.with zk jv).bv = .slice (some ⟨bb, 0, none⟩) z.bs.length cap := hbv
    have hbk := CW.back
    rw [hbv2] at hbk
    obtain ⟨W1, hr1, O1, K1⟩ := clear_back (hbk : W.ownsRow base 1 1 (.slice (some ⟨bb, 0, none⟩) z.bs.length cap) z.bs.length z.bs) hml Hoff.out 0
    have htk : z.bs.take m = zk.bs := by
      obtain ⟨r, hr⟩ := hc.bs
      rw [hr, ← hmm, List.take_left]
    have O1' : W1.ownsRow base 1 1 (.slice (some ⟨bb, 0, none⟩) m cap) zk.bs.length zk.bs := by
      have O2 : W1.ownsRow base 1 1 (.slice (some ⟨bb, 0, none⟩) m cap) m (z.bs.take m) := O1
      rw [htk] at O2
      rw [hmm]
      exact O2
    have K1' : Kept (fun k => (z.with zk jv).bv.ownBlock = some k) W W1 := Kept.mono K1 (fun k _ e => by rw [hbv2, e]; rfl)
    obtain ⟨C2, K3, c4, f4⟩ := CW.reback K1' (.slice (some ⟨bb, 0, none⟩) m cap) zk.bs O1' (by rw [hbv2]; rfl)
    rw [hbv2] at c4
    have c4' : W1.cell? ⟨z.pk, 4, none⟩ = some (.slice (some ⟨bb, 0, none⟩) z.bs.length cap) := c4
    have f4' : W1.frozen? ⟨z.pk, 4, none⟩ = false := f4
    have k4 := CW.k4
    rw [hbv2] at k4
    have k4' : W.cell? ⟨z.pk, 4, none⟩ = some (.slice (some ⟨bb, 0, none⟩) z.bs.length cap) := k4
    have hDW : D < W.heap.size := (Array.getElem?_eq_some_iff.1 hK).1
    have hpl := h.cls.lt
    have hKD : (W1.setCell ⟨z.pk, 4, none⟩ (.slice (some ⟨bb, 0, none⟩) m cap)).heap[D]? = W.heap[D]? := (Below.heap_setCell _ _ _ _ (show D ≠ z.pk by omega)).trans (K1.block D hDW (show ¬ D = bb by omega))
    have hmc : (m : Int) ≤ (cap : Int) := by omega
    have hall : ∀ k, Zs.All { z.with zk jv with bv := .slice (some ⟨bb, 0, none⟩) m cap, bs := zk.bs } k → k < w.heap.size := fun k hk => by
      refine h.all_lt (with_all (y := zk) h1 ?_)
      rcases hk with (e | e | e | e | e) | e | e
      · exact .inl (.inl e)
      · exact .inl (.inr (.inl e))
      · exact .inl (.inr (.inr (.inl e)))
      · exact .inl (.inr (.inr (.inr (.inl e))))
      · exact .inl (.inr (.inr (.inr (.inr (by rw [hbv2]; exact e)))))
      · exact .inr (.inl e)
      · exact .inr (.inr e)
    have ALL : Hid (_ ∧ _ ∧ _ ∧ _ ∧ _ ∧ _) := ⟨h1, C2, K3, hM.kept, hKD, hall⟩
    clear k4 h3 C CW hbk O1 O1' K1 K1' C2 K3 c4 f4 hM hKD hSA hst H0 hc c1 c2 htk h hall
    gi_wp2_with fail
    obtain ⟨h1', C2, K3, hMk, hKD, hall⟩ := ALL.out
    have hK' := hKD.trans hK
    have hG := grownBy_putObj' (W1.setCell ⟨z.pk, 4, none⟩ (.slice (some ⟨bb, 0, none⟩) m cap)) D (.deferred none)
    have KP : Kept (fun k => k = D) (W1.setCell ⟨z.pk, 4, none⟩ (.slice (some ⟨bb, 0, none⟩) m cap)) ((W1.setCell ⟨z.pk, 4, none⟩ (.slice (some ⟨bb, 0, none⟩) m cap)).putObj D (.deferred none)) := (Kept.refl _ _).grown hG (fun k e => by cases e; rfl)
    refine ⟨by simp, .inl ⟨_, _, rfl, run_takeDeferred (w := W1.setCell ⟨z.pk, 4, none⟩ (.slice (some ⟨bb, 0, none⟩) m cap)) hK', ?_⟩⟩
    have KA : Kept z.Foot w W := (Kept.mono K2 (fun _ _ e => e.elim)).into hMk (fun k e => e.elim (fun x => .inl x.1) (fun x => .inr (by omega)))
    have KB := (KA.into K3 (fun k e => .inl (with_foot h1' e))).into KP (fun k e => .inr (by omega))
    exact ⟨_, results_none rfl _ _ _, rfl, jv, h1', C2.keep KP (fun k hk e => by have := hall k hk; omega), KB⟩
  case stop =>
    rintro D c pre W _ _ h _
    exact h.elim

end Go.Proofs.YtlehlgipbhfioaaGreat

namespace Go.Proofs.YtlehlgipbhfioaaGreat
open Go.RowKit Go.Shelf
attribute [local go_sem] Oper.semAt_some

theorem clear_nil (W : World) : (Builtin.clear_ #[69] 0 #[.slice none 0 0]).run Tryz.prog W = .ok (.tuple #[]) W := by
  simp [Builtin.clear_]

set_option maxRecDepth 100000 in
set_option maxHeartbeats 4000000 in
theorem takeBack_nil (w : World) (base : Nat) (l : List Tm) (z : Zs) (h : Cz w base l z) (hbv : z.bv = .slice none 0 0) :
    CallsIn .wide 6 Tryz.prog 249 #[.pointer (some ⟨z.pk, 0, none⟩), .int .i64 0] w fun e w' => e = .returned (.tuple #[]) ∧ ∃ jv, jv.ownBlock = z.jv.ownBlock ∧ Cz w' base l { z.with z jv with bv := .slice none 0 0, bs := z.bs } ∧ Kept z.Foot w w' := by
  have hbs : z.bs = [] := by
    have hb := h.back
    rw [hbv] at hb
    rcases hb.2 with hh | ⟨b, c, cur, hh, _⟩
    · exact List.length_eq_zero_iff.1 hh.2
    · exact absurd (Value.slice.inj hh).1 (by simp)
  have k4 := h.k4
  rw [hbv] at k4
  refine callsIn_of_wp_marks Tryz.func249 rfl trivial ?_ rfl
  simp only [Tryz.ntmps249, List.size_toArray, List.length_cons, List.length_nil, Nat.reduceAdd, Nat.reduceSub, Array.replicate_succ, Array.replicate_zero, List.push_toArray, List.append_toArray, List.nil_append, List.cons_append]
  gi_wp2_with fail
  refine ⟨trivial, (kBw_in .wide _ trivial rfl _ _ _ _).mono ?_⟩
  rintro e w' ⟨rfl, rfl⟩
  gi_wp2_with fail
  have K2 : Kept0 w (w.alloc (.cells #[.slice none 0 0] 69)) := (Kept.refl _ w).alloc _
  have S2 : (w.alloc (.cells #[.slice none 0 0] 69)).cell? ⟨w.heap.size, 0, none⟩ = some (.slice none 0 0) := (made_row w #[.slice none 0 0] 69).cell (i := 0) (by simp)
  have Z2 : (w.alloc (.cells #[.slice none 0 0] 69)).heap.size = w.heap.size + 1 := by simp
  generalize (w.alloc (.cells #[.slice none 0 0] 69)) = W0 at *
  have H0 := h.kept0 K2
  have nWw : ¬ z.Wr w.heap.size := fun e => Nat.lt_irrefl _ (h.foot_lt e.1)
  have hSA : StepsAt W0.heap.size z.Wr W0 (.slice none 0 0) 0 (fun _ => undef) := .inl ⟨rfl, rfl⟩
  refine wpIn_rangeFunc_ownH rfl (by omega) (gf := 258) (lb := #[.pointer (some ⟨w.heap.size, 0, none⟩)]) rfl trivial (enters_of Tryz.func258 (by kernel_rfl) rfl)
    (kBw_stops .wide 5 trivial rfl (by omega) w.heap.size W0.heap.size z.Wr _ 0 (fun _ => undef) (by omega) W0 (by omega) nWw (Nat.le_refl _) S2 hSA)
    (fun a b => a.trans (b.mono fun k _ hk => hk)) (keptS_b (Nat.le_refl _)) (Below.refl _ _) (fun _ => rfl)
    (MidK W0 base l z z 0) (fun _ _ _ => False) (midK_own W0 base l z z 0 H0) (fun _ _ _ _ _ hs _ _ => hs)
    ?start (fun x a' W => False) ?hAx ?assign ?body ?done ?stop
  case start => exact ⟨⟨z, z.jv, rfl, H0, fun _ => ⟨z, .refl z, .refl z, by simp, rfl, rfl, rfl, rfl, rfl, rfl⟩⟩, Kept.refl _ _⟩
  case hAx =>
    rintro x _ _ _ _ _ hf _ _
    exact hf.elim
  case assign =>
    rintro lx pre x W K hM hK
    exact absurd x.2 (Nat.not_lt_zero _)
  case body =>
    rintro lx pre x a' W hl _ hM hf hlt
    exact hf.elim
  case done =>
    rintro D ys W hD ⟨hd, hlen⟩ hM hK
    obtain ⟨y, jv, h1, C, h3⟩ := hM.st
    obtain ⟨zk, c1, c2, c3, e1, e2, e3, e4, e5, e6⟩ := h3 hd
    have hzk : z = zk := c2.eq_of_len (by have := c2.bs; obtain ⟨r, hr⟩ := this; rw [hbs] at hr; have := congrArg List.length hr; simp at this; rw [hbs]; simp; omega)
    subst hzk
    have CW : Cz W base l (z.with z jv) := by
      have e : z.with y jv = z.with z jv := by unfold Zs.with; rw [e1, e2, e3, e4, e5, e6]
      rw [← e]
      exact C
    obtain ⟨C2, K3, c4, f4⟩ := CW.reback (Kept.refl _ W) (.slice none 0 0) z.bs (by rw [hbs]; exact World.ownsRow_nil _ _ _ _) (by show none = z.bv.ownBlock; rw [hbv]; rfl)
    have ejv : z.with z jv = { z with jv := jv } := rfl
    have c4' : W.cell? ⟨z.pk, 4, none⟩ = some (.slice none 0 0) := c4.trans (congrArg some hbv)
    have f4' : W.frozen? ⟨z.pk, 4, none⟩ = false := f4
    have hDW : D < W.heap.size := (Array.getElem?_eq_some_iff.1 hK).1
    have hpl := h.cls.lt
    have hKD : (W.setCell ⟨z.pk, 4, none⟩ (.slice none 0 0)).heap[D]? = W.heap[D]? := Below.heap_setCell _ _ _ _ (show D ≠ z.pk by omega)
    have ALL : Hid (_ ∧ _ ∧ _ ∧ _ ∧ _) := ⟨h1, C2, K3, hM.kept, hKD⟩
    have hr1 : (Builtin.clear_ #[69] 0 #[.slice none 0 0]).run Tryz.prog W = .ok (.tuple #[]) W := clear_nil W
    have HH : Hid (Cz w base l z) := h
    clear h3 C CW C2 K3 c4 f4 hM hKD hSA H0 c1 c2 h k4
    gi_wp2_with fail
    obtain ⟨h1', C2, K3, hMk, hKD⟩ := ALL.out
    have hK' := hKD.trans hK
    have hG := grownBy_putObj' (W.setCell ⟨z.pk, 4, none⟩ (.slice none 0 0)) D (.deferred none)
    have KP : Kept (fun k => k = D) (W.setCell ⟨z.pk, 4, none⟩ (.slice none 0 0)) ((W.setCell ⟨z.pk, 4, none⟩ (.slice none 0 0)).putObj D (.deferred none)) := (Kept.refl _ _).grown hG (fun k e => by cases e; rfl)
    refine ⟨by simp, .inl ⟨_, _, rfl, run_takeDeferred (w := W.setCell ⟨z.pk, 4, none⟩ (.slice none 0 0)) hK', ?_⟩⟩
    have KA : Kept z.Foot w W := (Kept.mono K2 (fun _ _ e => e.elim)).into hMk (fun k e => e.elim (fun x => .inl x.1) (fun x => .inr (by omega)))
    have KB := (KA.into K3 (fun k e => .inl (with_foot h1' e))).into KP (fun k e => .inr (by omega))
    have hall : ∀ k, Zs.All { z.with z jv with bv := .slice none 0 0, bs := z.bs } k → k < w.heap.size := fun k hk => by
      refine HH.out.all_lt (with_all (y := z) h1' ?_)
      rcases hk with (e | e | e | e | e) | e | e
      · exact .inl (.inl e)
      · exact .inl (.inr (.inl e))
      · exact .inl (.inr (.inr (.inl e)))
      · exact .inl (.inr (.inr (.inr (.inl e))))
      · exact absurd e (by simp [Value.ownBlock])
      · exact .inr (.inl e)
      · exact .inr (.inr e)
    exact ⟨_, results_none rfl _ _ _, rfl, jv, h1', C2.keep KP (fun k hk e => by have := hall k hk; omega), KB⟩
  case stop =>
    rintro D c pre W _ _ h _
    exact h.elim

/-- takeBack: any row of steps. -/
theorem takeBack_all (w : World) (base : Nat) (l : List Tm) (z z0 : Zs) (h : Cz w base l z) (hc : Chain l z0 z) (hbs : z.bs.length ≤ 100000) :
    CallsIn .wide 6 Tryz.prog 249 #[.pointer (some ⟨z.pk, 0, none⟩), .int .i64 (z0.bs.length : Int)] w fun e w' => e = .returned (.tuple #[]) ∧ ∃ jv bv, jv.ownBlock = z.jv.ownBlock ∧ bv.ownBlock = z.bv.ownBlock ∧ Cz w' base l { z.with z0 jv with bv := bv, bs := z0.bs } ∧ Kept z.Foot w w' := by
  rcases h.back.2 with hh | ⟨bb, cap, cur, hh, _⟩
  · have e0 : z.bs = [] := List.length_eq_zero_iff.1 hh.2
    have e1 : z0.bs = [] := by
      obtain ⟨r, hr⟩ := hc.bs
      rw [e0] at hr
      exact (List.append_eq_nil_iff.1 hr.symm).1
    have hz : z = z0 := hc.eq_of_len (by rw [e0, e1])
    subst hz
    rw [e0]
    refine (takeBack_nil w base l z h hh.1).mono ?_
    rintro e w' ⟨rfl, jv, h1, C, K⟩
    rw [e0] at C
    exact ⟨rfl, jv, _, h1, by rw [hh.1], C, K⟩
  · refine (takeBack_in w base l z z0 h hc hbs bb cap hh).mono ?_
    rintro e w' ⟨rfl, jv, h1, C, K⟩
    exact ⟨rfl, jv, _, h1, by rw [hh]; rfl, C, K⟩

end Go.Proofs.YtlehlgipbhfioaaGreat

namespace Go.Proofs.YtlehlgipbhfioaaGreat
open Go.RowKit

def Zs.re (z : Zs) (jv bv : Value) : Zs := { z with jv := jv, bv := bv }

/-- Where the rows of joins and of steps lie does not matter. -/
theorem Chain.re {l : List Tm} {a b : Zs} (h : Chain l a b) : ∀ jv bv, ∃ ja ba, Chain l (a.re ja ba) (b.re jv bv) := by
  induction h with
  | refl => exact fun jv bv => ⟨jv, bv, .refl _⟩
  | @like b n s bc bx v hc h1 h2 ih =>
    intro jv bv
    obtain ⟨ja, ba, hh⟩ := ih jv bv
    exact ⟨ja, ba, Chain.like n s bc bx bv hh h1 h2⟩
  | @join b low high bc bm bo bl j' st2 v bv' hc h1 h2 h3 ih =>
    intro jv bv
    obtain ⟨ja, ba, hh⟩ := ih jv bv
    exact ⟨ja, ba, Chain.join low high bc bm bo bl jv st2 v bv hh h1 h2 h3⟩

/-- What a state says between two calls. -/
structure GoodZ (l : List Tm) (z : Zs) (P : List (Nat × Nat)) : Prop where
  inv : Cc.Inv l P z.g.lo z.us z.kn [] []
  ms : z.ms ≤ l.length + z.t.length * (4 * l.length)
  bs : z.bs.length ≤ z.t.length * (4 * l.length + 1)
  argsAt : ∀ (i : Nat) (t : Tm), l[i]? = some t → UseIs z.st (z.av i) t.args
  usesAt : ∀ i, i < l.length → UseIs z.st (z.uv i) (z.us i)

theorem GoodZ.re {l : List Tm} {z : Zs} {P : List (Nat × Nat)} (h : GoodZ l z P) (jv bv : Value) : GoodZ l (z.re jv bv) P := ⟨h.inv, h.ms, h.bs, h.argsAt, h.usesAt⟩
theorem Un.good {w : World} {base : Nat} {l : List Tm} {z : Zs} {P : List (Nat × Nat)} (h : Un w base l z P [] []) : GoodZ l z P :=
  ⟨h.inv, by simpa using h.ms, by simpa using h.bs, h.cz.argsAt, h.cz.usesAt⟩

/-- The states that a closure came by, a mark for each pair that it was told. -/
inductive Past (l : List Tm) : Zs → List (Nat × Nat) → List Nat → Prop
  | start (z : Zs) : GoodZ l z [] → Past l z [] []
  | tell {z0 z : Zs} {P : List (Nat × Nat)} {told : List Nat} (ab : Nat × Nat) : Past l z0 P told → Chain l z0 z → GoodZ l z (P ++ [ab]) → Past l z (P ++ [ab]) (told ++ [z0.bs.length])

theorem Past.good {l : List Tm} {z : Zs} {P : List (Nat × Nat)} {told : List Nat} : Past l z P told → GoodZ l z P
  | .start _ h => h
  | .tell _ _ _ h => h
theorem Past.num {l : List Tm} {z : Zs} {P : List (Nat × Nat)} {told : List Nat} (h : Past l z P told) : told.length = P.length := by
  induction h with
  | start => rfl
  | tell ab _ _ _ ih => simp [ih]
theorem Past.re {l : List Tm} {z : Zs} {P : List (Nat × Nat)} {told : List Nat} (h : Past l z P told) : ∀ jv bv, Past l (z.re jv bv) P told := by
  induction h with
  | start z h => exact fun jv bv => .start _ (h.re jv bv)
  | @tell z0 z P told ab hp hc hg ih =>
    intro jv bv
    obtain ⟨ja, ba, hh⟩ := hc.re jv bv
    exact Past.tell (z0 := z0.re ja ba) ab (ih ja ba) hh (hg.re jv bv)

/-- The state at a mark. -/
theorem Past.cut {l : List Tm} {z : Zs} {P : List (Nat × Nat)} {told : List Nat} (h : Past l z P told) : ∀ m, m < told.length → ∃ z0, Past l z0 (P.take m) (told.take m) ∧ Chain l z0 z ∧ told[m]? = some z0.bs.length := by
  induction h with
  | start => intro m hm; exact absurd hm (Nat.not_lt_zero _)
  | @tell z0 z P told ab hp hc hg ih =>
    intro m hm
    have hn := hp.num
    by_cases e : m < told.length
    · obtain ⟨y, h1, h2, h3⟩ := ih m e
      refine ⟨y, ?_, h2.trans hc, ?_⟩
      · rw [List.take_append_of_le_length (by omega), List.take_append_of_le_length (by omega)]
        exact h1
      · rw [List.getElem?_append_left e]
        exact h3
    · have em : m = told.length := by simp at hm; omega
      subst em
      refine ⟨z0, ?_, hc, by simp⟩
      rw [List.take_left, hn, List.take_left]
      exact hp

/-- A state that was come by before lies in memory again. -/
theorem Cz.past {w : World} {base : Nat} {l : List Tm} {z z0 : Zs} {jv bv : Value} (h : Cz w base l { z.with z0 jv with bv := bv, bs := z0.bs }) (hc : Chain l z0 z) {P : List (Nat × Nat)} (hg : GoodZ l z0 P) (hj : jv.ownBlock = z.jv.ownBlock) (hb : bv.ownBlock = z.bv.ownBlock) : Cz w base l (z0.re jv bv) := by
  obtain ⟨e1, e2, e3, e4, e5, e6, e7⟩ := hc.same
  have hst := hc.st
  obtain ⟨a1, a2, a3, a4, a5, a6, a7, a8, a9, a10, a11, a12, a13, a14, a15, a16, a17⟩ := h
  simp only [Zs.with] at a1 a2 a3 a4 a5 a6 a7 a8 a14 a15 a16 a17
  cases z0 with
  | mk pk ps nb tb ub mb jv0 bv0 av uv g t bs st us kn ms =>
  cases z with
  | mk pk' ps' nb' tb' ub' mb' jv0' bv0' av' uv' g' t' bs' st' us' kn' ms' =>
  simp only at e1 e2 e3 e4 e5 e6 e7
  subst e1 e2 e3 e4 e5 e6 e7
  exact ⟨a1, a2, a3, a4, a5, a6, fun x hx => a7 x (hst x hx), fun x hx => a8 x (hst x hx), hg.argsAt, hg.usesAt, a11, a12, a13, a14, a15, a16, a17⟩

theorem Cz.past_un {w : World} {base : Nat} {l : List Tm} {z z0 : Zs} {jv bv : Value} (h : Cz w base l { z.with z0 jv with bv := bv, bs := z0.bs }) (hc : Chain l z0 z) {P : List (Nat × Nat)} (hg : GoodZ l z0 P) (hj : jv.ownBlock = z.jv.ownBlock) (hb : bv.ownBlock = z.bv.ownBlock) (hl : base ≤ w.heap.size) : Un w base l (z0.re jv bv) P [] [] :=
  ⟨h.past hc hg hj hb, hg.inv, hg.ms, hg.bs, by simp, hl⟩

end Go.Proofs.YtlehlgipbhfioaaGreat

namespace Go.Proofs.YtlehlgipbhfioaaGreat
open Go.RowKit Go.Maps

/-- A closure, and how it came to be. -/
structure Cq (w : World) (base : Nat) (l : List Tm) (c : Ks) (P : List (Nat × Nat)) : Prop where
  cl : Cl w base l c P
  past : Past l c.z P c.told

theorem re_all {l : List Tm} {z z0 : Zs} {jv bv : Value} (hc : Chain l z0 z) (hj : jv.ownBlock = z.jv.ownBlock) (hb : bv.ownBlock = z.bv.ownBlock) {k : Nat} (h : (z0.re jv bv).All k) : z.All k := by
  obtain ⟨e1, e2, e3, e4, e5, e6, e7⟩ := hc.same
  rcases h with (e | (e | e | e) | e | e | e) | e | ⟨o, e⟩
  · exact .inl (.inl (by rw [e1]; exact e))
  · exact .inl (.inr (.inl (.inl (by rw [e2]; exact e))))
  · exact .inl (.inr (.inl (.inr (.inl (by rw [e3]; exact e)))))
  · exact .inl (.inr (.inl (.inr (.inr (by rw [← hj]; exact e)))))
  · exact .inl (.inr (.inr (.inl (by rw [e5]; exact e))))
  · exact .inl (.inr (.inr (.inr (.inl (by rw [e6]; exact e)))))
  · exact .inl (.inr (.inr (.inr (.inr (by rw [← hb]; exact e)))))
  · exact .inr (.inl (by rw [e4]; exact e))
  · exact .inr (.inr ⟨o, hc.st _ e⟩)

/-- Undo, behind takeBack. -/
theorem Cq.undone {w w1 : World} {base : Nat} {l : List Tm} {c : Ks} {P : List (Nat × Nat)} (h : Cq w base l c P) {m : Nat} (hm : m < P.length) {z0 : Zs} (hp : Past l z0 (P.take m) (c.told.take m)) (hc : Chain l z0 c.z) {jv bv : Value} (hj : jv.ownBlock = c.z.jv.ownBlock) (hb : bv.ownBlock = c.z.bv.ownBlock)
    (C : Cz w1 base l { c.z.with z0 jv with bv := bv, bs := z0.bs }) (K : Kept c.z.Foot w w1) {tb tc : Nat} (htv : c.tv = .slice (some ⟨tb, 0, none⟩) c.told.length tc) :
    w1.cell? ⟨c.pc, 0, none⟩ = some (.pointer (some ⟨c.z.pk, 0, none⟩)) ∧ w1.cell? ⟨c.pc, 1, none⟩ = some (.slice (some ⟨tb, 0, none⟩) c.told.length tc) ∧ w1.frozen? ⟨c.pc, 1, none⟩ = false ∧
    Cq (w1.setCell ⟨c.pc, 1, none⟩ (.slice (some ⟨tb, 0, none⟩) m tc)) base l ⟨c.pc, .slice (some ⟨tb, 0, none⟩) m tc, c.told.take m, z0.re jv bv⟩ (P.take m) ∧ Kept c.Foot w (w1.setCell ⟨c.pc, 1, none⟩ (.slice (some ⟨tb, 0, none⟩) m tc)) := by
  have H := h.cl
  have hn := H.num
  have hpc : ¬ c.z.Foot c.pc := fun e => H.farP (.inl e)
  have hR : w1.rowIs c.pc 62 2 (cloC c.z.pk c.tv) := H.clo.of_block (K.block _ H.clo.lt hpc)
  have hT := H.told
  rw [htv] at hT
  have htb : c.tv.ownBlock = some tb := by rw [htv]; rfl
  have hO : w1.ownsRow base 3 1 (.slice (some ⟨tb, 0, none⟩) m tc) m ((natC c.told).take (m * 1)) := ownsRow_cut hT (K.block tb (hT.lt tb rfl).2 (fun e => H.farT tb htb (.inl e))) (by omega)
  have np := rowIs_type hR (by decide) hO
  have hlen : (c.told.take m).length = m := by rw [List.length_take]; omega
  have K2 : Kept c.Foot w (w1.setCell ⟨c.pc, 1, none⟩ (.slice (some ⟨tb, 0, none⟩) m tc)) := Kept.setCell (p := ⟨c.pc, 1, none⟩) (Kept.mono K (fun _ _ e => .inr (.inr e))) (.inl rfl) _
  have K3 : Kept (fun k => k = c.pc) w1 (w1.setCell ⟨c.pc, 1, none⟩ (.slice (some ⟨tb, 0, none⟩) m tc)) := Kept.setCell (p := ⟨c.pc, 1, none⟩) (Kept.refl (fun k => k = c.pc) w1) rfl _
  have U := C.past_un hc hp.good hj hb (Nat.le_trans H.un.low K.size)
  have epk := hc.same.1
  refine ⟨hR.cell (i := 0) (by omega), by rw [← htv]; exact hR.cell (i := 1) (by omega), hR.frozen 1, ⟨⟨(hR.set 1 _).congr (fun i hi => ?_), ?_, U.keep K3 (fun k hk e => H.farP (e ▸ re_all hc hj hb hk)), fun e => H.farP (re_all hc hj hb e), fun k hk e => H.farT k ?_ (re_all hc hj hb e), H.bp, ?_⟩, hp.re jv bv⟩, K2⟩
  · rcases (by omega : i = 0 ∨ i = 1) with rfl | rfl
    · simp [cloC, Zs.re, epk]
    · simp [cloC]
  · show World.ownsRow _ base 3 1 (.slice (some ⟨tb, 0, none⟩) m tc) (c.told.take m).length (natC (c.told.take m))
    rw [hlen]
    have e : natC (c.told.take m) = (natC c.told).take (m * 1) := by simp [natC, List.map_take]
    rw [e]
    exact ownsRow_setCell_other hO np _
  · rw [htb]
    exact hk
  · show (c.told.take m).length = (P.take m).length
    simp [hn]

set_option maxHeartbeats 1000000 in
theorem kUndo_no (w : World) (base : Nat) (l : List Tm) (c : Ks) (P : List (Nat × Nat)) (h : Cl w base l c P) (m : Int) (hno : m < 0 ∨ (P.length : Int) < m) :
    Calls Tryz.prog 225 #[.pointer (some ⟨c.pc, 0, none⟩), .int .i64 m] w fun e w' => e = .returned (.bool false) ∧ w = w' := by
  have c1 := h.c1
  obtain ⟨ta, tc, htv⟩ := row_form' h.told
  rw [htv] at c1
  have hn := h.num
  rw [← hn] at hno
  clear h hn htv
  by_cases e : m < 0
  · clear hno
    go_enter Tryz.func225, Tryz.ntmps225
    go_wp2
    go_ret
    exact ⟨rfl, rfl⟩
  · have e2 : (c.told.length : Int) < m := by omega
    have e3 : 0 ≤ m := by omega
    clear hno
    go_enter Tryz.func225, Tryz.ntmps225
    go_wp2
    go_ret
    exact ⟨rfl, rfl⟩

set_option maxHeartbeats 1000000 in
theorem kUndo_all (w : World) (base : Nat) (l : List Tm) (c : Ks) (P : List (Nat × Nat)) (h : Cl w base l c P) :
    Calls Tryz.prog 225 #[.pointer (some ⟨c.pc, 0, none⟩), .int .i64 (P.length : Int)] w fun e w' => e = .returned (.bool true) ∧ w = w' := by
  have c1 := h.c1
  obtain ⟨ta, tc, htv⟩ := row_form' h.told
  rw [htv] at c1
  have hn := h.num
  rw [← hn]
  clear h hn htv
  go_enter Tryz.func225, Tryz.ntmps225
  go_wp2
  go_ret
  exact ⟨rfl, rfl⟩

set_option maxRecDepth 100000 in
set_option maxHeartbeats 2000000 in
theorem kUndo_yes (w : World) (base : Nat) (l : List Tm) (c : Ks) (P : List (Nat × Nat)) (h : Cq w base l c P) (m : Nat) (hm : m < P.length) :
    Calls Tryz.prog 225 #[.pointer (some ⟨c.pc, 0, none⟩), .int .i64 (m : Int)] w fun e w' => e = .returned (.bool true) ∧ ∃ c' : Ks, Cq w' base l c' (P.take m) ∧ Kept c.Foot w w' ∧ c'.pc = c.pc ∧ (∀ k, c'.All k → c.All k) := by
  have H := h.cl
  have hn := H.num
  obtain ⟨z0, hp, hc, ht⟩ := h.past.cut m (by omega)
  have c0 := H.c0
  have c1 := H.c1
  obtain ⟨tb, tc, cur, htv, _, _, hcap, hmax, _⟩ : ∃ g cap cur, c.tv = .slice (some ⟨g, 0, none⟩) c.told.length cap ∧ base ≤ g ∧ w.heap[g]? = some (.cells cur 3 (0, 0)) ∧ c.told.length ≤ cap ∧ cap ≤ maxLen ∧ cur.size = cap * 1 ∧ cur.toList.take (c.told.length * 1) = natC c.told := by
    rcases H.told.2 with hh | hh
    · have := hh.2; omega
    · exact hh
  have hT := H.told
  rw [htv] at hT
  have hx : w.cell? ⟨tb, m, none⟩ = some (.int .i64 (z0.bs.length : Int)) := by
    rw [hT.cellAt m (by omega)]
    simp [natC, ht]
  rw [htv] at c1
  have hbs : c.z.bs.length ≤ 100000 := by have h1 := H.un.bs; have := H.un.bound.2; simp only [List.length_nil] at h1; omega
  have KD : ∀ n, Kept0 w (w.drewN n) := fun n => (Kept.refl _ w).drewN n
  have TB := fun n => callsIn_wide.1 (takeBack_all (w.drewN n) base l c.z z0 (H.un.cz.kept0 (KD n)) hc hbs)
  have UNDONE := fun n w1 jv bv hj hb C K => (show Cq (w.drewN n) base l c P from ⟨H.kept0 (KD n), h.past⟩).undone (w1 := w1) hm hp hc (jv := jv) (bv := bv) hj hb C K htv
  have hmt : m < c.told.length := by omega
  have HALL : Hid (∀ jv bv : Value, jv.ownBlock = c.z.jv.ownBlock → bv.ownBlock = c.z.bv.ownBlock → ∀ k, (⟨c.pc, .slice (some ⟨tb, 0, none⟩) m tc, c.told.take m, z0.re jv bv⟩ : Ks).All k → c.All k) := fun jv bv hj hb k hk => by
    rcases hk with e | e | e
    · exact .inl e
    · exact .inr (.inl (by rw [htv]; exact e))
    · exact .inr (.inr (re_all hc hj hb e))
  unfold maxLen at hmax
  have HU : Hid _ := UNDONE
  clear UNDONE H hn hp hc ht hT h hm htv
  go_enter Tryz.func225, Tryz.ntmps225
  go_wp2_with fail
  go_region_with (go_at_call 249; refine (TB 1).mono ?_; rintro e w1 ⟨rfl, jv, bv, hj, hb, C, K⟩; obtain ⟨d0, d1, d2, D, DK⟩ := HU.out 1 w1 jv bv hj hb C K; replace D : Hid _ := D; replace DK : Hid _ := DK; replace C : Hid _ := C; replace K : Hid _ := K)
  all_goals
    go_wp2
    go_ret
    exact ⟨rfl, _, D.out, (Kept.mono (KD 1) (fun _ _ e => e.elim)).trans DK.out, rfl, HALL.out jv bv hj hb⟩

end Go.Proofs.YtlehlgipbhfioaaGreat

namespace Go.Proofs.YtlehlgipbhfioaaGreat
open Go.RowKit Go.Maps

theorem Cq.kept0 {w w' : World} {base : Nat} {l : List Tm} {c : Ks} {P : List (Nat × Nat)} (h : Cq w base l c P) (K : Kept0 w w') : Cq w' base l c P := ⟨h.cl.kept0 K, h.past⟩

theorem qMerge_in (w : World) (base : Nat) (l : List Tm) (c : Ks) (P : List (Nat × Nat)) (h : Cq w base l c P) (a b : Int) (hn : (P.length + 1) * 8 ≤ 140737488355328) :
    Calls Tryz.prog 7 #[.pointer (some ⟨c.pc, 0, none⟩), .int .i64 a, .int .i64 b] w fun e w' => e = .returned (.int .i64 (mergeE l a b)) ∧ ∃ c' : Ks, Cq w' base l c' (mergeP l P a b) ∧ Kept c.Foot w w' ∧ c'.pc = c.pc ∧ (∀ k, c'.All k → c.All k ∨ w.heap.size ≤ k) := by
  cases hi : inB l.length a && inB l.length b
  · refine (kMerge_no w base l c P h.cl a b hi).mono ?_
    rintro e w' ⟨rfl, rfl⟩
    refine ⟨by simp [mergeE, hi], c, ?_, Kept.refl _ _, rfl, fun k hk => .inl hk⟩
    rw [mergeP, hi, if_neg (by decide)]
    exact h
  · have hi0 := hi
    rw [Bool.and_eq_true] at hi
    obtain ⟨a1, a2⟩ := inB_true hi.1
    obtain ⟨b1, b2⟩ := inB_true hi.2
    obtain ⟨x, rfl⟩ := Int.eq_ofNat_of_zero_le a1
    obtain ⟨y, rfl⟩ := Int.eq_ofNat_of_zero_le b1
    refine (kMerge_yes w base l c P h.cl x y (by omega) (by omega) hn).mono ?_
    rintro e w' ⟨rfl, c', C', K', hp, hA, hc, ht⟩
    refine ⟨by simp [mergeE, hi0], c', ?_, K', hp, hA⟩
    rw [mergeP, hi0, if_pos rfl]
    refine ⟨C', ?_⟩
    rw [ht]
    exact .tell (x, y) h.past hc C'.un.good

/-- What Undo does to the pairs. -/
def undoB (P : List (Nat × Nat)) (m : Int) : Bool := decide (0 ≤ m) && decide (m ≤ (P.length : Int))
def undoP (P : List (Nat × Nat)) (m : Int) : List (Nat × Nat) := if undoB P m then P.take m.toNat else P

theorem qUndo_in (w : World) (base : Nat) (l : List Tm) (c : Ks) (P : List (Nat × Nat)) (h : Cq w base l c P) (m : Int) :
    Calls Tryz.prog 225 #[.pointer (some ⟨c.pc, 0, none⟩), .int .i64 m] w fun e w' => e = .returned (.bool (undoB P m)) ∧ ∃ c' : Ks, Cq w' base l c' (undoP P m) ∧ Kept c.Foot w w' ∧ c'.pc = c.pc ∧ (∀ k, c'.All k → c.All k) := by
  by_cases hi : 0 ≤ m ∧ m ≤ (P.length : Int)
  · have hB : undoB P m = true := by simp [undoB, hi]
    obtain ⟨k, rfl⟩ := Int.eq_ofNat_of_zero_le hi.1
    rw [undoP, hB, if_pos rfl, Int.toNat_natCast]
    by_cases e : k < P.length
    · exact kUndo_yes w base l c P h k e
    · have ek : k = P.length := by omega
      subst ek
      refine (kUndo_all w base l c P h.cl).mono ?_
      rintro e w' ⟨rfl, rfl⟩
      exact ⟨rfl, c, by rw [List.take_length]; exact h, Kept.refl _ _, rfl, fun k hk => hk⟩
  · have hB : undoB P m = false := by
      unfold undoB
      rw [Bool.and_eq_false_iff]
      by_cases e : 0 ≤ m
      · exact .inr (by simp; omega)
      · exact .inl (by simpa using e)
    rw [undoP, hB, if_neg (by decide)]
    refine (kUndo_no w base l c P h.cl m (by omega)).mono ?_
    rintro e w' ⟨rfl, rfl⟩
    exact ⟨rfl, c, h, Kept.refl _ _, rfl, fun k hk => hk⟩

/-- A closure that was told nothing. -/
theorem Cl.fresh {w : World} {base : Nat} {l : List Tm} {c : Ks} (h : Cl w base l c []) : Cq w base l c [] := by
  refine ⟨h, ?_⟩
  have e : c.told = [] := List.length_eq_zero_iff.1 h.num
  rw [e]
  exact .start _ h.un.good

end Go.Proofs.YtlehlgipbhfioaaGreat

namespace Go.Proofs.YtlehlgipbhfioaaGreat
namespace Wm

/-- More pairs say no less. -/
def Mon (F : List Nat → Prop) : Prop := ∀ a b : List Nat, (∀ x, x ∈ a → x ∈ b) → F a → F b

structure Wy (F : List Nat → Prop) (needed rest : List Nat) : Prop where
  all : F (needed ++ rest)
  need : ∀ m, m ∈ needed → ¬ F (needed.filter (· != m) ++ rest)
  up : rest.Pairwise (· < ·)
  dn : needed.Pairwise (· > ·)
  below : ∀ a, a ∈ rest → ∀ b, b ∈ needed → a < b

theorem Wy.start {F : List Nat → Prop} {rest : List Nat} (h : F rest) (hu : rest.Pairwise (· < ·)) : Wy F [] rest :=
  ⟨h, fun _ hm => absurd hm (by simp), hu, List.Pairwise.nil, fun _ _ _ hb => absurd hb (by simp)⟩

theorem Wy.step {F : List Nat → Prop} (hF : Mon F) {needed rest : List Nat} (h : Wy F needed rest) {i : Nat} (hi : i < rest.length) (hy : F (needed ++ rest.take (i + 1))) (hn : ¬ F (needed ++ rest.take i)) : Wy F (needed ++ [rest[i]]) (rest.take i) := by
  have ht : rest.take (i + 1) = rest.take i ++ [rest[i]] := by rw [List.take_add_one, List.getElem?_eq_getElem hi]; rfl
  have hup : (rest.take (i + 1)).Pairwise (· < ·) := h.up.sublist (List.take_sublist _ _)
  rw [ht] at hup
  obtain ⟨p1, _, p2⟩ := List.pairwise_append.1 hup
  have hlt : ∀ a, a ∈ rest.take i → a < rest[i] := fun a ha => p2 a ha _ (by simp)
  have hmem : rest[i] ∈ rest := List.getElem_mem hi
  refine ⟨hF _ _ (fun x hx => ?_) hy, fun m hm hf => ?_, p1, ?_, fun a ha b hb => ?_⟩
  · rw [ht] at hx
    simp only [List.mem_append] at hx ⊢
    rcases hx with h1 | h1 | h1
    · exact .inl (.inl h1)
    · exact .inr h1
    · exact .inl (.inr h1)
  · rcases List.mem_append.1 hm with hm | hm
    · refine h.need m hm (hF _ _ (fun x hx => ?_) hf)
      simp only [List.mem_append, List.mem_filter] at hx ⊢
      rcases hx with ⟨h1 | h1, h2⟩ | h1
      · exact .inl ⟨h1, h2⟩
      · rw [List.mem_singleton] at h1
        exact .inr (h1 ▸ hmem)
      · exact .inr (List.mem_of_mem_take h1)
    · rw [List.mem_singleton] at hm
      refine hn (hF _ _ (fun x hx => ?_) hf)
      simp only [List.mem_append, List.mem_filter] at hx ⊢
      rcases hx with ⟨h1 | h1, h2⟩ | h1
      · exact .inl h1
      · rw [List.mem_singleton] at h1
        rw [hm, h1] at h2
        simp at h2
      · exact .inr h1
  · refine List.pairwise_append.2 ⟨h.dn, List.pairwise_singleton _ _, fun a ha b hb => ?_⟩
    rw [List.mem_singleton] at hb
    rw [hb]
    exact h.below _ hmem a ha
  · rcases List.mem_append.1 hb with hb | hb
    · exact h.below a (List.mem_of_mem_take ha) b hb
    · rw [List.mem_singleton] at hb
      rw [hb]
      exact hlt a ha

/-- What Why answers. -/
theorem Wy.fin {F : List Nat → Prop} (hF : Mon F) {needed rest : List Nat} (h : Wy F needed rest) (hy : F needed) :
    needed.reverse.Pairwise (· < ·) ∧ F needed.reverse ∧ ∀ m, m ∈ needed.reverse → ∀ xs : List Nat, (∀ x, x ∈ xs → x ∈ needed.reverse ∧ x ≠ m) → ¬ F xs := by
  refine ⟨List.pairwise_reverse.2 h.dn, hF _ _ (fun x hx => List.mem_reverse.2 hx) hy, fun m hm xs hxs hf => ?_⟩
  refine h.need m (List.mem_reverse.1 hm) (hF _ _ (fun x hx => ?_) hf)
  obtain ⟨h1, h2⟩ := hxs x hx
  exact List.mem_append_left _ (List.mem_filter.2 ⟨List.mem_reverse.1 h1, by simpa using h2⟩)

/-- Where it follows by all, there is a first at which it does. -/
theorem Wy.turn {F : List Nat → Prop} (hF : Mon F) {needed rest : List Nat} (h : Wy F needed rest) (hn : ¬ F needed) : ∃ i, i < rest.length ∧ F (needed ++ rest.take (i + 1)) ∧ ∀ j, j ≤ i → ¬ F (needed ++ rest.take j) := by
  have hex : ∀ k, k ≤ rest.length → F (needed ++ rest.take k) → ∃ i, i < k ∧ F (needed ++ rest.take (i + 1)) ∧ ∀ j, j ≤ i → ¬ F (needed ++ rest.take j) := by
    intro k
    induction k with
    | zero => intro _ hf; exact absurd (by simpa using hf) hn
    | succ k ih =>
      intro hk hf
      by_cases e : F (needed ++ rest.take k)
      · obtain ⟨i, h1, h2, h3⟩ := ih (by omega) e
        exact ⟨i, by omega, h2, h3⟩
      · refine ⟨k, by omega, hf, fun j hj hfj => e (hF _ _ (fun x hx => ?_) hfj)⟩
        rcases List.mem_append.1 hx with hx | hx
        · exact List.mem_append_left _ hx
        · exact List.mem_append_right _ ((List.take_sublist_take_left hj).subset hx)
  exact hex rest.length (Nat.le_refl _) (by rw [List.take_length]; exact h.all)

end Wm
end Go.Proofs.YtlehlgipbhfioaaGreat

namespace Go.Proofs.YtlehlgipbhfioaaGreat
namespace Wm
open Cc

/-- The pair, if both are terms. -/
def okP (N : Nat) (p : Int × Int) : Option (Nat × Nat) := if inB N p.1 && inB N p.2 then some (p.1.toNat, p.2.toNat) else none
/-- The pairs with these numbers, those that say nothing aside. -/
def prs (N : Nat) (ps : List (Int × Int)) (ns : List Nat) : List (Nat × Nat) := ns.filterMap fun n => (ps[n]?).bind (okP N)

theorem mem_prs {N : Nat} {ps : List (Int × Int)} {ns : List Nat} {q : Nat × Nat} : q ∈ prs N ps ns ↔ ∃ n, n ∈ ns ∧ (ps[n]?).bind (okP N) = some q := by simp [prs, List.mem_filterMap]
theorem prs_app (N : Nat) (ps : List (Int × Int)) (a b : List Nat) : prs N ps (a ++ b) = prs N ps a ++ prs N ps b := by simp [prs]

/-- x and y are the same by the pairs with these numbers. -/
def Fol (l : List Tm) (ps : List (Int × Int)) (x y : Nat) (ns : List Nat) : Prop := Cg l (prs l.length ps ns) x y

theorem fol_mon (l : List Tm) (ps : List (Int × Int)) (x y : Nat) : Mon (Fol l ps x y) := fun a b h hf => by
  refine Cg.mono (fun i j hm hi hj => .told ?_ hi hj) hf
  obtain ⟨n, h1, h2⟩ := mem_prs.1 hm
  exact mem_prs.2 ⟨n, h _ h1, h2⟩

/-- What enough has come to, ahead of pair k. -/
structure En (l : List Tm) (ps : List (Int × Int)) (k : Nat) (ns : List Nat) : Prop where
  up : ns.Pairwise (· < ·)
  lt : ∀ n, n ∈ ns → n < k
  ok : ∀ n, n ∈ ns → ∃ q, (ps[n]?).bind (okP l.length) = some q
  all : ∀ n, n < k → ∀ q, (ps[n]?).bind (okP l.length) = some q → Cg l (prs l.length ps ns) q.1 q.2

theorem En.start (l : List Tm) (ps : List (Int × Int)) : En l ps 0 [] := ⟨.nil, fun _ h => absurd h (by simp), fun _ h => absurd h (by simp), fun _ h => absurd h (Nat.not_lt_zero _)⟩
theorem En.skip {l : List Tm} {ps : List (Int × Int)} {k : Nat} {ns : List Nat} (h : En l ps k ns) (hk : ∀ q, (ps[k]?).bind (okP l.length) = some q → Cg l (prs l.length ps ns) q.1 q.2) : En l ps (k + 1) ns :=
  ⟨h.up, fun n hn => Nat.lt_succ_of_lt (h.lt n hn), h.ok, fun n hn q hq => by
    rcases Nat.lt_succ_iff_lt_or_eq.1 hn with e | e
    · exact h.all n e q hq
    · subst e; exact hk q hq⟩
theorem En.take {l : List Tm} {ps : List (Int × Int)} {k : Nat} {ns : List Nat} (h : En l ps k ns) {q : Nat × Nat} (hq : (ps[k]?).bind (okP l.length) = some q) (h1 : q.1 < l.length) (h2 : q.2 < l.length) : En l ps (k + 1) (ns ++ [k]) := by
  have hm : ∀ i j, Cg l (prs l.length ps ns) i j → Cg l (prs l.length ps (ns ++ [k])) i j := fun i j hc => fol_mon l ps i j _ _ (fun x hx => List.mem_append_left _ hx) hc
  refine ⟨List.pairwise_append.2 ⟨h.up, List.pairwise_singleton _ _, fun a ha b hb => ?_⟩, fun n hn => ?_, fun n hn => ?_, fun n hn p hp => ?_⟩
  · rw [List.mem_singleton] at hb
    rw [hb]
    exact h.lt a ha
  · rcases List.mem_append.1 hn with e | e
    · exact Nat.lt_succ_of_lt (h.lt n e)
    · rw [List.mem_singleton] at e
      omega
  · rcases List.mem_append.1 hn with e | e
    · exact h.ok n e
    · rw [List.mem_singleton] at e
      subst e
      exact ⟨q, hq⟩
  · rcases Nat.lt_succ_iff_lt_or_eq.1 hn with e | e
    · exact hm _ _ (h.all n e p hp)
    · subst e
      rw [hq] at hp
      cases hp
      exact .told (mem_prs.2 ⟨n, by simp, hq⟩) h1 h2

/-- At the end these pairs say all that all of them say. -/
theorem En.fin {l : List Tm} {ps : List (Int × Int)} {ns : List Nat} (h : En l ps ps.length ns) (x y : Nat) : Fol l ps x y ns ↔ Fol l ps x y (List.range ps.length) := by
  constructor
  · exact fol_mon l ps x y _ _ (fun n hn => List.mem_range.2 (h.lt n hn))
  · intro hf
    refine Cg.mono (fun i j hm _ _ => ?_) hf
    obtain ⟨n, h1, h2⟩ := mem_prs.1 hm
    exact h.all n (List.mem_range.1 h1) (i, j) h2
theorem En.some {l : List Tm} {ps : List (Int × Int)} {k : Nat} {ns : List Nat} (h : En l ps k ns) (hk : k ≤ ps.length) {x y : Nat} (hf : Fol l ps x y ns) : Fol l ps x y (List.range ps.length) :=
  fol_mon l ps x y _ _ (fun n hn => List.mem_range.2 (Nat.lt_of_lt_of_le (h.lt n hn) hk)) hf

end Wm
end Go.Proofs.YtlehlgipbhfioaaGreat

namespace Go.Proofs.YtlehlgipbhfioaaGreat
open Go.RowKit Go.Maps

/-- Pairs in memory. -/
def Prw (w : World) (a : Option Addr) (ps : List (Int × Int)) : Prop := ∀ (k : Nat) (x : Int × Int), ps[k]? = some x → ∃ b off, a = some ⟨b, off, none⟩ ∧ b < w.heap.size ∧ w.cell? ⟨b, off + k * 2, none⟩ = some (.int .i64 x.1) ∧ w.cell? ⟨b, off + k * 2 + 1, none⟩ = some (.int .i64 x.2)
theorem Prw.kept0 {w w' : World} {a : Option Addr} {ps : List (Int × Int)} (h : Prw w a ps) (K : Kept0 w w') : Prw w' a ps := fun k x hx => by
  obtain ⟨b, off, h1, h2, h3, h4⟩ := h k x hx
  have e : ∀ o, w'.cell? ⟨b, o, none⟩ = w.cell? ⟨b, o, none⟩ := fun o => by unfold World.cell?; rw [K.block b h2 (fun e => e)]
  exact ⟨b, off, h1, Nat.lt_of_lt_of_le h2 K.size, by rw [e]; exact h3, by rw [e]; exact h4⟩

open Classical in
/-- Are x and y the same by some pairs? -/
noncomputable def cgB (l : List Tm) (P : List (Nat × Nat)) (x y : Int) : Bool := inB l.length x && inB l.length y && decide (Cc.Cg l P x.toNat y.toNat)
theorem cgB_iff {l : List Tm} {P : List (Nat × Nat)} {x y : Int} : cgB l P x y = true ↔ inB l.length x = true ∧ inB l.length y = true ∧ Cc.Cg l P x.toNat y.toNat := by
  simp [cgB, and_assoc]

theorem Cl.sameB {w : World} {base : Nat} {l : List Tm} {c : Ks} {P : List (Nat × Nat)} (h : Cl w base l c P) (x y : Int) : Go.Proofs.YtlehlgipbhfioaaGreat.sameB l.length c.z.g x y = cgB l P x y := by
  rw [Bool.eq_iff_iff, cgB_iff]
  constructor
  · intro hs
    have h2 : inB l.length x = true ∧ inB l.length y = true := by
      unfold Go.Proofs.YtlehlgipbhfioaaGreat.sameB at hs
      simp only [Bool.and_eq_true] at hs
      exact ⟨hs.1.1, hs.1.2⟩
    obtain ⟨a1, a2⟩ := inB_true h2.1
    obtain ⟨b1, b2⟩ := inB_true h2.2
    obtain ⟨i, rfl⟩ := Int.eq_ofNat_of_zero_le a1
    obtain ⟨j, rfl⟩ := Int.eq_ofNat_of_zero_le b1
    exact ⟨h2.1, h2.2, (h.un.same (i := i) (j := j) (by omega) (by omega)).1 hs⟩
  · rintro ⟨h1, h2, h3⟩
    obtain ⟨a1, a2⟩ := inB_true h1
    obtain ⟨b1, b2⟩ := inB_true h2
    obtain ⟨i, rfl⟩ := Int.eq_ofNat_of_zero_le a1
    obtain ⟨j, rfl⟩ := Int.eq_ofNat_of_zero_le b1
    exact (h.un.same (i := i) (j := j) (by omega) (by omega)).2 h3

theorem qSame_in (w : World) (base : Nat) (l : List Tm) (c : Ks) (P : List (Nat × Nat)) (h : Cl w base l c P) (x y : Int) :
    Calls Tryz.prog 11 #[.pointer (some ⟨c.pc, 0, none⟩), .int .i64 x, .int .i64 y] w fun e w' => e = .returned (.bool (cgB l P x y)) ∧ ∃ m, w' = w.drewN m := by
  rw [← h.sameB]
  exact kSame_in w base l c P h x y

theorem qSame_k (w : World) (base : Nat) (l : List Tm) (c : Ks) (P : List (Nat × Nat)) (h : Cl w base l c P) (x y : Int) :
    Calls Tryz.prog 11 #[.pointer (some ⟨c.pc, 0, none⟩), .int .i64 x, .int .i64 y] w fun e w' => e = .returned (.bool (cgB l P x y)) ∧ Kept0 w w' :=
  (qSame_in w base l c P h x y).mono fun _ _ ⟨h1, m, h2⟩ => ⟨h1, h2 ▸ (Kept.refl _ w).drewN m⟩

/-- What enough has come to. -/
structure Eg (w W : World) (l : List Tm) (ps : List (Int × Int)) (c : Ks) (k : Nat) (ns : List Nat) (v : Value) : Prop where
  cq : Cq W w.heap.size l c (Wm.prs l.length ps ns)
  row : W.ownsRow w.heap.size 3 1 v ns.length (natC ns)
  far : ∀ j, v.ownBlock = some j → ¬ c.All j
  en : Wm.En l ps k ns
  few : ns.length ≤ k
  bel : Kept0 w W

theorem Wm.prs_len (N : Nat) (ps : List (Int × Int)) (ns : List Nat) : (Wm.prs N ps ns).length ≤ ns.length := List.length_filterMap_le _ _
theorem Wm.prs_snoc {N : Nat} {ps : List (Int × Int)} {ns : List Nat} {k : Nat} {q : Nat × Nat} (h : (ps[k]?).bind (Wm.okP N) = some q) : Wm.prs N ps (ns ++ [k]) = Wm.prs N ps ns ++ [q] := by
  rw [Wm.prs_app]
  simp [Wm.prs, h]

theorem Eg.kept0 {w W W' : World} {l : List Tm} {ps : List (Int × Int)} {c : Ks} {k : Nat} {ns : List Nat} {v : Value} (h : Eg w W l ps c k ns v) (K : Kept0 W W') : Eg w W' l ps c k ns v :=
  ⟨h.cq.kept0 K, ownsRow_blockC h.row (fun j hj => K.block j (h.row.lt j hj).2 (fun e => e)), h.far, h.en, h.few, h.bel.trans K⟩
theorem Eg.skip {w W : World} {l : List Tm} {ps : List (Int × Int)} {c : Ks} {k : Nat} {ns : List Nat} {v : Value} (h : Eg w W l ps c k ns v) {p : Int × Int} (hp : ps[k]? = some p) (hs : cgB l (Wm.prs l.length ps ns) p.1 p.2 = true ∨ (inB l.length p.1 && inB l.length p.2) = false) : Eg w W l ps c (k + 1) ns v := by
  refine ⟨h.cq, h.row, h.far, h.en.skip (fun q hq => ?_), Nat.le_succ_of_le h.few, h.bel⟩
  rw [hp] at hq
  simp only [Option.bind_some, Wm.okP] at hq
  rcases hs with hs | hs
  · rw [cgB_iff] at hs
    rw [hs.1, hs.2.1] at hq
    simp at hq
    subst hq
    exact hs.2.2
  · rw [hs] at hq
    simp at hq

/-- The pair is told. -/
theorem Eg.tell {w W : World} {l : List Tm} {ps : List (Int × Int)} {c : Ks} {k : Nat} {ns : List Nat} {v : Value} (h : Eg w W l ps c k ns v) {p : Int × Int} (hp : ps[k]? = some p) (hin : (inB l.length p.1 && inB l.length p.2) = true) (hr : (k + 1) * 8 ≤ 140737488355328) :
    Calls Tryz.prog 7 #[.pointer (some ⟨c.pc, 0, none⟩), .int .i64 p.1, .int .i64 p.2] W fun e W' => e = .returned (.int .i64 0) ∧ ∃ c' : Ks, c'.pc = c.pc ∧ Cq W' w.heap.size l c' (Wm.prs l.length ps (ns ++ [k])) ∧ W'.ownsRow w.heap.size 3 1 v ns.length (natC ns) ∧ (∀ j, v.ownBlock = some j → ¬ c'.All j) ∧ Kept0 w W' := by
  have hq : (ps[k]?).bind (Wm.okP l.length) = some (p.1.toNat, p.2.toNat) := by rw [hp]; simp [Wm.okP, hin]
  have hl := Wm.prs_len l.length ps ns
  have hf := h.few
  refine (qMerge_in W w.heap.size l c _ h.cq p.1 p.2 (by omega)).mono ?_
  rintro e W' ⟨rfl, c', C', K, hpc, hA⟩
  refine ⟨by simp [mergeE, hin], c', hpc, ?_, ownsRow_blockC h.row (fun j hj => K.block j (h.row.lt j hj).2 (fun e => h.far j hj e.all)), fun j hj hA' => ?_, ?_⟩
  · rw [Wm.prs_snoc hq]
    rw [mergeP, hin, if_pos rfl] at C'
    exact C'
  · rcases hA j hA' with e | e
    · exact h.far j hj e
    · have := (h.row.lt j hj).2; omega
  · exact h.bel.into K (fun i hi => .inr (h.cq.cl.foot_ge hi))

/-- .. and its number noted. -/
theorem Eg.note {w W wa w1 : World} {l : List Tm} {ps : List (Int × Int)} {c : Ks} {k : Nat} {ns : List Nat} {v v' : Value} (hen : Wm.En l ps k ns) (few : ns.length ≤ k) {p : Int × Int} (hp : ps[k]? = some p) (hin : (inB l.length p.1 && inB l.length p.2) = true)
    (hc : Cq W w.heap.size l c (Wm.prs l.length ps (ns ++ [k]))) (far : ∀ j, v.ownBlock = some j → ¬ c.All j) (K : Kept0 w W) (K0 : Kept0 W wa) (hrow : W.ownsRow w.heap.size 3 1 v ns.length (natC ns))
    (hown : w1.ownsRow w.heap.size 3 1 v' (ns.length + 1) (natC ns ++ [.int .i64 (k : Int)])) (hgrow : wa.grownBy w1 v.ownBlock) (hloc : v'.ownBlock = v.ownBlock ∨ ∀ k, v'.ownBlock = some k → wa.heap.size ≤ k) : Eg w w1 l ps c (k + 1) (ns ++ [k]) v' := by
  have hq : (ps[k]?).bind (Wm.okP l.length) = some (p.1.toNat, p.2.toNat) := by rw [hp]; simp [Wm.okP, hin]
  have K1 : Kept (fun j => v.ownBlock = some j) W w1 := Kept.grown (Kept.mono K0 (fun _ _ e => e.elim)) hgrow (fun _ e => e)
  rw [Bool.and_eq_true] at hin
  have a1 := inB_true hin.1
  have b1 := inB_true hin.2
  refine ⟨⟨hc.cl.keep K1 (fun j hj e => far j e hj), hc.past⟩, ?_, fun j hj hA => ?_, hen.take hq (by show p.1.toNat < _; omega) (by show p.2.toNat < _; omega), by simp; omega, K.into K1 (fun i hi => .inr (hrow.lt i hi).1)⟩
  · rw [List.length_append, ← natC_app]
    exact hown
  · rcases hloc with e | e
    · exact far j (e ▸ hj) hA
    · have h1 := e j hj
      have h2 := hc.cl.all_lt hA
      have h3 := K0.size
      omega

end Go.Proofs.YtlehlgipbhfioaaGreat

namespace Go.Proofs.YtlehlgipbhfioaaGreat
open Go.RowKit Go.Maps

set_option maxHeartbeats 4000000 in
set_option maxRecDepth 100000 in
theorem enough_in (w : World) (base p : Nat) (ev : Value) (nb fb : Nat) (l : List Tm) (h : Bk w base p ev nb fb l) (hb : Cc.Bd l) (hl : l.length ≤ 150) (a : Option Addr) (cp : Nat) (ps : List (Int × Int)) (hP : Prw w a ps) (hr : ps.length * 16 ≤ 140737488355328) (x y : Int) :
    Calls Tryz.prog 179 #[.pointer (some ⟨p, 0, none⟩), .slice a ps.length cp, .int .i64 x, .int .i64 y] w fun e w' => ∃ (ns : List Nat) (v : Value) (k : Nat), e = .returned (.tuple #[v, .bool (cgB l (Wm.prs l.length ps ns) x y)]) ∧ w'.ownsRow w.heap.size 3 1 v ns.length (natC ns) ∧
      Wm.En l ps k ns ∧ k ≤ ps.length ∧ (cgB l (Wm.prs l.length ps ns) x y = false → k = ps.length) ∧ Kept0 w w' ∧ ns.length ≤ ps.length := by
  have NC := kNew_in w base p ev nb fb l h hb hl
  go_enter Tryz.func179, Tryz.ntmps179
  go_wp2_with (go_at_call 5; refine NC.mono ?_; rintro e w1 ⟨c, rfl, C0, K1⟩)
  have E0 : Eg w w1 l ps c 0 [] (.slice none 0 0) := ⟨C0.fresh, World.ownsRow_nil _ _ _ _, fun j hj => by simp [Value.ownBlock] at hj, Wm.En.start _ _, by simp, K1⟩
  clear NC C0 K1 h
  obtain ⟨i0, hi0, hz0, hz1, hz2⟩ := info_parts infoIntK
  have HR : Hid (ps.length * 16 ≤ 140737488355328) := hr
  have hkb : ps.length ≤ 8796093022208 := by omega
  clear hr
  go_loopw [10, 18] (fun t10 t18 W => ∃ (k : Nat) (c' : Ks) (ns : List Nat), k ≤ ps.length ∧ t18 = .int .i64 (k : Int) ∧ c'.pc = c.pc ∧ Eg w W l ps c' k ns t10) (fun _ t18 _ => ps.length - (intOf t18).toNat)
  case atStart => exact ⟨0, c, [], Nat.zero_le _, rfl, rfl, E0⟩
  case round =>
    clear E0
    obtain ⟨k, c', ns, hk, rfl, hpc, E⟩ := hrel
    obtain ⟨va, vc, hv⟩ := row_form' E.row
    subst hv
    have SXY : ∀ W, Kept0 wr W → Calls Tryz.prog 11 #[.pointer (some ⟨c.pc, 0, none⟩), .int .i64 x, .int .i64 y] W fun e w' => e = .returned (.bool (cgB l (Wm.prs l.length ps ns) x y)) ∧ Kept0 W w' := fun W K => by
      rw [← hpc]
      exact qSame_k W w.heap.size l c' _ (E.cq.cl.kept0 K) x y
    have HXY : Hid _ := SXY
    clear SXY
    by_cases hk2 : k < ps.length
    · have dk : decide ((k : Int) < (ps.length : Int)) = true := decide_eq_true (by omega)
      have hx : ps[k]? = some ps[k] := List.getElem?_eq_getElem hk2
      generalize hok : ps[k] = q at hx
      clear hok
      obtain ⟨b, off, rfl, hbl, y1, y2⟩ := hP.kept0 E.bel k q hx
      have S1 := HXY.out (wr.alloc (.cells #[.int .i64 q.1, .int .i64 q.2] 34)) ((Kept.refl _ wr).alloc _)
      cases hxy : cgB l (Wm.prs l.length ps ns) x y
      · rw [hxy] at S1
        have R1 := made_row wr #[.int .i64 q.1, .int .i64 q.2] 34
        have K1 : Kept0 wr (wr.alloc (.cells #[.int .i64 q.1, .int .i64 q.2] 34)) := (Kept.refl _ wr).alloc _
        have E1 := E.kept0 K1
        have hpr := E.row.lt
        have hfew := E.few
        generalize hw1 : wr.alloc (.cells #[.int .i64 q.1, .int .i64 q.2] 34) = w2 at *
        have Z : Hid (∀ W, Kept0 w2 W → W.cell? ⟨wr.heap.size, 0, none⟩ = some (.int .i64 q.1) ∧ W.cell? ⟨wr.heap.size, 1, none⟩ = some (.int .i64 q.2)) := fun W K => by
          have R2 := R1.of_block (K.block _ R1.lt (fun e => e))
          exact ⟨R2.cell (i := 0) (by simp), R2.cell (i := 1) (by simp)⟩
        have SAB : ∀ W, Kept0 w2 W → Calls Tryz.prog 11 #[.pointer (some ⟨c.pc, 0, none⟩), .int .i64 q.1, .int .i64 q.2] W fun e w' => e = .returned (.bool (cgB l (Wm.prs l.length ps ns) q.1 q.2)) ∧ Kept0 W w' := fun W K => by
          rw [← hpc]
          exact qSame_k _ w.heap.size l c' _ (E1.cq.cl.kept0 K) q.1 q.2
        subst hw1
        cases hab : cgB l (Wm.prs l.length ps ns) q.1 q.2
        · cases hin : inB l.length q.1 && inB l.length q.2
          · have E2 : Hid (∀ W, Kept0 (wr.alloc (.cells #[.int .i64 q.1, .int .i64 q.2] 34)) W → Eg w W l ps c' (k + 1) ns (.slice va ns.length vc)) := fun W K => (E1.kept0 K).skip hx (.inr hin)
            have MG : Hid (∀ W, Kept0 (wr.alloc (.cells #[.int .i64 q.1, .int .i64 q.2] 34)) W → Calls Tryz.prog 7 #[.pointer (some ⟨c.pc, 0, none⟩), .int .i64 q.1, .int .i64 q.2] W fun e w' => e = .returned (.int .i64 7) ∧ W = w') := fun W K => by
              rw [← hpc]
              exact kMerge_no W w.heap.size l c' _ (E1.cq.cl.kept0 K) q.1 q.2 hin
            rw [hab] at SAB
            have SAB1 : Hid _ := SAB
            have HPC : Hid (c'.pc = c.pc) := hpc
            clear E E1 hx hxy hab hpr R1 K1 hpc SAB hin
            generalize q.1 = qa at *
            generalize q.2 = qb at *
            go_wp2_with (first | (go_at_call 11; refine S2.mono ?_; rintro e w4 ⟨rfl, K4⟩; have M4 := MG.out w4 (K3.trans K4); obtain ⟨x1, x2⟩ := Z.out w4 (K3.trans K4)) | (go_at_call 11; refine S1.mono ?_; rintro e w3 ⟨rfl, K3⟩; have S2 := SAB1.out w3 K3; obtain ⟨z1, z2⟩ := Z.out w3 K3; clear S1) | (go_at_call 7; refine M4.mono ?_; rintro e w5 ⟨rfl, rfl⟩))
            exact ⟨⟨k + 1, c', ns, hk2, by simp, HPC.out, E2.out w4 (K3.trans K4)⟩, by simp [intOf]; omega⟩
          · have hk8 : (k + 1) * 8 ≤ 140737488355328 := by have := HR.out; omega
            have MG : Hid (∀ W, Kept0 (wr.alloc (.cells #[.int .i64 q.1, .int .i64 q.2] 34)) W → Calls Tryz.prog 7 #[.pointer (some ⟨c.pc, 0, none⟩), .int .i64 q.1, .int .i64 q.2] W fun e W' => e = .returned (.int .i64 0) ∧ ∃ c2 : Ks, c2.pc = c.pc ∧ Cq W' w.heap.size l c2 (Wm.prs l.length ps (ns ++ [k])) ∧ W'.ownsRow w.heap.size 3 1 (.slice va ns.length vc) ns.length (natC ns) ∧ (∀ j, (Value.slice va ns.length vc).ownBlock = some j → ¬ c2.All j) ∧ Kept0 w W') := fun W K => by
              rw [← hpc]
              exact (E1.kept0 K).tell hx hin hk8
            have NT : Hid (∀ (W wa w1 : World) (c2 : Ks) (v' : Value), Cq W w.heap.size l c2 (Wm.prs l.length ps (ns ++ [k])) → (∀ j, (Value.slice va ns.length vc).ownBlock = some j → ¬ c2.All j) → Kept0 w W → Kept0 W wa → W.ownsRow w.heap.size 3 1 (.slice va ns.length vc) ns.length (natC ns) → w1.ownsRow w.heap.size 3 1 v' (ns.length + 1) (natC ns ++ [.int .i64 (k : Int)]) → wa.grownBy w1 (Value.slice va ns.length vc).ownBlock → (v'.ownBlock = (Value.slice va ns.length vc).ownBlock ∨ ∀ k, v'.ownBlock = some k → wa.heap.size ≤ k) → Eg w w1 l ps c2 (k + 1) (ns ++ [k]) v') := fun W wa w1 c2 v' h1 h2 h3 h4 h5 h6 h7 h8 => Eg.note E1.en E1.few hx hin h1 h2 h3 h4 h5 h6 h7 h8
            rw [hab] at SAB
            have SAB1 : Hid _ := SAB
            clear E E1 hx hxy hab hpr R1 K1 hpc SAB hin hk8
            generalize q.1 = qa at *
            generalize q.2 = qb at *
            go_wp2_with (first | (go_at_call 11; refine S2.mono ?_; rintro e w4 ⟨rfl, K4⟩; have M4 := MG.out w4 (K3.trans K4); obtain ⟨x1, x2⟩ := Z.out w4 (K3.trans K4)) | (go_at_call 11; refine S1.mono ?_; rintro e w3 ⟨rfl, K3⟩; have S2 := SAB1.out w3 K3; obtain ⟨z1, z2⟩ := Z.out w3 K3; clear S1) | (go_at_call 7; refine M4.mono ?_; rintro e w5 ⟨rfl, c2, hc2, C2, R5, F5, K5⟩; replace C2 : Hid _ := C2; replace F5 : Hid _ := F5) | (at_builtin; go_loud (refine wpList_append_here rfl _ _ 39 rfl w.heap.size 3 i0 _ 1 8 Tryz.underlying39 hi0 hz0 hz1 hz2 rfl (by decide) _ _ (natC ns) rfl (R5.alloc _) ⟨w5.heap.size, 0, none⟩ 1 1 [.int .i64 (k : Int)] rfl rfl (by exact one_newD w5 0 _ _) (by simp [Value.oneCell']) (by unfold maxLen; omega) (by omega) (by have := K5.size; simp; omega) ?_; intro v6 w6 hown6 hgr6 hloc6)))
            exact ⟨⟨k + 1, c2, ns ++ [k], hk2, by simp, hc2, NT.out w5 _ w6 c2 v6 C2.out F5.out K5 ((Kept.refl _ w5).alloc _) R5 hown6 hgr6 hloc6⟩, by simp [intOf]; omega⟩
        · have E2 : Hid (∀ W, Kept0 (wr.alloc (.cells #[.int .i64 q.1, .int .i64 q.2] 34)) W → Eg w W l ps c' (k + 1) ns (.slice va ns.length vc)) := fun W K => (E1.kept0 K).skip hx (.inl hab)
          rw [hab] at SAB
          have SAB1 : Hid _ := SAB
          have HPC : Hid (c'.pc = c.pc) := hpc
          clear E E1 hx hxy hab hpr R1 K1 hpc SAB
          generalize q.1 = qa at *
          generalize q.2 = qb at *
          go_wp2_with (first | (go_at_call 11; refine S2.mono ?_; rintro e w4 ⟨rfl, K4⟩) | (go_at_call 11; refine S1.mono ?_; rintro e w3 ⟨rfl, K3⟩; have S2 := SAB1.out w3 K3; obtain ⟨z1, z2⟩ := Z.out w3 K3; clear S1))
          exact ⟨⟨k + 1, c', ns, hk2, by simp, HPC.out, E2.out w4 (K3.trans K4)⟩, by simp [intOf]; omega⟩
      · rw [hxy] at S1
        have HE : Hid _ := E
        have HXY2 : Hid (cgB l (Wm.prs l.length ps ns) x y = true) := hxy
        rw [hxy] at HXY
        clear E hpc hx hxy
        generalize q.1 = qa at *
        generalize q.2 = qb at *
        go_wp2_with (first | (go_at_call 11; refine S2.mono ?_; rintro e w4 ⟨rfl, K4⟩) | (go_at_call 11; refine S1.mono ?_; rintro e w3 ⟨rfl, K3⟩; have KK : Kept0 wr w3 := ((Kept.refl _ wr).alloc _).trans K3; have S2 := HXY.out w3 KK; clear S1))
        go_ret2
        exact ⟨ns, .slice va ns.length vc, k, by rw [HXY2.out]; rfl, (HE.out.kept0 (KK.trans K4)).row, HE.out.en, hk, fun e => (by rw [HXY2.out] at e; cases e), HE.out.bel.trans (KK.trans K4), Nat.le_trans HE.out.few hk⟩
    · have dk : decide ((k : Int) < (ps.length : Int)) = false := decide_eq_false (by omega)
      obtain rfl : k = ps.length := by omega
      have S1 := HXY.out wr (Kept.refl _ wr)
      have HE : Hid _ := E
      clear E hpc
      go_wp2_with (go_at_call 11; refine S1.mono ?_; rintro e w2 ⟨rfl, K2⟩)
      go_ret2
      exact ⟨ns, _, ps.length, rfl, (HE.out.kept0 K2).row, HE.out.en, Nat.le_refl _, fun _ => rfl, HE.out.bel.trans K2, HE.out.few⟩

end Go.Proofs.YtlehlgipbhfioaaGreat

namespace Go.Proofs.YtlehlgipbhfioaaGreat
open Go.RowKit Go.Maps

/-- What turn has come to: j of the numbers are told. -/
structure Tn (w W : World) (base : Nat) (l : List Tm) (ps : List (Int × Int)) (rest : List Nat) (c : Ks) (P : List (Nat × Nat)) (c' : Ks) (j : Nat) : Prop where
  cq : Cq W base l c' (P ++ Wm.prs l.length ps (rest.take j))
  kept : Kept c.All w W
  pc : c'.pc = c.pc
  all : ∀ k, c'.All k → c.All k ∨ w.heap.size ≤ k

theorem Tn.kept0 {w W W' : World} {base : Nat} {l : List Tm} {ps : List (Int × Int)} {rest : List Nat} {c : Ks} {P : List (Nat × Nat)} {c' : Ks} {j : Nat} (h : Tn w W base l ps rest c P c' j) (K : Kept0 W W') : Tn w W' base l ps rest c P c' j :=
  ⟨h.cq.kept0 K, h.kept.into K (fun _ e => e.elim), h.pc, h.all⟩

theorem prs_take_len (N : Nat) (ps : List (Int × Int)) (rest : List Nat) (j : Nat) : (Wm.prs N ps (rest.take j)).length ≤ rest.length := by
  have h1 := Wm.prs_len N ps (rest.take j)
  have h2 : (rest.take j).length ≤ rest.length := by rw [List.length_take]; exact Nat.min_le_right _ _
  omega

theorem okP_some {N : Nat} {p : Int × Int} {q : Nat × Nat} (h : Wm.okP N p = some q) : (inB N p.1 && inB N p.2) = true ∧ q = (p.1.toNat, p.2.toNat) := by
  unfold Wm.okP at h
  cases hi : inB N p.1 && inB N p.2
  · rw [hi] at h; simp at h
  · rw [hi] at h; simp at h; exact ⟨rfl, h.symm⟩

theorem Tn.tell {w W : World} {base : Nat} {l : List Tm} {ps : List (Int × Int)} {rest : List Nat} {c : Ks} {P : List (Nat × Nat)} {c' : Ks} {j : Nat} (h : Tn w W base l ps rest c P c' j) {n : Nat} (hn : rest[j]? = some n) {p : Int × Int} (hp : ps[n]? = some p) (hin : (inB l.length p.1 && inB l.length p.2) = true) (hb : (P.length + rest.length + 1) * 8 ≤ 140737488355328) :
    Calls Tryz.prog 7 #[.pointer (some ⟨c.pc, 0, none⟩), .int .i64 p.1, .int .i64 p.2] W fun e W' => (∃ x, e = .returned (.int .i64 x)) ∧ ∃ c2 : Ks, Tn w W' base l ps rest c P c2 (j + 1) := by
  have hq : (ps[n]?).bind (Wm.okP l.length) = some (p.1.toNat, p.2.toNat) := by rw [hp]; simp [Wm.okP, hin]
  have hl := prs_take_len l.length ps rest j
  have M := qMerge_in W base l c' _ h.cq p.1 p.2 (by rw [List.length_append]; omega)
  rw [h.pc] at M
  refine M.mono ?_
  rintro e W' ⟨rfl, c2, C2, K, hpc, hA⟩
  refine ⟨⟨_, rfl⟩, c2, ?_, h.kept.into K (fun k hk => h.all k hk.all), hpc, fun k hk => ?_⟩
  · rw [List.take_add_one, hn, Option.toList_some, Wm.prs_snoc hq, ← List.append_assoc]
    rw [mergeP, hin, if_pos rfl] at C2
    exact C2
  · rcases hA k hk with e | e
    · exact h.all k e
    · exact .inr (Nat.le_trans h.kept.size e)

theorem Tn.back {w W : World} {base : Nat} {l : List Tm} {ps : List (Int × Int)} {rest : List Nat} {c : Ks} {P : List (Nat × Nat)} {c' : Ks} {j : Nat} (h : Tn w W base l ps rest c P c' j) :
    Calls Tryz.prog 225 #[.pointer (some ⟨c.pc, 0, none⟩), .int .i64 (P.length : Int)] W fun e W' => (∃ x, e = .returned (.bool x)) ∧ ∃ c2 : Ks, Cq W' base l c2 P ∧ Kept c.All w W' ∧ c2.pc = c.pc ∧ (∀ k, c2.All k → c.All k ∨ w.heap.size ≤ k) := by
  have M := qUndo_in W base l c' _ h.cq (P.length : Int)
  rw [h.pc] at M
  refine M.mono ?_
  rintro e W' ⟨rfl, c2, C2, K, hpc, hA⟩
  refine ⟨⟨_, rfl⟩, c2, ?_, h.kept.into K (fun k hk => h.all k hk.all), hpc, fun k hk => h.all k (hA k hk)⟩
  have e : undoP (P ++ Wm.prs l.length ps (rest.take j)) (P.length : Int) = P := by
    rw [undoP, if_pos (by simp [undoB]; omega)]
    simp
  rw [e] at C2
  exact C2

set_option maxHeartbeats 4000000 in
set_option maxRecDepth 100000 in
theorem turn_in (w : World) (base : Nat) (l : List Tm) (c : Ks) (P : List (Nat × Nat)) (h : Cq w base l c P) (a : Option Addr) (cp : Nat) (ps : List (Int × Int)) (g cap : Nat) (rest : List Nat)
    (hM : ∀ W, Kept c.All w W → Prw W a ps ∧ ∀ (j n : Nat), rest[j]? = some n → W.cell? ⟨g, j, none⟩ = some (.int .i64 (n : Int)))
    (hok : ∀ n, n ∈ rest → ∃ q, (ps[n]?).bind (Wm.okP l.length) = some q)
    (x y : Int) (i : Nat) (hi : i < rest.length) (hy : cgB l (P ++ Wm.prs l.length ps (rest.take (i + 1))) x y = true) (hno : ∀ j, j ≤ i → cgB l (P ++ Wm.prs l.length ps (rest.take j)) x y = false)
    (hn : (P.length + rest.length + 1) * 8 ≤ 140737488355328) :
    Calls Tryz.prog 180 #[.pointer (some ⟨c.pc, 0, none⟩), .slice a ps.length cp, .slice (some ⟨g, 0, none⟩) rest.length cap, .int .i64 x, .int .i64 y] w fun e w' => e = .returned (.int .i64 (i : Int)) ∧
      ∃ c' : Ks, Cq w' base l c' P ∧ Kept c.All w w' ∧ c'.pc = c.pc ∧ (∀ k, c'.All k → c.All k ∨ w.heap.size ≤ k) := by
  have MK := kMark_in w base l c P h.cl
  have T0 : Tn w w base l ps rest c P c 0 := ⟨by simpa [Wm.prs] using h, Kept.refl _ _, rfl, fun k hk => .inl hk⟩
  have HM : Hid _ := hM
  have HNO : Hid _ := hno
  have HOK : Hid _ := hok
  have HN : Hid ((P.length + rest.length + 1) * 8 ≤ 140737488355328) := hn
  have HY : Hid (cgB l (P ++ Wm.prs l.length ps (rest.take (i + 1))) x y = true) := hy
  clear hM hno hok hn hy
  clear h
  go_enter Tryz.func180, Tryz.ntmps180
  go_wp2_with (go_at_call 224; refine MK.mono ?_; rintro e w2 ⟨rfl, rfl⟩)
  clear MK
  go_loopw [12] (fun t12 W => ∃ (j : Nat) (c' : Ks), j ≤ i + 1 ∧ t12 = .int .i64 ((j : Int) - 1) ∧ Tn w W base l ps rest c P c' j) (fun t12 _ => (i - intOf t12).toNat)
  case atStart => exact ⟨0, c, Nat.zero_le _, rfl, T0⟩
  case round =>
    clear T0
    obtain ⟨j, c', hj, rfl, T⟩ := hrel
    have SM : Calls Tryz.prog 11 #[.pointer (some ⟨c.pc, 0, none⟩), .int .i64 x, .int .i64 y] wr fun e w' => e = .returned (.bool (cgB l (P ++ Wm.prs l.length ps (rest.take j)) x y)) ∧ Kept0 wr w' := by
      rw [← T.pc]
      exact qSame_k wr base l c' _ T.cq.cl x y
    by_cases hj2 : j ≤ i
    · rw [HNO.out j hj2] at SM
      have hx : rest[j]? = some rest[j] := List.getElem?_eq_getElem (by omega)
      have hjl : j < rest.length := by omega
      generalize hrj : rest[j] = n at hx
      clear hrj
      obtain ⟨q, hq⟩ := HOK.out n (List.mem_of_getElem? hx)
      obtain ⟨p, hp, hpo⟩ := Option.bind_eq_some_iff.1 hq
      obtain ⟨hin, _⟩ := okP_some hpo
      have hnl : n < ps.length := (List.getElem?_eq_some_iff.1 hp).1
      have CN : Hid (∀ W, Kept0 wr W → W.cell? ⟨g, j, none⟩ = some (.int .i64 (n : Int))) := fun W K => (HM.out W (T.kept0 K).kept).2 j n hx
      obtain ⟨b, off, rfl, hbl, _, _⟩ := (HM.out wr T.kept).1 n p hp
      have Y : Hid (∀ W, Kept0 wr W → W.cell? ⟨b, off + n * 2, none⟩ = some (.int .i64 p.1) ∧ W.cell? ⟨b, off + n * 2 + 1, none⟩ = some (.int .i64 p.2)) := fun W K => by
        obtain ⟨b', off', he, _, y1, y2⟩ := (HM.out W (T.kept0 K).kept).1 n p hp
        cases he
        exact ⟨y1, y2⟩
      have TM : Hid (∀ W, Kept0 wr W → Calls Tryz.prog 7 #[.pointer (some ⟨c.pc, 0, none⟩), .int .i64 p.1, .int .i64 p.2] W fun e W' => (∃ x, e = .returned (.int .i64 x)) ∧ ∃ c2 : Ks, Tn w W' base l ps rest c P c2 (j + 1)) := fun W K => (T.kept0 K).tell hx hp hin HN.out
      have hjb : rest.length ≤ 17592186044416 := by have := HN.out; omega
      clear hx hq hp hpo hin T
      generalize p.1 = pa at *
      generalize p.2 = pb at *
      go_wp2_with (first | (go_at_call 11; refine SM.mono ?_; rintro e w3 ⟨rfl, K3⟩; have cn := CN.out w3 K3; obtain ⟨y1, y2⟩ := Y.out w3 K3; have TM1 := TM.out (w3.alloc (.cells #[.int .i64 pa, .int .i64 pb] 34)) (K3.alloc _); clear SM) | (go_at_call 7; refine TM1.mono ?_; rintro e w4 ⟨⟨x4, rfl⟩, c4, T4⟩))
      exact ⟨⟨j + 1, c4, by omega, by simp, T4⟩, by simp [intOf]; omega⟩
    · obtain rfl : j = i + 1 := by omega
      rw [HY.out] at SM
      have BK : Hid (∀ W, Kept0 wr W → Calls Tryz.prog 225 #[.pointer (some ⟨c.pc, 0, none⟩), .int .i64 (P.length : Int)] W fun e W' => (∃ x, e = .returned (.bool x)) ∧ ∃ c2 : Ks, Cq W' base l c2 P ∧ Kept c.All w W' ∧ c2.pc = c.pc ∧ (∀ k, c2.All k → c.All k ∨ w.heap.size ≤ k)) := fun W K => (T.kept0 K).back
      have e0 : (((i + 1 : Nat) : Int) - 1) = (i : Int) := by omega
      rw [e0]
      clear T
      go_wp2_with (first | (go_at_call 11; refine SM.mono ?_; rintro e w3 ⟨rfl, K3⟩; have BK1 := BK.out w3 K3) | (go_at_call 225; refine BK1.mono ?_; rintro e w4 ⟨⟨x4, rfl⟩, c4, C4, K4, p4, A4⟩))
      go_ret
      exact ⟨rfl, c4, C4, K4, p4, A4⟩

end Go.Proofs.YtlehlgipbhfioaaGreat

namespace Go.Proofs.YtlehlgipbhfioaaGreat
open Go.RowKit Go.Maps

theorem ownsRow_put {W : World} {base : Nat} {e : TypeId} {g cap m : Nat} {ys : List Value} (h : W.ownsRow base e 1 (.slice (some ⟨g, 0, none⟩) m cap) m ys) {o : Nat} (v : Value) : (W.setCell ⟨g, o, none⟩ v).ownsRow base e 1 (.slice (some ⟨g, 0, none⟩) m cap) m (ys.set o v) := by
  refine ⟨by rw [List.length_set]; exact h.1, ?_⟩
  rcases h.2 with ⟨e', _⟩ | ⟨g', c, cur, e', h1, h2, h3, h4, h5, h6⟩
  · cases e'
  · simp only [Value.slice.injEq, Option.some.injEq, Addr.mk.injEq, and_true, true_and] at e'
    obtain ⟨rfl, rfl⟩ := e'
    refine .inr ⟨g, cap, cur.setIfInBounds o v, rfl, h1, ?_, h3, h4, by simpa using h5, ?_⟩
    · simp [World.setCell, Array.getElem?_modify, h2]
    · rw [← h6, Array.toList_setIfInBounds, List.take_set]

/-- Reversed from both ends on. -/
def revTo (xs : List Nat) (i : Nat) : List Nat := (List.range xs.length).map fun k => if k < i ∨ xs.length ≤ k + i then xs[xs.length - 1 - k]?.getD 0 else xs[k]?.getD 0
theorem revTo_len (xs : List Nat) (i : Nat) : (revTo xs i).length = xs.length := by simp [revTo]
theorem revTo_get (xs : List Nat) (i k : Nat) (hk : k < xs.length) : (revTo xs i)[k]? = some (if k < i ∨ xs.length ≤ k + i then xs[xs.length - 1 - k]?.getD 0 else xs[k]?.getD 0) := by
  simp [revTo, hk]
theorem revTo_zero (xs : List Nat) : revTo xs 0 = xs := by
  apply List.ext_getElem?
  intro k
  by_cases hk : k < xs.length
  · rw [revTo_get xs 0 k hk, if_neg (by omega), List.getElem?_eq_getElem hk]
    rfl
  · rw [List.getElem?_eq_none (by rw [revTo_len]; omega), List.getElem?_eq_none (by omega)]
theorem revTo_all (xs : List Nat) (i : Nat) (h : xs.length ≤ 2 * i + 1) : revTo xs i = xs.reverse := by
  apply List.ext_getElem?
  intro k
  by_cases hk : k < xs.length
  · rw [revTo_get xs i k hk, List.getElem?_reverse hk]
    by_cases e : k < i ∨ xs.length ≤ k + i
    · rw [if_pos e, List.getElem?_eq_getElem (by omega)]
      rfl
    · rw [if_neg e, show xs.length - 1 - k = k by omega, List.getElem?_eq_getElem hk]
      rfl
  · rw [List.getElem?_eq_none (by rw [revTo_len]; omega), List.getElem?_eq_none (by rw [List.length_reverse]; omega)]
theorem revTo_succ (xs : List Nat) (i : Nat) (h : 2 * i + 1 < xs.length) : revTo xs (i + 1) = ((revTo xs i).set i (xs[xs.length - 1 - i]?.getD 0)).set (xs.length - 1 - i) (xs[i]?.getD 0) := by
  apply List.ext_getElem?
  intro k
  by_cases hk : k < xs.length
  · rw [revTo_get xs (i + 1) k hk]
    by_cases e1 : k = xs.length - 1 - i
    · have hc : k < i + 1 ∨ xs.length ≤ k + (i + 1) := by omega
      have hl : xs.length - 1 - i < ((revTo xs i).set i (xs[xs.length - 1 - i]?.getD 0)).length := by rw [List.length_set, revTo_len]; omega
      rw [if_pos hc, List.getElem?_set, if_pos e1.symm, if_pos hl, e1, show xs.length - 1 - (xs.length - 1 - i) = i by omega]
    · rw [List.getElem?_set_ne (Ne.symm e1)]
      by_cases e2 : k = i
      · subst e2
        have hc : k < k + 1 ∨ xs.length ≤ k + (k + 1) := by omega
        have hl : k < (revTo xs k).length := by rw [revTo_len]; omega
        rw [if_pos hc, List.getElem?_set, if_pos rfl, if_pos hl]
      · rw [List.getElem?_set_ne (Ne.symm e2), revTo_get xs i k hk]
        congr 1
        by_cases e3 : k < i ∨ xs.length ≤ k + i
        · rw [if_pos e3, if_pos (by omega)]
        · rw [if_neg e3, if_neg (by omega)]
  · rw [List.getElem?_eq_none (by rw [revTo_len]; omega), List.getElem?_eq_none (by rw [List.length_set, List.length_set, revTo_len]; omega)]
theorem natC_set (xs : List Nat) (i x : Nat) : natC (xs.set i x) = (natC xs).set i (.int .i64 (x : Int)) := by simp [natC, List.map_set]

set_option maxHeartbeats 2000000 in
set_option maxRecDepth 100000 in
theorem reverse_in (w : World) (base : Nat) (v : Value) (xs : List Nat) (h : w.ownsRow base 3 1 v xs.length (natC xs)) (hn : xs.length ≤ 17592186044416) :
    Calls Tryz.prog 181 #[v] w fun e w' => e = .returned (.tuple #[]) ∧ w'.ownsRow base 3 1 v xs.length (natC xs.reverse) ∧ Kept (fun k => v.ownBlock = some k) w w' := by
  obtain ⟨va, vc, hv⟩ := row_form' h
  subst hv
  have h0 : w.ownsRow base 3 1 (.slice va xs.length vc) xs.length (natC (revTo xs 0)) := by rw [revTo_zero]; exact h
  clear h
  go_enter Tryz.func181, Tryz.ntmps181
  go_wp2_with fail
  go_loopw [2, 3] (fun t2 t3 W => ∃ i : Nat, 2 * i ≤ xs.length + 1 ∧ t2 = .int .i64 (i : Int) ∧ t3 = .int .i64 ((xs.length : Int) - 1 - i) ∧ W.ownsRow base 3 1 (.slice va xs.length vc) xs.length (natC (revTo xs i)) ∧ Kept (fun k => (Value.slice va xs.length vc).ownBlock = some k) w W) (fun t2 _ _ => xs.length - (intOf t2).toNat)
  case atStart => exact ⟨0, by omega, rfl, by simp, h0, Kept.refl _ _⟩
  case round =>
    clear h0
    obtain ⟨i, hi, rfl, rfl, R, K⟩ := hrel
    by_cases hi2 : 2 * i + 1 < xs.length
    · have di : decide ((i : Int) < (xs.length : Int) - 1 - i) = true := decide_eq_true (by omega)
      have hg : ∃ g, va = some ⟨g, 0, none⟩ := by
        rcases R.2 with ⟨_, e2⟩ | ⟨g, c, cur, e', _⟩
        · omega
        · simp only [Value.slice.injEq] at e'
          exact ⟨g, e'.1⟩
      obtain ⟨g, rfl⟩ := hg
      obtain ⟨j, hj⟩ : ∃ j, j = xs.length - 1 - i := ⟨_, rfl⟩
      have ej : ((xs.length : Int) - 1 - i) = (j : Int) := by omega
      rw [ej] at di ⊢
      have c1 : wr.cell? ⟨g, i, none⟩ = some (.int .i64 ((xs[i]?.getD 0 : Nat) : Int)) := by
        have := R.cellAt i (by omega)
        rw [natC_get, revTo_get xs i i (by omega), if_neg (by omega)] at this
        exact this
      have c2 : wr.cell? ⟨g, j, none⟩ = some (.int .i64 ((xs[j]?.getD 0 : Nat) : Int)) := by
        have := R.cellAt j (by omega)
        rw [natC_get, revTo_get xs i j (by omega), if_neg (by omega)] at this
        exact this
      have f1 := R.frozenAt i
      have f2 := R.frozenAt j
      have hne : i ≠ j := by omega
      have FIN : Hid (((wr.setCell ⟨g, i, none⟩ (.int .i64 ((xs[j]?.getD 0 : Nat) : Int))).setCell ⟨g, j, none⟩ (.int .i64 ((xs[i]?.getD 0 : Nat) : Int))).ownsRow base 3 1 (.slice (some ⟨g, 0, none⟩) xs.length vc) xs.length (natC (revTo xs (i + 1))) ∧ Kept (fun k => (Value.slice (some ⟨g, 0, none⟩) xs.length vc).ownBlock = some k) w ((wr.setCell ⟨g, i, none⟩ (.int .i64 ((xs[j]?.getD 0 : Nat) : Int))).setCell ⟨g, j, none⟩ (.int .i64 ((xs[i]?.getD 0 : Nat) : Int)))) := by
        refine ⟨?_, Kept.setCell (p := ⟨g, j, none⟩) (Kept.setCell (p := ⟨g, i, none⟩) K (by simp [Value.ownBlock]) _) (by simp [Value.ownBlock]) _⟩
        rw [revTo_succ xs i hi2, natC_set, natC_set, ← hj]
        exact ownsRow_put (ownsRow_put R _) _
      have HJ : Hid (j = xs.length - 1 - i) := hj
      have hjl : j < xs.length := by omega
      have hil : i < xs.length := by omega
      have hij : i < j := by omega
      clear R K hj ej
      generalize xs[i]?.getD 0 = x1 at *
      generalize xs[j]?.getD 0 = x2 at *
      go_wp2_with fail
      go_region
      all_goals
        go_wp2_with fail
        refine ⟨⟨i + 1, by omega, by simp, ?_, ownsRow_blockC FIN.out.1 (fun _ _ => rfl), FIN.out.2.drew⟩, by simp [intOf]; omega⟩
        have := HJ.out
        congr 1
        omega
    · have di : decide ((i : Int) < (xs.length : Int) - 1 - i) = false := decide_eq_false (by omega)
      go_wp2_with fail
      go_end0
      have e := revTo_all xs i (by omega)
      rw [e] at R
      exact ⟨rfl, R, K⟩

end Go.Proofs.YtlehlgipbhfioaaGreat
