/- Package logic: Clauses. Package logic: fold over literals: what it goes round with. -/
import Derived.Test.YtinphcnknionmabP22
import Derived.Test.YtinphcnknionmabP29
import Derived.Test.YtinphcnknionmabLoYb
import Derived.Test.YtinphcnknionmabP30
import Derived.Test.YtinphcnknionmabLoR
namespace Go.Proofs.Ytinphcnknionmab
open Go.RowKit Go.Shelf

attribute [local go_sem] store_map store_func

/-- What Clauses makes first. -/
def clW (w : World) (op x y : Int) (kv : Value) : World :=
  ((w.alloc (.cells #[.int .i64 op, .int .i64 x, .int .i64 y, kv] 31)).alloc (.map #[] 0)).alloc (.cells #[.map (some (w.heap.size + 1)), .int .i64 0, .slice none 0 0] 69)

/-- What is known while the atoms get their numbers. -/
structure ClS (w W : World) (t : Lf) (u : Value) (ps : List (Int × Int)) (i : Nat) : Prop where
  below : Below w.heap.size w W
  here : Here W t
  maker : Mk (fun k => k = w.heap.size + 2 ∨ k = w.heap.size + 1) W (w.heap.size + 2) (w.heap.size + 1) (ps.take i) (.slice none 0 0) (i, [])
  row : W.ownsRow (w.heap.size + 3) 28 2 u ps.length (pairC ps)

theorem clW_at (w : World) (op x y : Int) (kv : Value) (kids : List Lf) (hk : KidsIn kv kids) (hks : ∀ k ∈ kids, Here w k) :
    Below w.heap.size w (clW w op x y kv) ∧ Here (clW w op x y kv) (.mk w.heap.size 0 op x y kv kids) ∧ (clW w op x y kv).heap.size = w.heap.size + 3 ∧
    Mk (fun k => k = w.heap.size + 2 ∨ k = w.heap.size + 1) (clW w op x y kv) (w.heap.size + 2) (w.heap.size + 1) [] (.slice none 0 0) (0, []) := by
  have hz1 : (w.alloc (.cells #[.int .i64 op, .int .i64 x, .int .i64 y, kv] 31)).heap.size = w.heap.size + 1 := by simp
  have hz2 : ((w.alloc (.cells #[.int .i64 op, .int .i64 x, .int .i64 y, kv] 31)).alloc (.map #[] 0)).heap.size = w.heap.size + 2 := by simp
  have hB : Below w.heap.size w (clW w op x y kv) := (((Below.refl _ w).alloc (Nat.le_refl _) _).alloc (by simp) _).alloc (by simp; omega) _
  have K : FKeepA (fun k => k < w.heap.size) w (clW w op x y kv) := fun k _ _ hlt hk => (hB.block k hlt).trans hk
  have hz3 : (clW w op x y kv).heap.size = w.heap.size + 3 := by simp [clW]
  refine ⟨hB, LayA.mk trivial ?_ hk (fun k hkk => ?_), hz3, fun k hk => by rw [hz3]; omega, Or.inl rfl, Or.inr rfl, by simp [Value.ownBlock], ?_, ?_, [], World.ownsRow_nil _ _ _ _, rfl, by simp⟩
  · refine ⟨#[.int .i64 op, .int .i64 x, .int .i64 y, kv], (0, 0), ?_, rfl, rfl, rfl, rfl⟩
    unfold clW
    rw [Below.heap_alloc _ _ _ (by simp; omega), Below.heap_alloc _ _ _ (by simp)]
    exact World.alloc_heap_new w _
  · exact ((hks k hkk).lt.mono (fun _ h => h.2)).keep K |>.mono (fun _ _ => trivial)
  · have := made_row ((w.alloc (.cells #[.int .i64 op, .int .i64 x, .int .i64 y, kv] 31)).alloc (.map #[] 0)) #[.map (some (w.heap.size + 1)), .int .i64 0, .slice none 0 0] 69
    rw [hz2] at this
    refine World.rowIs.congr this (fun j hj => ?_)
    have : j = 0 ∨ j = 1 ∨ j = 2 := by omega
    rcases this with rfl | rfl | rfl <;> rfl
  · have := NumIs.new (w.alloc (.cells #[.int .i64 op, .int .i64 x, .int .i64 y, kv] 31))
    rw [hz1] at this
    refine this.keep ?_
    unfold clW
    rw [Below.heap_alloc _ _ _ (by simp)]

theorem whl_wf {t : Lf} (h : WfF t.er) : whl t = true := by
  cases t with
  | mk b o op x y kv kids =>
    rw [Lf.er] at h
    have hl : kids.length = (kids.map Lf.er).length := by simp
    unfold whl
    simp only [Lf.op, Lf.kids]
    rw [hl]
    generalize kids.map Lf.er = ks at h
    cases h with
    | eq => simp
    | neg => simp
    | two o f g ho => rcases ho with rfl | rfl | rfl <;> simp

theorem ClS.next {w W w5 w6 : World} {O : Obj} {t : Lf} {u : Value} {ps : List (Int × Int)} {i : Nat} {p : Int × Int} (h : ClS w W t u ps i) (hp : ps[i]? = some p) (m : Nat)
    (M5 : Mk (fun k => k = w.heap.size + 2 ∨ k = w.heap.size + 1) w5 (w.heap.size + 2) (w.heap.size + 1) (ps.take i) (.slice none 0 0) (i + 1, [])) (K5 : Kept (fun k => k = w.heap.size + 2) ((W.alloc O).drewN m) w5) (N6 : NumIs w6 (w.heap.size + 1) (ps.take i ++ [p])) (K6 : Kept1 (w.heap.size + 1) w5 w6) : ClS w w6 t u ps (i + 1) := by
  have htk : ps.take (i + 1) = ps.take i ++ [p] := by rw [List.take_add_one, hp]; rfl
  have KW : Kept (fun k => k = w.heap.size + 2) W w5 := (((Kept.refl _ W).alloc O).drewN m).trans K5
  have nb : ∀ k, k < W.heap.size → k ≠ w.heap.size + 2 → k ≠ w.heap.size + 1 → w6.heap[k]? = W.heap[k]? := fun k hk h1 h2 => (K6.block k (Nat.lt_of_lt_of_le hk KW.size) h2).trans (KW.block k hk h1)
  refine ⟨h.below.trans ⟨K6.os.trans KW.os, K6.tape.trans KW.tape, K6.output.trans KW.output, Nat.le_trans KW.size K6.size, fun k hk => nb k (Nat.lt_of_lt_of_le hk h.below.size) (by omega) (by omega)⟩, h.here.keep (fun k c fz _ hk => ?_), ?_, ownsRow_block h.row (fun b hb => ?_)⟩
  · refine (nb k (Array.getElem?_eq_some_iff.1 hk).1 ?_ ?_).trans hk
    · rintro rfl
      obtain ⟨c', hc, _⟩ := h.maker.cells
      rw [hk] at hc
      injection hc with hc
      injection hc with _ hc
      exact absurd hc (by decide)
    · rintro rfl
      obtain ⟨es, ck, e⟩ := h.maker.map.lt
      rw [e] at hk
      cases hk
  · rw [htk]
    have kb : w6.heap[w.heap.size + 2]? = w5.heap[w.heap.size + 2]? := K6.block _ (M5.lt _ M5.smb) (by omega)
    refine ⟨fun k hk => Nat.lt_of_lt_of_le (M5.lt k hk) K6.size, M5.smb, M5.sab, M5.srv, M5.cells.of_block kb, N6, [], World.ownsRow_nil _ _ _ _, rfl, by simp⟩
  · rcases h.row.2 with ⟨e, _⟩ | ⟨g, cap, cur, e, e1, e2, _⟩
    · rw [e] at hb; simp [Value.ownBlock] at hb
    · rw [e] at hb
      simp [Value.ownBlock] at hb
      subst hb
      exact nb _ (Array.getElem?_eq_some_iff.1 e2).1 (by omega) (by omega)

theorem Mk.cl2 {S : Nat → Prop} {W : World} {mb ab : Nat} {ps : List (Int × Int)} {a : Option Addr} {len cap : Nat} {st : Sc} (h : Mk S W mb ab ps (.slice a len cap) st) : len = st.2.length ∧ Cl2 W a st.2 := by
  obtain ⟨rs, h1, h2, h3⟩ := h.rows
  rcases id h1.2 with ⟨e, h0⟩ | ⟨g, c, cur, e, _⟩
  · simp at e
    have : st.2 = [] := List.length_eq_zero_iff.1 (by omega)
    exact ⟨by omega, Or.inl this⟩
  · simp at e
    obtain ⟨rfl, rfl, rfl⟩ := e
    refine ⟨h2, Or.inr ⟨g, 0, rfl, fun i c hi => ?_⟩⟩
    obtain ⟨g', cap', q1, _, q3⟩ := h3 i c hi
    have hlt := (List.getElem?_eq_some_iff.1 q1).1
    exact ⟨_, cap', by rw [Nat.zero_add, h1.cellAt i (by omega)]; exact q1, q3.cls⟩

theorem ats_nodup (l : List (Int × Int)) : (ats l).Nodup := by
  refine snocInd (P := fun l => (ats l).Nodup) ?_ ?_ l
  · simp [ats]
  · intro l p ih
    show (ats (l ++ [p])).Nodup
    rw [ats_snoc]
    split
    · exact ih
    · next h =>
      rw [List.nodup_append]
      refine ⟨ih, by simp, fun a ha b hb => ?_⟩
      simp at hb
      subst hb
      rintro rfl
      exact h ha
theorem nodup_take {α : Type} {l : List α} (h : l.Nodup) {i : Nat} {p : α} (hi : l[i]? = some p) : p ∉ l.take i := by
  intro hm
  obtain ⟨j, hj⟩ := List.getElem?_of_mem hm
  have hjl := (List.getElem?_eq_some_iff.1 hj).1
  rw [List.length_take] at hjl
  rw [List.getElem?_take, if_pos (by omega)] at hj
  have h1 := (List.getElem?_eq_some_iff.1 hi)
  have h2 := (List.getElem?_eq_some_iff.1 hj)
  obtain ⟨a1, b1⟩ := h1
  obtain ⟨a2, b2⟩ := h2
  have := (List.getElem_inj h).1 (b1.trans b2.symm)
  omega

set_option maxRecDepth 100000 in
set_option maxHeartbeats 4000000 in
theorem clauses_w (w : World) (op x y : Int) (ka : Option Addr) (kn kc : Nat) (t : Lf) (f : Fo) (hte : t = .mk w.heap.size 0 op x y (.slice ka kn kc) t.kids) (he : t.er = f) (hv : FIs w (.agg #[.int .i64 op, .int .i64 x, .int .i64 y, .slice ka kn kc]) f) (hN : szF f ≤ 1048576) (hR : RF f) (hk : KidsIn (.slice ka kn kc) t.kids) (hks : ∀ k ∈ t.kids, Here w k) (ps : List (Int × Int)) (hps : ps = ats (eqF f)) (hpl : ps.length ≤ 1048576) (R : Int × Sc) (hR2 : R.2.2.length ≤ 1073741824)
    (FO : Hid (∀ (W : World) (u : Value), ClS w W t u ps ps.length → Calls Try.prog 30 #[.pointer (some ⟨w.heap.size, 0, none⟩), .func (.func 31) #[.pointer (some ⟨w.heap.size + 2, 0, none⟩)] #[]] W fun e w' => e = .returned (.int .i64 R.1) ∧ Made (fun k => k = w.heap.size + 2 ∨ k = w.heap.size + 1) W w' (w.heap.size + 2) (w.heap.size + 1) ps (.slice none 0 0) R.2)) :
    Calls Try.prog 14 #[.agg #[.int .i64 op, .int .i64 x, .int .i64 y, .slice ka kn kc]] w fun e w' => ∃ ca cc, e = .returned (.tuple #[.slice ca (R.2.2 ++ [[R.1]]).length cc, .int .i64 (R.2.1 : Int)]) ∧ Cl2 w' ca (R.2.2 ++ [[R.1]]) ∧ Below w.heap.size w w' := by
  have hmm := @run_makeMap Try.prog
  obtain ⟨B3, H3, Z3, M3⟩ := clW_at w op x y (.slice ka kn kc) t.kids hk hks
  rw [← hte] at H3
  have AT := atomsF_in (clW w op x y (.slice ka kn kc)) _ f (hv.keep B3) (by omega) hR
  rw [← hps] at AT
  have hP64 : Hid (∀ p ∈ ps, P64 p) := fun p hp => by
    rw [hps, mem_ats, ← he, ← eqs_er] at hp
    exact eqs_R (by rw [he]; exact hR) p hp
  have hnd : Hid (∀ i p, ps[i]? = some p → p ∉ ps.take i) := fun i p hi => by
    have := ats_nodup (eqF f)
    rw [← hps] at this
    exact nodup_take this hi
  clear hv hN hR hk hks hps he hte
  unfold clW at *
  go_enter Try.func14, Try.ntmps14
  go_wp2_with (first | (go_at_call 11; refine AT.mono ?_; rintro e w4 ⟨u, rfl, R4, B4⟩; obtain ⟨ua, uc, hu⟩ := row_form R4; subst hu; refine Aside.out ?_))
  delta Aside
  generalize hw3 : ((w.alloc (.cells #[.int .i64 op, .int .i64 x, .int .i64 y, .slice ka kn kc] 31)).alloc (.map #[] 0)).alloc (.cells #[.map (some (w.heap.size + 1)), .int .i64 0, .slice none 0 0] 69) = w3 at *
  have S4 : ClS w w4 t (.slice ua ps.length uc) ps 0 := ⟨B3.trans (B4.mono B3.size), H3.keep (fun k _ _ _ hk => (B4.block k (Array.getElem?_eq_some_iff.1 hk).1).trans hk), M3.keep B4.size (fun k hk => B4.block k (M3.lt k hk)), Z3 ▸ R4⟩
  clear hw3 AT B3 H3 Z3 M3 R4 B4 hmm
  apply_assumption
  go_wp2_with fail
  rw [show w.heap.size + 1 + 1 = w.heap.size + 2 from rfl]
  go_loopw [12] (fun t12 W => ∃ i : Nat, i ≤ ps.length ∧ t12 = .int .i64 (i : Int) ∧ Hid (ClS w W t (.slice ua ps.length uc) ps i)) (fun t12 _ => ps.length - (intOf t12).toNat)
  case atStart => exact ⟨0, by omega, rfl, S4⟩
  case round =>
    obtain ⟨i, hi, rfl, HS⟩ := hrel
    clear S4
    by_cases hi2 : i < ps.length
    · have di : decide ((i : Int) < (ps.length : Int)) = true := decide_eq_true (by omega)
      have hpi : ps[i]? = some ps[i] := List.getElem?_eq_getElem hi2
      obtain ⟨g, gc, hv, hg1, _, q0, q1⟩ := row_cells HS.out.row hpi
      simp only [Value.slice.injEq, true_and] at hv
      obtain ⟨rfl, rfl⟩ := hv
      have hp6 := hP64.out _ (List.mem_of_getElem? hpi)
      have hpn := hnd.out i _ hpi
      have HN : Hid (∀ {w5 w6 : World} {O : Obj} (m : Nat), _ → _ → _ → _ → ClS w w6 t (.slice (some ⟨g, 0, none⟩) ps.length uc) ps (i + 1)) := fun {w5 w6 O} m => HS.out.next (w5 := w5) (w6 := w6) (O := O) hpi m
      generalize ps[i] = p at *
      obtain ⟨p1, p2⟩ := p
      simp only at q0 q1
      have V : ∀ (O : Obj) (m : Nat), Calls Try.prog 28 #[.pointer (some ⟨w.heap.size + 2, 0, none⟩)] ((wr.alloc O).drewN m) fun e w' => e = .returned (.int .i64 ((i + 1 : Nat) : Int)) ∧ Mk (fun k => k = w.heap.size + 2 ∨ k = w.heap.size + 1) w' (w.heap.size + 2) (w.heap.size + 1) (ps.take i) (.slice none 0 0) (i + 1, []) ∧ Kept (fun k => k = w.heap.size + 2) ((wr.alloc O).drewN m) w' := fun O m => variable_in _ _ _ _ _ _ (i, []) (HS.out.maker.keep (by simp) (fun k hk => Below.heap_alloc wr O k (HS.out.maker.lt k hk))) (by simp; omega)
      have cm : wr.cell? ⟨w.heap.size + 2, 0, none⟩ = some (.map (some (w.heap.size + 1))) := HS.out.maker.cells.cell (i := 0) (by omega)
      have hmb := HS.out.maker.cells.lt
      have hgl : g < wr.heap.size := World.block_lt_of_cell? wr _ q0
      have hlt : (ps.take i).length = i := by rw [List.length_take]; omega
      have ME : Hid (∀ w5 : World, Mk (fun k => k = w.heap.size + 2 ∨ k = w.heap.size + 1) w5 (w.heap.size + 2) (w.heap.size + 1) (ps.take i) (.slice none 0 0) (i + 1, []) → ∃ W2, (Instr.mapUpdate 64 (.map (some (w.heap.size + 1))) (.agg #[.int .i64 p1, .int .i64 p2]) (.int .i64 ((i : Int) + 1))).run Try.prog w5 = .ok () W2 ∧ NumIs W2 (w.heap.size + 1) (ps.take i ++ [(p1, p2)]) ∧ Kept1 (w.heap.size + 1) w5 W2 ∧ w5.cell? ⟨w.heap.size + 2, 0, none⟩ = some (.map (some (w.heap.size + 1)))) := fun w5 M5 => by
        obtain ⟨W2, h1, h2, h3⟩ := M5.map.store hp6 hpn (by rw [hlt]; omega)
        rw [hlt, show ((i + 1 : Nat) : Int) = (i : Int) + 1 by omega] at h1
        exact ⟨W2, h1, h2, h3, M5.cells.cell (i := 0) (by omega)⟩
      have CP : Hid (∀ (O : Obj) (m : Nat) (w5 : World) (a b : Value), O = .cells #[a, b] 28 → Kept (fun k => k = w.heap.size + 2) ((wr.alloc O).drewN m) w5 → w5.cell? ⟨wr.heap.size, 0, none⟩ = some a ∧ w5.cell? ⟨wr.heap.size, 1, none⟩ = some b) := fun O m w5 a b hO K => by
        have hb : w5.heap[wr.heap.size]? = (wr.alloc O).heap[wr.heap.size]? := K.block _ (by simp [World.drewN]) (by omega)
        have hn := made_row wr #[a, b] 28
        rw [hO] at hb
        exact ⟨(World.cell?_of_block (a := ⟨wr.heap.size, 0, none⟩) hb).trans (hn.cell (i := 0) (by simp)), (World.cell?_of_block (a := ⟨wr.heap.size, 1, none⟩) hb).trans (hn.cell (i := 1) (by simp))⟩
      clear HS hP64 hnd FO hp6 hpn hlt
      have V1 := V (.cells #[.int .i64 p1, .int .i64 p2] 28) 1
      have wrp : IntKind.i64.wrap ((i : Int) + 1) = (i : Int) + 1 := by rw [IntKind.wrap_i64]; omega
      clear V
      go_wp2_with fail
      go_region_with (go_at_call 28; refine V1.mono ?_; rintro e w5 ⟨rfl, M5, K5⟩; obtain ⟨w6, hU, hN6, K6, cm5⟩ := ME.out w5 M5; obtain ⟨e0, e1⟩ := CP.out _ 1 w5 _ _ rfl K5)
      all_goals
        try simp only [Act.put, List.getElem_toArray, List.getElem_cons_succ, List.getElem_cons_zero, List.setIfInBounds_toArray, List.set_cons_succ, List.set_cons_zero]
        go_wp2_with fail
        exact ⟨⟨i + 1, hi2, by simp, HN.out 1 M5 K5 hN6 K6⟩, by simp [intOf]; omega⟩
    · have di : decide ((i : Int) < (ps.length : Int)) = false := decide_eq_false (by omega)
      obtain rfl : i = ps.length := by omega
      have F1 := FO.out wr _ HS.out
      have HB : Hid (Below w.heap.size w wr ∧ _) := And.intro HS.out.below HS.out.maker
      clear HS hP64 hnd FO
      go_wp2_with (first | (go_at_call 30; refine F1.mono ?_; rintro e w5 ⟨rfl, M5⟩; refine Aside.out ?_))
      delta Aside
      obtain ⟨S5, rv5, X5⟩ := M5
      have Y5 := Made.say X5.is (by omega) 1 [R.1]
      have H5 : Hid (∀ k, rv5.ownBlock = some k → w.heap.size ≤ k) := fun k hk => by
        rcases X5.at_ with e | e
        · rw [e] at hk; simp [Value.ownBlock] at hk
        · exact Nat.le_trans HB.out.1.size (e k hk)
      apply_assumption
      go_wp2_with (first | (go_at_call 29; refine Y5.mono ?_; rintro e w6 ⟨rfl, M6⟩; refine Aside.out ?_))
      delta Aside
      obtain ⟨S6, rv6, X6⟩ := M6
      obtain ⟨rs6, r6, hX6⟩ := X6.is.rows
      obtain ⟨va, vc, hv6⟩ := row_formM r6
      subst hv6
      have c1 : w6.cell? ⟨w.heap.size + 2, 1, none⟩ = some (.int .i64 (R.2.1 : Int)) := X6.is.cells.cell (i := 1) (by omega)
      have c2 : w6.cell? ⟨w.heap.size + 2, 2, none⟩ = some (.slice va rs6.length vc) := X6.is.cells.cell (i := 2) (by omega)
      obtain ⟨hl6, hcl6⟩ := X6.is.cl2
      have HF : Hid (_ ∧ _ ∧ _ ∧ _) := And.intro hl6 (And.intro hcl6 (And.intro X5.kept X6.kept))
      clear X5 X6 r6 hl6 hcl6 Y5 F1 hX6
      apply_assumption
      go_wp2_with fail
      go_quiet (fail)
      go_wp2_with fail
      obtain ⟨hl6, hcl6, K5, K6⟩ := HF.out
      refine ⟨rfl, .tuple #[.slice va rs6.length vc, .int .i64 (R.2.1 : Int)], by simp [results, Try.results14], ?_⟩
      refine ⟨va, vc, by rw [hl6], ?_, ?_⟩
      · rcases hcl6 with e | ⟨g, off, h1, h2⟩
        · exact Or.inl e
        · exact Or.inr ⟨g, off, h1, h2⟩
      · have B5 : Below w.heap.size w w5 := HB.out.1.trans ⟨K5.os, K5.tape, K5.output, K5.size, fun k hk => K5.block k (Nat.lt_of_lt_of_le hk HB.out.1.size) (by rintro (e | e); omega; simp [Value.ownBlock] at e)⟩
        refine (B5.trans ⟨K6.os, K6.tape, K6.output, K6.size, fun k hk => K6.block k (Nat.lt_of_lt_of_le hk B5.size) ?_⟩).trans ⟨rfl, rfl, rfl, Nat.le_refl _, fun _ _ => rfl⟩
        rintro (e | e)
        · omega
        · have := H5.out k e
          omega

end Go.Proofs.Ytinphcnknionmab

namespace Go.Proofs.Ytinphcnknionmab
open Go.RowKit Go.Shelf

def litC (l : List Int) : List Value := l.map fun c => Value.int .i64 c
theorem infoIntF : (Try.prog.info? 3).map (fun i => (i.zero, i.size, i.bytes)) = some (some (.int .i64 0), 1, 8) := by kernel_rfl

theorem Mk.ow {S : Nat → Prop} {W W' : World} {B mb ab : Nat} {ps : List (Int × Int)} {rv : Value} {st : Sc} (h : Mk S W mb ab ps rv st) (hO : Ow 115 B W W') (hab : ab < B) : Mk S W' mb ab ps rv st := by
  obtain ⟨rs, h1, h2, h3⟩ := h.rows
  refine ⟨fun k hk => Nat.lt_of_lt_of_le (h.lt k hk) hO.size, h.smb, h.sab, h.srv, hO.rowIs (by decide) h.cells, h.map.keep ?_, rs, hO.ownsRow (by decide) h1, h2, fun i c hi => ?_⟩
  · obtain ⟨es, ck, e⟩ := h.map.lt
    rw [e]
    exact hO.same _ _ e (Or.inl hab)
  · obtain ⟨g, cap, q1, q2, q3⟩ := h3 i c hi
    obtain ⟨N, F, r1, r2, r3⟩ := q3
    exact ⟨g, cap, q1, q2, N, F, r1, hO.rowIs (by decide) r2, r3⟩

/-- What fold goes round with. -/
structure FiAt (w W : World) (t : Lf) (fv v : Value) (mb ab : Nat) (ps : List (Int × Int)) (rv0 : Value) (S0 S : Nat → Prop) (rv : Value) (s : List Int × Sc) : Prop where
  made : MadeX S0 w rv0 S W rv mb ab ps s.2
  lo : mb < w.heap.size ∧ ab < w.heap.size
  here : Here W t
  fn : W.rowIs w.heap.size 73 1 (fun _ => fv)
  box : W.rowIs (w.heap.size + 1) 27 1 (fun _ => v)
  row : W.ownsRow w.heap.size 3 1 v s.1.length (litC s.1)
  sep : ∀ k, S k → k ≠ w.heap.size ∧ k ≠ w.heap.size + 1 ∧ v.ownBlock ≠ some k

theorem MadeX.ow {S S' : Nat → Prop} {w W W' : World} {B mb ab : Nat} {ps : List (Int × Int)} {rv rv' : Value} {st : Sc} (h : MadeX S w rv S' W rv' mb ab ps st) (hO : Ow 115 B W W') (hB : w.heap.size ≤ B) (hab : ab < w.heap.size) : MadeX S w rv S' W' rv' mb ab ps st := by
  refine ⟨h.is.ow hO (by omega), h.new, h.at_, ⟨hO.os.trans h.kept.os, hO.tape.trans h.kept.tape, hO.output.trans h.kept.output, Nat.le_trans h.kept.size hO.size, fun k hk hn => ?_⟩⟩
  have h1 := h.kept.block k hk hn
  rw [← h1]
  cases hh : W.heap[k]? with
  | none =>
    have h2 := Array.getElem?_eq_none_iff.1 hh
    have h3 := h.kept.size
    omega
  | some o => exact hO.same k o hh (Or.inl (by omega))

theorem FiAt.ow {w W W' : World} {B : Nat} {t : Lf} {fv v : Value} {mb ab : Nat} {ps : List (Int × Int)} {rv0 rv : Value} {S0 S : Nat → Prop} {s : List Int × Sc} (h : FiAt w W t fv v mb ab ps rv0 S0 S rv s) (hO : Ow 115 B W W') (hB : w.heap.size ≤ B) : FiAt w W' t fv v mb ab ps rv0 S0 S rv s :=
  ⟨h.made.ow hO hB h.lo.2, h.lo, h.here.keep (hO.fkeep.toA _), hO.rowIs (by decide) h.fn, hO.rowIs (by decide) h.box, hO.ownsRow (by decide) h.row, h.sep⟩

theorem intsAt_drop {W : World} {base : Nat} {g n c m : Nat} {vs : List Int} (h : W.ownsRow base 3 1 (.slice (some ⟨g, 0, none⟩) n c) n (litC vs)) (hn : n = vs.length) (cc : Nat) : IntsAt W (.slice (some ⟨g, m, none⟩) (n - m) cc) (vs.drop m) := by
  refine ⟨_, cc, by rw [List.length_drop, hn], Or.inr ⟨g, m, rfl, fun j b hj => ?_⟩⟩
  rw [List.getElem?_drop] at hj
  have hlt := (List.getElem?_eq_some_iff.1 hj).1
  have := h.cellAt (m + j) (by omega)
  rw [this]
  simp [litC, hj]

/-- One value more, behind some of them. -/
theorem FiAt.push {w W w7 w8 : World} {O : Obj} {t : Lf} {fv v v8 : Value} {mb ab : Nat} {ps : List (Int × Int)} {rv0 rv rv' : Value} {S0 S S' : Nat → Prop} {s : List Int × Sc} {st' : Sc} {m : Nat} {r : Int} (h : FiAt w W t fv v mb ab ps rv0 S0 S rv s) (X : MadeX S W rv S' w7 rv' mb ab ps st') (hm : m ≤ s.1.length) (hown : w8.ownsRow w.heap.size 3 1 v8 (m + 1) ((litC s.1).take m ++ [.int .i64 r])) (hgrow : (w7.alloc O).grownBy w8 v.ownBlock) (hloc : v8.ownBlock = v.ownBlock ∨ ∀ k, v8.ownBlock = some k → (w7.alloc O).heap.size ≤ k) (B : Nat) :
    FiAt w (w8.setCell ⟨w.heap.size + 1, 0, none⟩ v8) t fv v8 mb ab ps rv0 S0 S' rv' (s.1.take m ++ [r], st') ∧ Kr WTy B W (w8.setCell ⟨w.heap.size + 1, 0, none⟩ v8) := by
  have hbt : ∀ k, v.ownBlock = some k → w.heap.size ≤ k ∧ k < W.heap.size ∧ ∃ c, W.heap[k]? = some (Obj.cells c 3 (0, 0)) := fun k hk => by
    rcases h.row.2 with ⟨e, _⟩ | ⟨g, cap, cur, e, e1, e2, _⟩
    · rw [e] at hk; simp [Value.ownBlock] at hk
    · rw [e] at hk
      simp [Value.ownBlock] at hk
      subst hk
      exact ⟨e1, (Array.getElem?_eq_some_iff.1 e2).1, cur, e2⟩
  have hrt : ∀ k, rv.ownBlock = some k → S k ∧ ∃ c, W.heap[k]? = some (Obj.cells c 27 (0, 0)) := fun k hk => by
    refine ⟨h.made.is.srv k hk, ?_⟩
    obtain ⟨rs, h1, _⟩ := h.made.is.rows
    rcases h1.2 with ⟨e, _⟩ | ⟨g, cap, cur, e, e1, e2, _⟩
    · rw [e] at hk; simp [Value.ownBlock] at hk
    · rw [e] at hk
      simp [Value.ownBlock] at hk
      subst hk
      exact ⟨cur, e2⟩
  have hz7 : W.heap.size ≤ w7.heap.size := X.kept.size
  have hz8 : w7.heap.size < w8.heap.size := by have := hgrow.size; simp at this; omega
  have hsz : (w8.setCell ⟨w.heap.size + 1, 0, none⟩ v8).heap.size = w8.heap.size := by simp [World.setCell]
  -- blocks that stay
  have st7 : ∀ k, k < w7.heap.size → v.ownBlock ≠ some k → k ≠ w.heap.size + 1 → (w8.setCell ⟨w.heap.size + 1, 0, none⟩ v8).heap[k]? = w7.heap[k]? := fun k hk h1 h2 =>
    (Below.heap_setCell _ _ _ _ h2).trans ((hgrow.block k (by simp; omega) (fun e => h1 e.symm)).trans (Below.heap_alloc w7 O k hk))
  have st : ∀ k, k < W.heap.size → k ≠ mb → rv.ownBlock ≠ some k → v.ownBlock ≠ some k → k ≠ w.heap.size + 1 → (w8.setCell ⟨w.heap.size + 1, 0, none⟩ v8).heap[k]? = W.heap[k]? := fun k hk h1 h2 h3 h4 =>
    (st7 k (by omega) h3 h4).trans (X.kept.block k hk (by rintro (e | e); exact h1 e; exact h2 e))
  have smb := h.made.is.smb
  have tmb : ∃ c, W.heap[mb]? = some (Obj.cells c 69 (0, 0)) := by obtain ⟨c, hc, _⟩ := h.made.is.cells; exact ⟨c, hc⟩
  have tbx : ∃ c, W.heap[w.heap.size + 1]? = some (Obj.cells c 27 (0, 0)) := by obtain ⟨c, hc, _⟩ := h.box; exact ⟨c, hc⟩
  have nm : ∀ (k : Nat) (o : Obj), W.heap[k]? = some o → (o.isCells = false ∨ OfTy (fun t => t ≠ 3 ∧ t ≠ 27 ∧ t ≠ 69) o) → (w8.setCell ⟨w.heap.size + 1, 0, none⟩ v8).heap[k]? = some o := fun k o hk ho => by
    have no : ∀ {c : Array Value} {ty : TypeId} {fz : Nat × Nat}, W.heap[k]? = some (Obj.cells c ty fz) → (ty = 3 ∨ ty = 27 ∨ ty = 69) → False := fun {c ty fz} hc ht => by
      rw [hk] at hc
      cases hc
      rcases ho with ho | ⟨c', ty', fz', e, e1, e2, e3⟩
      · cases ho
      · cases e
        rcases ht with rfl | rfl | rfl
        · exact e1 rfl
        · exact e2 rfl
        · exact e3 rfl
    refine (st k (Array.getElem?_eq_some_iff.1 hk).1 ?_ ?_ ?_ ?_).trans hk
    · rintro rfl
      obtain ⟨c, hc⟩ := tmb
      exact no hc (Or.inr (Or.inr rfl))
    · intro e
      obtain ⟨_, c, hc⟩ := hrt k e
      exact no hc (Or.inr (Or.inl rfl))
    · intro e
      obtain ⟨_, _, c, hc⟩ := hbt k e
      exact no hc (Or.inl rfl)
    · rintro rfl
      obtain ⟨c, hc⟩ := tbx
      exact no hc (Or.inr (Or.inl rfl))
  have hne : v.ownBlock ≠ some (w.heap.size + 1) := rowIs_type h.box (by decide) h.row
  have hb7 : w7.rowIs (w.heap.size + 1) 27 1 (fun _ => v) := h.box.of_block (X.kept.block _ h.box.lt (by
    rintro (e | e)
    · exact (h.sep mb smb).2.1 e.symm
    · exact (h.sep _ (hrt _ e).1).2.1 rfl))
  have hb8 : w8.rowIs (w.heap.size + 1) 27 1 (fun _ => v) := hb7.of_block ((hgrow.block _ (by simp; have := hb7.lt; omega) (fun e => hne e.symm)).trans (Below.heap_alloc w7 O _ hb7.lt))
  have hne8 : v8.ownBlock ≠ some (w.heap.size + 1) := rowIs_type hb8 (by decide) hown
  have e1 : litC (s.1.take m ++ [r]) = (litC s.1).take m ++ [.int .i64 r] := by simp [litC, List.map_take]
  have e2 : (s.1.take m ++ [r]).length = m + 1 := by simp; omega
  have keepS : ∀ k, S' k → (w8.setCell ⟨w.heap.size + 1, 0, none⟩ v8).heap[k]? = w7.heap[k]? := fun k hk => by
    refine st7 k (X.is.lt k hk) ?_ ?_
    · rcases X.new k hk with e | e
      · exact (h.sep k e).2.2
      · intro e'
        have := (hbt k e').2.1
        omega
    · rcases X.new k hk with e | e
      · exact (h.sep k e).2.1
      · have := h.box.lt
        omega
  refine ⟨⟨⟨X.is.keep (by omega) keepS, fun k hk => ?_, ?_, ?_⟩, h.lo, ?_, ?_, ?_, ?_, fun k hk => ?_⟩, ⟨by omega, fun k o hk ho => nm k o hk (ho.imp (fun x => x.2) ?_)⟩⟩
  · rcases X.new k hk with e | e
    · exact h.made.new k e
    · exact Or.inr (by have := h.made.kept.size; omega)
  · rcases X.at_ with e | e
    · rw [e]; exact h.made.at_
    · exact Or.inr (fun k hk => by have := e k hk; have := h.made.kept.size; omega)
  · have K8 : (w8.setCell ⟨w.heap.size + 1, 0, none⟩ v8).os = w.os ∧ (w8.setCell ⟨w.heap.size + 1, 0, none⟩ v8).tape = w.tape ∧ (w8.setCell ⟨w.heap.size + 1, 0, none⟩ v8).output = w.output := ⟨hgrow.os.trans (X.kept.os.trans h.made.kept.os), hgrow.tape.trans (X.kept.tape.trans h.made.kept.tape), hgrow.output.trans (X.kept.output.trans h.made.kept.output)⟩
    refine ⟨K8.1, K8.2.1, K8.2.2, by have := h.made.kept.size; omega, fun k hk hn => ?_⟩
    have hkW : k < W.heap.size := Nat.lt_of_lt_of_le hk h.made.kept.size
    refine (st k hkW (fun e => hn (Or.inl e)) ?_ ?_ (by omega)).trans (h.made.kept.block k hk hn)
    · intro e
      rcases h.made.at_ with e' | e'
      · exact hn (Or.inr (by rw [← e']; exact e))
      · have := e' k e
        omega
    · intro e
      have := (hbt k e).1
      omega
  · exact h.here.keep (fun k c fz _ hk => nm k _ hk (Or.inr ⟨c, _, fz, rfl, by decide, by decide, by decide⟩))
  · obtain ⟨c, h1, h2⟩ := h.fn
    exact ⟨c, nm _ _ h1 (Or.inr ⟨c, _, _, rfl, by decide, by decide, by decide⟩), h2⟩
  · exact World.rowIs.congr (hb8.set 0 v8) (fun j hj => by
      have : j = 0 := by omega
      subst this; simp)
  · show (w8.setCell ⟨w.heap.size + 1, 0, none⟩ v8).ownsRow w.heap.size 3 1 v8 (s.1.take m ++ [r]).length (litC (s.1.take m ++ [r]))
    rw [e1, e2]
    exact ownsRow_setCell_other hown hne8 v8
  · have hk7 := X.is.lt k hk
    refine ⟨?_, ?_, ?_⟩
    · rcases X.new k hk with e | e
      · exact (h.sep k e).1
      · have := h.fn.lt
        omega
    · rcases X.new k hk with e | e
      · exact (h.sep k e).2.1
      · have := h.box.lt
        omega
    · rcases hloc with e | e
      · rw [e]
        rcases X.new k hk with e' | e'
        · exact (h.sep k e').2.2
        · intro e2
          have := (hbt k e2).2.1
          omega
      · intro e'
        have := e k e'
        simp at this
        omega
  · rintro ⟨c, ty, fz, e, hty⟩
    refine ⟨c, ty, fz, e, ?_⟩
    rcases hty with rfl | rfl | rfl | rfl | rfl <;> exact ⟨by decide, by decide, by decide⟩

end Go.Proofs.Ytinphcnknionmab
