/- Package find: Undo. -/
import Derived.Test.YtinphcnknionmaaSFindE
namespace Go.Proofs.Ytinphcnknionmaa
open Go.RowKit Go.Shelf

attribute [local go_sem] Oper.semAt_some

/-- The nodes' cells as integers. -/
def nodeF (g : Uf.G) (j : Nat) : Int := if j % 4 = 0 then ((g.N (j / 4)).par : Int) else if j % 4 = 1 then ((g.N (j / 4)).nxt : Int) else if j % 4 = 2 then ((g.N (j / 4)).siz : Int) else ((g.N (j / 4)).lst : Int)
theorem nodeF_eq (g : Uf.G) (j : Nat) : intC (nodeF g) j = nodeC g j := rfl

theorem rowIs_own {W W' : World} {b : Nat} {t : TypeId} {n : Nat} {f : Nat → Value} {row : Option Nat} (h : W.rowIs b t n f) (hg : W.grownBy W' row) (hr : ∀ r, row = some r → ∃ o : Obj, W.heap[r]? = some o ∧ o.isCells = false) : W'.rowIs b t n f := by
  refine h.of_block (hg.block b h.lt ?_)
  intro e
  obtain ⟨o, ho, hc⟩ := hr b e.symm
  obtain ⟨c, hb, _⟩ := h
  rw [hb] at ho
  cases ho
  cases hc

theorem joinC_get (js : List (Nat × Nat)) : ∀ i, i < js.length → (joinC js)[i * 2]? = some (.int .i64 ((js[i]?.getD (0, 0)).1 : Int)) ∧ (joinC js)[i * 2 + 1]? = some (.int .i64 ((js[i]?.getD (0, 0)).2 : Int)) := by
  induction js with
  | nil => intro i hi; simp at hi
  | cons x t ih =>
    intro i hi
    cases i with
    | zero => simp [joinC]
    | succ i =>
      have := ih i (by simpa using hi)
      simp only [joinC, List.flatMap_cons] at this ⊢
      rw [show (i + 1) * 2 = i * 2 + 1 + 1 from by omega]
      simpa using this

theorem joinsAt_of {W0 : World} {base p nb n jb cap : Nat} {g : Uf.G} {t : List Uf.Rec} (L2 : Lies W0 base p nb n g (.slice (some ⟨jb, 0, none⟩) t.length cap) (Uf.recs t)) (m off c : Nat) (hm : m ≤ t.length) (hoff : m < t.length → off = m * 2) :
    JoinsAt W0.heap.size nb W0 (.slice (some ⟨jb, off, none⟩) (t.length - m) c) (t.length - m) (fun j => (Uf.recs t)[m + j]?.getD (0, 0)) := by
  have hL := Uf.recs_length t
  have hj0 := L2.joins
  rw [hL] at hj0
  refine .inr ⟨jb, off, c, rfl, (L2.joins.lt jb rfl).2, fun e => L2.jn (by rw [e]; rfl), fun j hj => ?_⟩
  rw [hoff (by omega)]
  have hg := joinC_get (Uf.recs t) (m + j) (by omega)
  have h1 := hj0.cellAt ((m + j) * 2) (by omega)
  have h2 := hj0.cellAt ((m + j) * 2 + 1) (by omega)
  rw [hg.1] at h1
  rw [hg.2] at h2
  rw [show m * 2 + j * 2 = (m + j) * 2 from by omega]
  exact ⟨h1, h2⟩

/-- Between two rounds of Undo. -/
structure Mid (W0 : World) (p nb n Bp len : Nat) (g : Uf.G) (t : List Uf.Rec) (pre : List { i : Nat // i < len }) (W : World) : Prop where
  box : W.rowIs Bp 47 1 (fun _ => .pointer (some ⟨p, 0, none⟩))
  nodes : ∃ F : Nat → Int, W.rowIs nb 130 (n * 4) (intC F) ∧ (∀ i, i < n → ∃ q : Nat, q < n ∧ F (i * 4) = (q : Int)) ∧ (Down len pre → ∀ j, j < n * 4 → intC F j = nodeC (Uf.back g t pre.length) j)
  kept : KeptN W0.heap.size nb W0 W

theorem mid_own (W0 : World) (p nb n Bp len : Nat) (g : Uf.G) (t : List Uf.Rec) : OwnFrom W0.heap.size (Mid W0 p nb n Bp len g t) := by
  intro pre A B row hs hg hr
  have hr' := fun r e => (hr r e).2
  obtain ⟨F, f1, f2, f3⟩ := hs.nodes
  exact ⟨rowIs_own hs.box hg hr', ⟨F, rowIs_own f1 hg hr', f2, f3⟩, hs.kept.grown hg (fun k e => Or.inr (hr k e).1)⟩

theorem keeps_of_kept {nb B : Nat} {W W' : World} (h : Kept1 nb W W') (hb : nb < B) : KeepsFrom B W W' :=
  KeepsFrom.of_grownBy h.grownBy (fun j e => by cases e; exact hb)

theorem keptN_alloc {n₀ nb : Nat} (W : World) (o : Obj) : KeptN n₀ nb W (W.alloc o) := (Kept.refl _ W).alloc o

theorem keptN_b {n₀ nb : Nat} {w : World} (hn : n₀ ≤ w.heap.size) (W : World) (l : Nat) (o o' : Obj) (hl : w.heap.size ≤ l) (_ : W.heap[l]? = some o) (_ : o.isCells = false) (_ : o.isWalk = false) : KeptN n₀ nb W (W.putObj l o') :=
  (Kept.refl _ W).grown (grownBy_putObj' W l o') (fun k e => by cases e; exact Or.inr (by omega))

/-- A round, on what it is handed. -/
theorem mid_step {W0 : World} {p nb n Bp len : Nat} {g : Uf.G} {t : List Uf.Rec} {pre : List { i : Nat // i < len }} {W W' : World} {m : Nat} (hh : Uf.Hist n g t) (hn : n ≤ 100000) (hlen : m + len = t.length) (x : { i : Nat // i < len })
    (hM : Mid W0 p nb n Bp len g t pre W) (F F' : Nat → Int) (c : Nat) (l : Int) (hx : ((Uf.recs t)[m + x.1]?.getD (0, 0)) = (c, l.toNat)) (hl : 0 ≤ l)
    (f3 : Down len pre → ∀ j, j < n * 4 → intC F j = nodeC (Uf.back g t pre.length) j) (hR : W'.rowIs nb 130 (n * 4) (intC F')) (hC : Cut n F F' c l) (hk : Kept1 nb W W') (hB : Bp ≠ nb) :
    Mid W0 p nb n Bp len g t (pre ++ [x]) W' := by
  refine ⟨hM.box.of_block (hk.block Bp hM.box.lt hB), ⟨F', hR, hC.par, ?_⟩, hM.kept.trans (hk.mono fun k _ e => Or.inl e)⟩
  intro hd
  have hpre : Down len pre := by
    intro r hr
    have := hd r (by simp; omega)
    rwa [List.getElem_append_left hr] at this
  have hxr : x.1 + pre.length + 1 = len := by simpa using hd pre.length (by simp)
  have hlt : pre.length < t.length := by omega
  have hget := Uf.recs_get t pre.length hlt
  rw [show t.length - 1 - pre.length = m + x.1 from by omega] at hget
  rw [hget] at hx
  simp at hx
  have hb := Uf.hist_back n pre.length t g hh
  rw [List.drop_eq_getElem_cons hlt] at hb
  have hsucc := Uf.back_succ pre.length t g t[pre.length] (List.getElem?_eq_getElem hlt)
  generalize t[pre.length] = y at hb hsucc hx
  obtain ⟨r, hr, hc, hne, cc, rr, hle, hback, ht⟩ := hb
  have hok := Uf.ok_hist n _ _ ht
  have hf := f3 hpre
  rw [hback] at hf
  rw [List.length_append, List.length_singleton, hsucc]
  obtain ⟨rfl, hl2⟩ := hx
  have hsz := hok.sizes y.child r hc hr hne cc rr
  exact hC.good y.was r hne hr (hok.parroot _ hc cc) (by rw [← hle, hl2]; omega) (by omega) hf

theorem joinC_take (js : List (Nat × Nat)) (m : Nat) : joinC (js.take m) = (joinC js).take (m * 2) := by
  induction js generalizing m with
  | nil => simp [joinC]
  | cons x t ih =>
    cases m with
    | zero => simp [joinC]
    | succ m =>
      have := ih m
      simp only [joinC, List.take_succ_cons, List.flatMap_cons] at this ⊢
      rw [this, show (m + 1) * 2 = m * 2 + 1 + 1 from by omega]
      simp

theorem ownsRow_cut {w w' : World} {base : Nat} {e : TypeId} {size jb cap L m : Nat} {xs : List Value} (h : w.ownsRow base e size (.slice (some ⟨jb, 0, none⟩) L cap) L xs) (hb : w'.heap[jb]? = w.heap[jb]?) (hm : m ≤ L) :
    w'.ownsRow base e size (.slice (some ⟨jb, 0, none⟩) m cap) m (xs.take (m * size)) := by
  refine ⟨by rw [List.length_take, h.1]; exact Nat.min_eq_left (Nat.mul_le_mul_right _ hm), ?_⟩
  rcases h.2 with ⟨e', _⟩ | ⟨g, c, cur, e', h1, h2, h3, h4, h5, h6⟩
  · cases e'
  · simp only [Value.slice.injEq, Option.some.injEq, Addr.mk.injEq, and_true, true_and] at e'
    obtain ⟨rfl, rfl⟩ := e'
    refine .inr ⟨jb, cap, cur, rfl, h1, hb.trans h2, by omega, h4, h5, ?_⟩
    rw [← h6, List.take_take, Nat.min_eq_left (Nat.mul_le_mul_right _ hm)]

theorem undo_fin {w W0 W : World} {base p nb n Bp len jb cap m : Nat} {g : Uf.G} {t : List Uf.Rec} {ys : List { i : Nat // i < len }} (L2 : Lies W0 base p nb n g (.slice (some ⟨jb, 0, none⟩) t.length cap) (Uf.recs t)) (K2 : Kept (fun _ => False) w W0) (hM : Mid W0 p nb n Bp len g t ys W)
    (hd : Down len ys) (hlen : ys.length = len) (hml : m + len = t.length) (D : Nat) (hD : W0.heap.size ≤ D) :
    Lies ((W.setCell ⟨p, 1, none⟩ (.slice (some ⟨jb, 0, none⟩) m cap)).drew.putObj D (.deferred none)) base p nb n (Uf.back g t len) (.slice (some ⟨jb, 0, none⟩) m cap) (Uf.recs (t.drop len)) ∧
      Kept (Foot p nb (.slice (some ⟨jb, 0, none⟩) t.length cap)) w ((W.setCell ⟨p, 1, none⟩ (.slice (some ⟨jb, 0, none⟩) m cap)).drew.putObj D (.deferred none)) := by
  have hjl : jb < W0.heap.size := (L2.joins.lt jb rfl).2
  have hjp : jb ≠ p := fun e => L2.jp (by rw [e]; rfl)
  have hjn : jb ≠ nb := fun e => L2.jn (by rw [e]; rfl)
  have hpl := L2.sets.lt
  have hnl := L2.nodes.lt
  have hG := grownBy_putObj' (W.setCell ⟨p, 1, none⟩ (.slice (some ⟨jb, 0, none⟩) m cap)).drew D (.deferred none)
  have hz : (W.setCell ⟨p, 1, none⟩ (.slice (some ⟨jb, 0, none⟩) m cap)).drew.heap.size = W.heap.size := by simp [World.setCell, World.drew]
  have hWs := hM.kept.size
  have blk : ∀ k, k < W0.heap.size → ((W.setCell ⟨p, 1, none⟩ (.slice (some ⟨jb, 0, none⟩) m cap)).drew.putObj D (.deferred none)).heap[k]? = (W.setCell ⟨p, 1, none⟩ (.slice (some ⟨jb, 0, none⟩) m cap)).heap[k]? := fun k hk =>
    hG.block k (by rw [hz]; omega) (fun e => by cases e; omega)
  have RP : W.rowIs p 128 2 (setsC nb n (.slice (some ⟨jb, 0, none⟩) t.length cap)) := L2.sets.of_block (hM.kept.block p hpl (by have := L2.ne; omega))
  obtain ⟨F, f1, _, f3⟩ := hM.nodes
  have KW : Kept (Foot p nb (.slice (some ⟨jb, 0, none⟩) t.length cap)) w W :=
    (K2.mono fun _ _ e => e.elim).trans (b := W0) ⟨hM.kept.os, hM.kept.tape, hM.kept.output, hM.kept.size, fun k hk hs => hM.kept.block k hk (fun e => by
      rcases e with e | e
      · exact hs (Or.inr (Or.inl e))
      · omega)⟩
  refine ⟨⟨?_, ?_, ?_, L2.ne, ?_, ?_, L2.bp, L2.bn, L2.small⟩, ?_⟩
  · refine ((RP.set 1 _).of_block (blk p hpl)).congr ?_
    intro i hi
    unfold setsC
    by_cases e : i = 0
    · simp [e]
    · rw [if_pos (by omega), if_neg e]
  · refine ((f1.setOther (Ne.symm L2.ne) _).of_block (blk nb hnl)).congr ?_
    intro j hj
    rw [f3 hd j hj, hlen]
  · have hL := Uf.recs_length t
    rw [Uf.recs_length, List.length_drop, show t.length - len = m from by omega, Uf.recs_drop, show t.length - len = m from by omega, joinC_take]
    have hj0 := L2.joins
    rw [hL] at hj0
    refine ownsRow_cut hj0 ?_ (by omega)
    rw [blk jb hjl]
    exact (Below.heap_setCell _ _ _ _ hjp).trans (hM.kept.block jb hjl (by omega))
  · simpa [Value.ownBlock] using hjp
  · simpa [Value.ownBlock] using hjn
  · refine ⟨?_, ?_, ?_, ?_, ?_⟩
    · exact hG.os.trans KW.os
    · exact hG.tape.trans KW.tape
    · exact hG.output.trans KW.output
    · exact Nat.le_trans KW.size (by have := hG.size; rw [hz] at this; exact this)
    · intro k hk hs
      have hk0 : k < W0.heap.size := Nat.lt_of_lt_of_le hk K2.size
      rw [blk k hk0]
      exact (Below.heap_setCell _ _ _ _ (fun e => hs (Or.inl e))).trans (KW.block k hk hs)

set_option maxRecDepth 100000 in
set_option maxHeartbeats 2000000 in
theorem Undo_in (w : World) (base p nb n : Nat) (g : Uf.G) (t : List Uf.Rec) (jb cap : Nat) (h : Lies w base p nb n g (.slice (some ⟨jb, 0, none⟩) t.length cap) (Uf.recs t)) (hh : Uf.Hist n g t) (m : Nat) (hm : m ≤ t.length) :
    CallsIn .wide 6 Try.prog 31 #[.pointer (some ⟨p, 0, none⟩), .int .i64 m] w fun e w' => e = .returned (.bool true) ∧
      Lies w' base p nb n (Uf.back g t (t.length - m)) (.slice (some ⟨jb, 0, none⟩) m cap) (Uf.recs (t.drop (t.length - m))) ∧ Kept (Foot p nb (.slice (some ⟨jb, 0, none⟩) t.length cap)) w w' := by
  have hL := Uf.recs_length t
  have c1 := h.c1
  refine callsIn_of_wp_marks Try.func31 rfl trivial ?_ rfl
  simp only [Try.ntmps31, List.size_toArray, List.length_cons, List.length_nil, Nat.reduceAdd, Nat.reduceSub, Array.replicate_succ, Array.replicate_zero, List.push_toArray, List.append_toArray, List.nil_append, List.cons_append]
  have hn := h.small
  have hok := Uf.ok_hist n t g hh
  have htn := hok.num_le
  have hcap : t.length ≤ cap ∧ cap ≤ maxLen := by
    rcases h.joins.2 with ⟨e, _⟩ | ⟨b, c, cur, e, _, _, h1, h2, _⟩
    · cases e
    · simp only [Value.slice.injEq] at e
      obtain ⟨_, _, rfl⟩ := e
      rw [hL] at h1; exact ⟨h1, h2⟩
  unfold maxLen at hcap
  obtain ⟨hc1, hc2⟩ := hcap
  have hm0 : decide ((m : Int) < 0) = false := by simp
  have hm1 : decide ((t.length : Int) < (m : Int)) = false := by simp; omega
  have hm2 : ¬ t.length < m := by omega
  have plt := h.sets.lt
  obtain ⟨off, hoff, hsl⟩ : ∃ off, (m < t.length → off = m * 2) ∧ ∀ W, (Instr.slice 126 (.slice (some ⟨jb, 0, none⟩) t.length cap) (some (.int .i64 (m : Int))) none none).run Try.prog W = .ok (.slice (some ⟨jb, off, none⟩) (t.length - m) (cap - m)) W := by
    refine ⟨if cap = m then 0 else m * 2, fun hlt => if_neg (by omega), fun W => ?_⟩
    have hsz : (sizeOf 135).run Try.prog W = .ok 2 W := by
      obtain ⟨i0, hi0, _, hz1, _⟩ := info_parts infoJoin
      simp [sizeOf, typeInfo, hi0, hz1]
    rw [run_slice_l W 126 _ _ _ (by kernel_rfl) .i64 (m : Int) (by omega) (by omega)]
    rw [show Try.prog.elem 126 = 135 from by kernel_rfl, hsz]
    simp only [Result.andThen, sliced, Int.toNat_natCast]
    by_cases e : cap = m
    · simp [e]
    · simp [e, Addr.add]
      exact fun h => h.symm
  have Hoff : Hid (m < t.length → off = m * 2) := hoff
  clear hoff
  have HL : Hid ((Uf.recs t).length = t.length) := hL
  clear hL
  gi_wp2_with fail
  refine ⟨trivial, (callsIn_wide.2 (Mark_in _ _ _ _ _ _ _ _ (h.alloc _))).mono ?_⟩
  rintro e w' ⟨rfl, rfl⟩
  rw [HL.out]
  gi_wp2_with fail
  refine ⟨trivial, (Backward_in .wide _ trivial rfl _ _ _ _).mono ?_⟩
  rintro e w' ⟨rfl, rfl⟩
  gi_wp2_with fail
  have hnl := h.nodes.lt
  have hne := h.ne
  have hjp := h.jp
  have hjn := h.jn
  have L2 := (h.alloc (.cells #[.pointer (some ⟨p, 0, none⟩)] 47)).alloc (.cells #[.slice (some ⟨jb, off, none⟩) (t.length - m) (cap - m)] 126)
  have K2 : Kept (fun _ => False) w ((w.alloc (.cells #[.pointer (some ⟨p, 0, none⟩)] 47)).alloc (.cells #[.slice (some ⟨jb, off, none⟩) (t.length - m) (cap - m)] 126)) := ((Kept.refl _ w).alloc _).alloc _
  have B2 : ((w.alloc (.cells #[.pointer (some ⟨p, 0, none⟩)] 47)).alloc (.cells #[.slice (some ⟨jb, off, none⟩) (t.length - m) (cap - m)] 126)).rowIs w.heap.size 47 1 (fun _ => .pointer (some ⟨p, 0, none⟩)) := by
    refine ((made_row w #[.pointer (some ⟨p, 0, none⟩)] 47).congr ?_).alloc _
    intro i hi
    obtain rfl : i = 0 := by simpa using hi
    rfl
  have S2 : ((w.alloc (.cells #[.pointer (some ⟨p, 0, none⟩)] 47)).alloc (.cells #[.slice (some ⟨jb, off, none⟩) (t.length - m) (cap - m)] 126)).cell? ⟨w.heap.size + 1, 0, none⟩ = some (.slice (some ⟨jb, off, none⟩) (t.length - m) (cap - m)) := by
    have := (made_row (w.alloc (.cells #[.pointer (some ⟨p, 0, none⟩)] 47)) #[.slice (some ⟨jb, off, none⟩) (t.length - m) (cap - m)] 126).cell (i := 0) (by simp)
    rw [World.size_alloc] at this
    exact this
  have Z2 : ((w.alloc (.cells #[.pointer (some ⟨p, 0, none⟩)] 47)).alloc (.cells #[.slice (some ⟨jb, off, none⟩) (t.length - m) (cap - m)] 126)).heap.size = w.heap.size + 2 := by simp
  generalize ((w.alloc (.cells #[.pointer (some ⟨p, 0, none⟩)] 47)).alloc (.cells #[.slice (some ⟨jb, off, none⟩) (t.length - m) (cap - m)] 126)) = W0 at *
  have hJA : JoinsAt W0.heap.size nb W0 (.slice (some ⟨jb, off, none⟩) (t.length - m) (cap - m)) (t.length - m) (fun j => (Uf.recs t)[m + j]?.getD (0, 0)) :=
    joinsAt_of L2 m off (cap - m) hm Hoff.out
  refine wpIn_rangeFunc_ownH rfl (by omega) (gf := 118) (lb := #[.pointer (some ⟨w.heap.size + 1, 0, none⟩)]) rfl trivial (enters_of Try.func118 (by kernel_rfl) rfl)
    (Backward_stops .wide 5 trivial rfl (by omega) (w.heap.size + 1) W0.heap.size nb _ (t.length - m) (fun j => (Uf.recs t)[m + j]?.getD (0, 0)) (by omega) W0 (by omega) (by omega) (Nat.le_refl _) S2 hJA)
    (fun a b => a.trans (b.mono fun k _ hk => hk)) (keptN_b (Nat.le_refl _)) (Below.refl _ _) (fun _ => rfl)
    (Mid W0 p nb n w.heap.size (t.length - m) g t) (fun _ _ _ => False) (mid_own W0 p nb n w.heap.size (t.length - m) g t) (fun _ _ _ _ _ hs _ _ => hs)
    ?start (fun x a' W => ∃ Bx, W.rowIs Bx 135 2 (fun j => if j = 0 then .int .i64 (((Uf.recs t)[m + x.1]?.getD (0, 0)).1 : Int) else .int .i64 (((Uf.recs t)[m + x.1]?.getD (0, 0)).2 : Int)) ∧ ∃ v6 v24 v25, a' = { tmps := #[.pointer (some ⟨p, 0, none⟩), .int .i64 m, .pointer (some ⟨w.heap.size, 0, none⟩), undef, .bool false, undef, .pointer (some ⟨Bx, 0, none⟩),
          .int .i64 m, .bool false, .bool false, .int .i64 m, .pointer (some ⟨p, 0, none⟩), .int .i64 t.length, .bool false, .bool false, .pointer (some ⟨p, 0, none⟩), .bool false, .pointer (some ⟨p, 0, none⟩), .pointer (some ⟨p, 0, none⟩), .pointer (some ⟨p, 1, none⟩),
          .slice (some ⟨jb, 0, none⟩) t.length cap, .int .i64 m, .slice (some ⟨jb, off, none⟩) (t.length - m) (cap - m), .func (.func 118) #[] #[.pointer (some ⟨w.heap.size + 1, 0, none⟩)], v24, v25, v6, undef, undef, undef, undef, undef, undef, undef, undef, undef, undef, undef], defers := [] }) ?hAx ?assign ?body ?done ?stop
  case start =>
    refine ⟨B2, ⟨nodeF g, L2.nodes, fun i hi => ⟨(g.N i).par, hok.parlt i hi, ?_⟩, fun _ j _ => by simp [Uf.back, nodeF_eq]⟩, Kept.refl _ _⟩
    have := nodeC_par g i
    rw [← nodeF_eq] at this
    simpa [intC] using this
  case hAx =>
    rintro x a' _ A B row ⟨Bx, b1, v6, v24, v25, rfl⟩ hg hr
    exact ⟨Bx, rowIs_own b1 hg (fun r e => (hr r e).2), v6, v24, v25, rfl⟩
  case assign =>
    rintro l pre x W K hM hK
    simp only [encJ]
    gi_wp2
    exact hK _ _ ((KeepsOthers.alloc _ _).from _) (keptN_alloc W _) ((mid_own W0 p nb n w.heap.size (t.length - m) g t).alloc _ hM) ⟨W.heap.size, box_row W _ _ _, _, _, _, rfl⟩
  case body =>
    rintro l pre x a' W hl _ hM ⟨Bx, hBx, v6, v24, v25, rfl⟩ hlt
    obtain ⟨F, f1, f2, f3⟩ := hM.nodes
    have hxl := x.2
    have hcn : ((Uf.recs t)[m + x.1]?.getD (0, 0)).1 < n := Uf.recs_child n t g hh _ (by omega)
    have d0 : W.cell? ⟨w.heap.size, 0, none⟩ = some (.pointer (some ⟨p, 0, none⟩)) := hM.box.cell (by omega)
    have d1 := hBx.cell (i := 0) (by omega)
    have d2 := hBx.cell (i := 1) (by omega)
    have d3 : W.cell? ⟨p, 0, none⟩ = some (.slice (some ⟨nb, 0, none⟩) n n) := (World.cell?_of_block (a := ⟨p, 0, none⟩) (hM.kept.block p (by omega) (by omega))).trans L2.c0
    obtain ⟨c, hc⟩ : ∃ c, ((Uf.recs t)[m + x.1]?.getD (0, 0)).1 = c := ⟨_, rfl⟩
    obtain ⟨le, hle⟩ : ∃ c, ((Uf.recs t)[m + x.1]?.getD (0, 0)).2 = c := ⟨_, rfl⟩
    rw [hc] at hcn
    rw [if_pos rfl, hc] at d1
    rw [if_neg (by omega), hle] at d2
    have HX : Hid ((Uf.recs t)[m + x.1]?.getD (0, 0) = (c, (le : Int).toNat)) := by
      show _ = _
      rw [← hc, ← hle]; simp
    clear hc hle hBx
    gi_wp2_with fail
    refine ⟨trivial, (CallsIn.inRound l (callsIn_wide.2 (unhang_any W p nb n F d3 f1 hn f2 c hcn (le : Int)))).mono ?_⟩
    rintro e W' ⟨rfl, ⟨F', hR, hC⟩, hk⟩
    gi_wp2
    exact ⟨keeps_of_kept hk (by omega), hk.mono fun k _ e => Or.inl e, mid_step hh hn (by omega) x hM F F' c (le : Int) HX.out (by omega) f3 hR hC hk (by omega)⟩
  case done =>
    rintro D ys W hD ⟨hd, hlen⟩ hM hK
    have d0 : W.cell? ⟨w.heap.size, 0, none⟩ = some (.pointer (some ⟨p, 0, none⟩)) := hM.box.cell (by omega)
    have RP : W.rowIs p 128 2 (setsC nb n (.slice (some ⟨jb, 0, none⟩) t.length cap)) := L2.sets.of_block (hM.kept.block p (by omega) (by omega))
    have d1 : W.cell? ⟨p, 1, none⟩ = some (.slice (some ⟨jb, 0, none⟩) t.length cap) := RP.cell (i := 1) (by omega)
    have d2 := RP.frozen 1
    have hmc : (m : Int) ≤ (cap : Int) := by omega
    have fin := undo_fin L2 K2 hM hd hlen (m := m) (by omega) D hD
    clear L2 K2 hM
    gi_wp2_with fail
    refine wpIn_wide.2 ?_
    go_region
    gi_wp2
    have hK' := (KeepsOthers.setCell W ⟨p, 1, none⟩ (.slice (some ⟨jb, 0, none⟩) m cap)).same D _ hK rfl
    refine ⟨by simp, .inl ⟨_, _, rfl, run_takeDeferred (w := (W.setCell ⟨p, 1, none⟩ (.slice (some ⟨jb, 0, none⟩) m cap)).drew) hK', ?_⟩⟩
    exact ⟨_, results_tmp rfl _ _ _, rfl, fin.1, fin.2⟩
  case stop =>
    rintro D c pre W _ _ h _
    exact h.elim

theorem undo_fin_nil {w W0 W : World} {base p nb n : Nat} {g : Uf.G} (L2 : Lies W0 base p nb n g (.slice none 0 0) []) (K2 : Kept (fun _ => False) w W0) (hk : Kept (fun k => W0.heap.size ≤ k) W0 W) (D : Nat) (hD : W0.heap.size ≤ D) :
    Lies ((W.setCell ⟨p, 1, none⟩ (.slice none 0 0)).drew.putObj D (.deferred none)) base p nb n g (.slice none 0 0) [] ∧
      Kept (Foot p nb (.slice none 0 0)) w ((W.setCell ⟨p, 1, none⟩ (.slice none 0 0)).drew.putObj D (.deferred none)) := by
  have hpl := L2.sets.lt
  have hnl := L2.nodes.lt
  have hG := grownBy_putObj' (W.setCell ⟨p, 1, none⟩ (.slice none 0 0)).drew D (.deferred none)
  have hz : (W.setCell ⟨p, 1, none⟩ (.slice none 0 0)).drew.heap.size = W.heap.size := by simp [World.setCell, World.drew]
  have hWs := hk.size
  have blk : ∀ k, k < W0.heap.size → ((W.setCell ⟨p, 1, none⟩ (.slice none 0 0)).drew.putObj D (.deferred none)).heap[k]? = (W.setCell ⟨p, 1, none⟩ (.slice none 0 0)).heap[k]? := fun k hk =>
    hG.block k (by rw [hz]; omega) (fun e => by cases e; omega)
  have RP : W.rowIs p 128 2 (setsC nb n (.slice none 0 0)) := L2.sets.of_block (hk.block p hpl (by omega))
  have RN : W.rowIs nb 130 (n * 4) (nodeC g) := L2.nodes.of_block (hk.block nb hnl (by omega))
  refine ⟨⟨?_, (RN.setOther (Ne.symm L2.ne) _).of_block (blk nb hnl), World.ownsRow_nil _ _ _ _, L2.ne, L2.jp, L2.jn, L2.bp, L2.bn, L2.small⟩, ?_⟩
  · refine ((RP.set 1 _).of_block (blk p hpl)).congr ?_
    intro i hi
    unfold setsC
    by_cases e : i = 0
    · simp [e]
    · rw [if_pos (by omega), if_neg e]
  · refine ⟨hG.os.trans (hk.os.trans K2.os), hG.tape.trans (hk.tape.trans K2.tape), hG.output.trans (hk.output.trans K2.output), ?_, ?_⟩
    · have h1 := hG.size
      rw [hz] at h1
      exact Nat.le_trans K2.size (Nat.le_trans hk.size h1)
    · intro k hkk hs
      have hk0 : k < W0.heap.size := Nat.lt_of_lt_of_le hkk K2.size
      rw [blk k hk0]
      exact (Below.heap_setCell _ _ _ _ (fun e => hs (Or.inl e))).trans ((hk.block k hk0 (by omega)).trans (K2.block k hkk (fun e => e)))

set_option maxRecDepth 100000 in
set_option maxHeartbeats 2000000 in
/-- .. without a join. -/
theorem Undo_nil (w : World) (base p nb n : Nat) (g : Uf.G) (h : Lies w base p nb n g (.slice none 0 0) []) :
    CallsIn .wide 6 Try.prog 31 #[.pointer (some ⟨p, 0, none⟩), .int .i64 0] w fun e w' => e = .returned (.bool true) ∧
      Lies w' base p nb n g (.slice none 0 0) [] ∧ Kept (Foot p nb (.slice none 0 0)) w w' := by
  have c1 := h.c1
  refine callsIn_of_wp_marks Try.func31 rfl trivial ?_ rfl
  simp only [Try.ntmps31, List.size_toArray, List.length_cons, List.length_nil, Nat.reduceAdd, Nat.reduceSub, Array.replicate_succ, Array.replicate_zero, List.push_toArray, List.append_toArray, List.nil_append, List.cons_append]
  have plt := h.sets.lt
  gi_wp2_with fail
  refine ⟨trivial, (callsIn_wide.2 (Mark_in _ _ _ _ _ _ _ _ (h.alloc _))).mono ?_⟩
  rintro e w' ⟨rfl, rfl⟩
  gi_wp2_with fail
  refine ⟨trivial, (Backward_in .wide _ trivial rfl _ _ _ _).mono ?_⟩
  rintro e w' ⟨rfl, rfl⟩
  gi_wp2_with fail
  have L2 := (h.alloc (.cells #[.pointer (some ⟨p, 0, none⟩)] 47)).alloc (.cells #[.slice none 0 0] 126)
  have K2 : Kept (fun _ => False) w ((w.alloc (.cells #[.pointer (some ⟨p, 0, none⟩)] 47)).alloc (.cells #[.slice none 0 0] 126)) := ((Kept.refl _ w).alloc _).alloc _
  have B2 : ((w.alloc (.cells #[.pointer (some ⟨p, 0, none⟩)] 47)).alloc (.cells #[.slice none 0 0] 126)).rowIs w.heap.size 47 1 (fun _ => .pointer (some ⟨p, 0, none⟩)) := by
    refine ((made_row w #[.pointer (some ⟨p, 0, none⟩)] 47).congr ?_).alloc _
    intro i hi
    obtain rfl : i = 0 := by simpa using hi
    rfl
  have S2 : ((w.alloc (.cells #[.pointer (some ⟨p, 0, none⟩)] 47)).alloc (.cells #[.slice none 0 0] 126)).cell? ⟨w.heap.size + 1, 0, none⟩ = some (.slice none 0 0) := by
    have := (made_row (w.alloc (.cells #[.pointer (some ⟨p, 0, none⟩)] 47)) #[.slice none 0 0] 126).cell (i := 0) (by simp)
    rw [World.size_alloc] at this
    exact this
  have Z2 : ((w.alloc (.cells #[.pointer (some ⟨p, 0, none⟩)] 47)).alloc (.cells #[.slice none 0 0] 126)).heap.size = w.heap.size + 2 := by simp
  have hnl := h.nodes.lt
  generalize ((w.alloc (.cells #[.pointer (some ⟨p, 0, none⟩)] 47)).alloc (.cells #[.slice none 0 0] 126)) = W0 at *
  refine wpIn_rangeFunc_ownH rfl (by omega) (gf := 118) (lb := #[.pointer (some ⟨w.heap.size + 1, 0, none⟩)]) rfl trivial (enters_of Try.func118 (by kernel_rfl) rfl)
    (Backward_stops .wide 5 trivial rfl (by omega) (w.heap.size + 1) W0.heap.size nb _ 0 (fun _ => (0, 0)) (by omega) W0 (by omega) (by omega) (Nat.le_refl _) S2 (.inl ⟨rfl, rfl⟩))
    (fun a b => a.trans (b.mono fun k _ hk => hk)) (keptN_b (Nat.le_refl _)) (Below.refl _ _) (fun _ => rfl)
    (fun _ W => W.rowIs w.heap.size 47 1 (fun _ => .pointer (some ⟨p, 0, none⟩)) ∧ Kept (fun k => W0.heap.size ≤ k) W0 W) (fun _ _ _ => False)
    (fun _ A B row hs hg hr => ⟨rowIs_own hs.1 hg (fun r e => (hr r e).2), hs.2.grown hg (fun k e => (hr k e).1)⟩) (fun _ _ _ _ _ hs _ _ => hs)
    ⟨B2, Kept.refl _ _⟩ (fun _ _ _ => False) (fun _ _ _ _ _ _ hs _ _ => hs) ?assign ?body ?done ?stop
  case assign =>
    rintro l pre x W K _ _
    exact absurd x.2 (Nat.not_lt_zero _)
  case body =>
    rintro l pre x a' W hl _ _ _ hlt
    exact absurd hlt (Nat.not_lt_zero _)
  case done =>
    rintro D ys W hD ⟨hd, hlen⟩ ⟨hb, hk⟩ hK
    have d0 : W.cell? ⟨w.heap.size, 0, none⟩ = some (.pointer (some ⟨p, 0, none⟩)) := hb.cell (by omega)
    have RP : W.rowIs p 128 2 (setsC nb n (.slice none 0 0)) := L2.sets.of_block (hk.block p (by omega) (by omega))
    have d1 : W.cell? ⟨p, 1, none⟩ = some (.slice none 0 0) := RP.cell (i := 1) (by omega)
    have d2 := RP.frozen 1
    have fin := undo_fin_nil L2 K2 hk D hD
    clear L2 K2 hk RP
    gi_wp2_with fail
    refine wpIn_wide.2 ?_
    go_region
    gi_wp2
    have hK' := (KeepsOthers.setCell W ⟨p, 1, none⟩ (.slice none 0 0)).same D _ hK rfl
    refine ⟨by simp, .inl ⟨_, _, rfl, run_takeDeferred (w := (W.setCell ⟨p, 1, none⟩ (.slice none 0 0)).drew) hK', ?_⟩⟩
    exact ⟨_, results_tmp rfl _ _ _, rfl, fin.1, fin.2⟩
  case stop =>
    rintro D c pre W _ _ h _
    exact h.elim

end Go.Proofs.Ytinphcnknionmaa
