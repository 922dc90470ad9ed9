/- law05: agrees. LogicAtoms: its walk. -/
import Derived.Test.YtinphcnknionmabP44
import Derived.Test.YtinphcnknionmabP41
namespace Go.Proofs.Ytinphcnknionmab
open Go.RowKit Go.Maps

theorem make_intsL (w : World) (n : Nat) (hn : n ≤ 1048577) : (Instr.makeSlice 27 (.int .i64 (n : Int)) (.int .i64 (n : Int))).run Try.prog w = .ok (.slice (some ⟨w.heap.size, 0, none⟩) n n) (w.alloc (.cells (madeCells #[.int .i64 0] n) 3)) := by
  obtain ⟨i0, hi0, hz0, hz1, hz2⟩ := info_parts infoIntL
  have hmk := run_make (P := Try.prog) w 27 3 i0 _ Try.underlying27 hi0 hz0 .i64 .i64 (n : Int) (n : Int) (by omega) (Int.le_refl _) (by rw [hz2]; omega) (by omega)
  rw [hz1] at hmk
  simp only [Int.toNat_natCast, Nat.mul_one] at hmk
  exact hmk
theorem make_boolsL (w : World) (n : Nat) (hn : n ≤ 1048577) : (Instr.makeSlice 54 (.int .i64 (n : Int)) (.int .i64 (n : Int))).run Try.prog w = .ok (.slice (some ⟨w.heap.size, 0, none⟩) n n) (w.alloc (.cells (madeCells #[.bool false] n) 4)) := by
  obtain ⟨i0, hi0, hz0, hz1, hz2⟩ := info_parts infoBool
  have hmk := run_make (P := Try.prog) w 54 4 i0 _ Try.underlying54 hi0 hz0 .i64 .i64 (n : Int) (n : Int) (by omega) (Int.le_refl _) (by rw [hz2]; omega) (by omega)
  rw [hz1] at hmk
  simp only [Int.toNat_natCast, Nat.mul_one] at hmk
  exact hmk

theorem valsOf_set {bs : List Bool} {n : Nat} (h : bs.length < n) (b : Bool) : (valsOf bs n).set (bs.length + 1) (if b then 1 else -1) = valsOf (bs ++ [b]) n := by
  obtain ⟨k, hk⟩ : ∃ k, n - bs.length = k + 1 := ⟨n - bs.length - 1, by omega⟩
  unfold valsOf
  rw [List.set_cons_succ, List.set_append_right _ _ (by simp), hk]
  have e : n - (bs ++ [b]).length = k := by simp; omega
  rw [e]
  simp [List.replicate_succ]

/-- What agrees goes round with. -/
structure AgS (w W : World) (op x y : Int) (kv : Value) (L n : Nat) (bs : List Bool) : Prop where
  below : Below w.heap.size w W
  fb : FB W w.heap.size op x y kv
  vals : Rw W (w.heap.size + 1) (valsOf bs n)
  tru : W.rowIs (w.heap.size + 2) 4 L (fun j => .bool (bs[j]?.getD false))
theorem AgS.put {w W : World} {op x y : Int} {kv : Value} {L n : Nat} {bs : List Bool} (h : AgS w W op x y kv L n bs) (hb : bs.length < n) (b : Bool) :
    AgS w ((W.setCell ⟨w.heap.size + 2, bs.length, none⟩ (.bool b)).setCell ⟨w.heap.size + 1, bs.length + 1, none⟩ (.int .i64 (if b then 1 else -1))) op x y kv L n (bs ++ [b]) := by
  have hne : w.heap.size + 1 ≠ w.heap.size + 2 := by omega
  have t1 := h.tru.set bs.length (.bool b)
  have hk : ∀ k, k < w.heap.size + 1 → ((W.setCell ⟨w.heap.size + 2, bs.length, none⟩ (.bool b)).setCell ⟨w.heap.size + 1, bs.length + 1, none⟩ (.int .i64 (if b then 1 else -1))).heap[k]? = W.heap[k]? := fun k hk => (Below.heap_setCell _ _ _ _ (by simp; omega)).trans (Below.heap_setCell _ _ _ _ (by simp; omega))
  have cc : ∀ j, ((W.setCell ⟨w.heap.size + 2, bs.length, none⟩ (.bool b)).setCell ⟨w.heap.size + 1, bs.length + 1, none⟩ (.int .i64 (if b then 1 else -1))).cell? ⟨w.heap.size, j, none⟩ = W.cell? ⟨w.heap.size, j, none⟩ := fun j => World.cell?_of_block (hk w.heap.size (by omega))
  refine ⟨(h.below.setCell (p := ⟨w.heap.size + 2, bs.length, none⟩) (by simp) _).setCell (p := ⟨w.heap.size + 1, bs.length + 1, none⟩) (by simp) _, ⟨(cc 0).trans h.fb.1, (cc 1).trans h.fb.2.1, (cc 2).trans h.fb.2.2.1, (cc 3).trans h.fb.2.2.2⟩, ?_, ?_⟩
  · have v1 : Rw (W.setCell ⟨w.heap.size + 2, bs.length, none⟩ (.bool b)) (w.heap.size + 1) (valsOf bs n) := h.vals.block (Below.heap_setCell _ _ _ _ hne)
    have := v1.set (bs.length + 1) (if b then 1 else -1)
    rw [valsOf_set hb b] at this
    exact this
  · refine (World.rowIs.congr t1 (fun j hj => ?_)).setOther (a := ⟨w.heap.size + 1, bs.length + 1, none⟩) (by simp) _
    by_cases e : j = bs.length
    · subst e; simp
    · rw [if_neg e]
      by_cases hj2 : j < bs.length
      · rw [List.getElem?_append_left hj2]
      · rw [List.getElem?_eq_none (by omega), List.getElem?_eq_none (by simp; omega)]
theorem AgS.put2 {w W : World} {op x y : Int} {kv : Value} {L n : Nat} {bs : List Bool} (h : AgS w W op x y kv L n bs) (hb : bs.length < n) :
    AgS w (((W.setCell ⟨w.heap.size + 2, bs.length, none⟩ (.bool true)).setCell ⟨w.heap.size + 1, bs.length + 1, none⟩ (.int .i64 (-1))).setCell ⟨w.heap.size + 1, bs.length + 1, none⟩ (.int .i64 1)) op x y kv L n (bs ++ [true]) := by
  have hne : w.heap.size + 1 ≠ w.heap.size + 2 := by omega
  have t1 := h.tru.set bs.length (.bool true)
  have hk : ∀ k, k < w.heap.size + 1 → (((W.setCell ⟨w.heap.size + 2, bs.length, none⟩ (.bool true)).setCell ⟨w.heap.size + 1, bs.length + 1, none⟩ (.int .i64 (-1))).setCell ⟨w.heap.size + 1, bs.length + 1, none⟩ (.int .i64 1)).heap[k]? = W.heap[k]? := fun k hk => (Below.heap_setCell _ _ _ _ (by simp; omega)).trans ((Below.heap_setCell _ _ _ _ (by simp; omega)).trans (Below.heap_setCell _ _ _ _ (by simp; omega)))
  have cc : ∀ j, (((W.setCell ⟨w.heap.size + 2, bs.length, none⟩ (.bool true)).setCell ⟨w.heap.size + 1, bs.length + 1, none⟩ (.int .i64 (-1))).setCell ⟨w.heap.size + 1, bs.length + 1, none⟩ (.int .i64 1)).cell? ⟨w.heap.size, j, none⟩ = W.cell? ⟨w.heap.size, j, none⟩ := fun j => World.cell?_of_block (hk w.heap.size (by omega))
  refine ⟨((h.below.setCell (p := ⟨w.heap.size + 2, bs.length, none⟩) (by simp) _).setCell (p := ⟨w.heap.size + 1, bs.length + 1, none⟩) (by simp) _).setCell (p := ⟨w.heap.size + 1, bs.length + 1, none⟩) (by simp) _, ⟨(cc 0).trans h.fb.1, (cc 1).trans h.fb.2.1, (cc 2).trans h.fb.2.2.1, (cc 3).trans h.fb.2.2.2⟩, ?_, ?_⟩
  · have v1 : Rw (W.setCell ⟨w.heap.size + 2, bs.length, none⟩ (.bool true)) (w.heap.size + 1) (valsOf bs n) := h.vals.block (Below.heap_setCell _ _ _ _ hne)
    have := (v1.set (bs.length + 1) (-1)).set (bs.length + 1) 1
    have e := valsOf_set hb true
    rw [if_pos rfl] at e
    rw [List.set_set, e] at this
    exact this
  · refine ((World.rowIs.congr t1 (fun j hj => ?_)).setOther (a := ⟨w.heap.size + 1, bs.length + 1, none⟩) (by simp) _).setOther (a := ⟨w.heap.size + 1, bs.length + 1, none⟩) (by simp) _
    by_cases e : j = bs.length
    · subst e; simp
    · rw [if_neg e]
      by_cases hj2 : j < bs.length
      · rw [List.getElem?_append_left hj2]
      · rw [List.getElem?_eq_none (by omega), List.getElem?_eq_none (by simp; omega)]

set_option maxRecDepth 100000 in
set_option maxHeartbeats 4000000 in
theorem agrees_in (w : World) (t : Lf) (hwf : WfF t.er) (op x y : Int) (ka : Option Addr) (kn kc : Nat) (ht : t.op = op ∧ t.x = x ∧ t.y = y ∧ t.kv = .slice ka kn kc) (hk : KidsIn t.kv t.kids) (hks : ∀ k ∈ t.kids, LayC w k) (pa : Option Addr) (pc : Nat) (l : List (Int × Int)) (hpa : PrAt w pa l) (ca : Option Addr) (cc : Nat) (cs : List (List Int)) (hca : Cl2 w ca cs) (n : Nat) (hok : CsOk cs (n + 1)) (bits : Int) (hn : n + 1 ≤ 1048576) (hln : l.length ≤ n)
    (HA : ∀ bs : List Bool, bs.length = l.length → Cn.srch cs (Cn.zs (valsOf bs n) + 1) (valsOf bs n) = Cn.trF (tau l bs) t.er) :
    Calls Try.prog 17 #[.agg #[.int .i64 op, .int .i64 x, .int .i64 y, .slice ka kn kc], .slice pa l.length pc, .slice ca cs.length cc, .int .i64 (n : Int), .int .i64 bits] w fun e w' => e = .returned (.bool true) ∧ Below w.heap.size w w' := by
  have M1 := fun W => make_intsL W (n + 1) (by omega)
  have M2 := fun W => make_boolsL W l.length (by omega)
  rw [show ((n + 1 : Nat) : Int) = (n : Int) + 1 by omega] at M1
  have w1 : IntKind.i64.wrap ((n : Int) + 1) = (n : Int) + 1 := by rw [IntKind.wrap_i64]; omega
  have SE : Hid (∀ (W : World) (bs : List Bool), AgS w W op x y (.slice ka kn kc) l.length n bs → bs.length = l.length → Calls Try.prog 32 #[.slice ca cs.length cc, .slice (some ⟨w.heap.size + 1, 0, none⟩) (n + 1) (n + 1)] W fun e w' => ∃ sa sn sc, e = .returned (.tuple #[.slice sa sn sc, .bool (Cn.trF (tau l bs) t.er)]) ∧ Below W.heap.size W w') := fun W bs h hb => by
    have hl := valsOf_len (bs := bs) (n := n) (by omega)
    have := sr_all cs (Cn.zs (valsOf bs n) + 1) W ca cc (some ⟨w.heap.size + 1, 0, none⟩) (n + 1) (valsOf bs n) (hca.below h.below) h.vals.cls (valsOf_tri bs n) (by rw [hl]; exact hok) (by rw [hl]; omega) (by intro e; rw [e] at hl; simp at hl) (by omega)
    rw [hl, HA bs hb] at this
    exact this
  have TR : Hid (∀ (W : World) (bs : List Bool), AgS w W op x y (.slice ka kn kc) l.length n bs → bs.length = l.length → Calls Try.prog 33 #[.agg #[.int .i64 op, .int .i64 x, .int .i64 y, .slice ka kn kc], .slice pa l.length pc, .slice (some ⟨w.heap.size + 2, 0, none⟩) l.length l.length] W fun e w' => e = .returned (.bool (Cn.trF (tau l bs) t.er)) ∧ Below W.heap.size W w') := fun W bs h hb => by
    have := trt t W pa pc l (some ⟨w.heap.size + 2, 0, none⟩) l.length bs ⟨hpa.below h.below, Or.inr ⟨_, 0, rfl, fun i b hi => by
      have hlt := (List.getElem?_eq_some_iff.1 hi).1
      rw [Nat.zero_add, h.tru.cell (i := i) (by omega), hi]
      rfl⟩, hb, by omega⟩ hwf hk (fun k hkk => (hks k hkk).kept h.below)
    rw [ht.1, ht.2.1, ht.2.2.1, ht.2.2.2, hb] at this
    exact this
  have A0 : ∀ O1 O2 : Obj, O1 = .cells (madeCells #[.int .i64 0] (n + 1)) 3 → O2 = .cells (madeCells #[.bool false] l.length) 4 → AgS w (((w.alloc (.cells #[.int .i64 op, .int .i64 x, .int .i64 y, .slice ka kn kc] 26)).alloc O1).alloc O2) op x y (.slice ka kn kc) l.length n [] := fun O1 O2 e1 e2 => by
    subst e1 e2
    have hz1 : (w.alloc (.cells #[.int .i64 op, .int .i64 x, .int .i64 y, .slice ka kn kc] 26)).heap.size = w.heap.size + 1 := by simp
    have hz2 : ((w.alloc (.cells #[.int .i64 op, .int .i64 x, .int .i64 y, .slice ka kn kc] 26)).alloc (.cells (madeCells #[.int .i64 0] (n + 1)) 3)).heap.size = w.heap.size + 2 := by simp
    have B1 := Below.new w (.cells #[.int .i64 op, .int .i64 x, .int .i64 y, .slice ka kn kc] 26)
    have B2 := Below.new (w.alloc (.cells #[.int .i64 op, .int .i64 x, .int .i64 y, .slice ka kn kc] 26)) (.cells (madeCells #[.int .i64 0] (n + 1)) 3)
    have B3 := Below.new ((w.alloc (.cells #[.int .i64 op, .int .i64 x, .int .i64 y, .slice ka kn kc] 26)).alloc (.cells (madeCells #[.int .i64 0] (n + 1)) 3)) (.cells (madeCells #[.bool false] l.length) 4)
    have R2 := World.rowIs_made (w.alloc (.cells #[.int .i64 op, .int .i64 x, .int .i64 y, .slice ka kn kc] 26)) (.int .i64 0) (n + 1) 3
    have R3 := World.rowIs_made ((w.alloc (.cells #[.int .i64 op, .int .i64 x, .int .i64 y, .slice ka kn kc] 26)).alloc (.cells (madeCells #[.int .i64 0] (n + 1)) 3)) (.bool false) l.length 4
    have B23 : Below (w.heap.size + 1) (w.alloc (.cells #[.int .i64 op, .int .i64 x, .int .i64 y, .slice ka kn kc] 26)) (((w.alloc (.cells #[.int .i64 op, .int .i64 x, .int .i64 y, .slice ka kn kc] 26)).alloc (.cells (madeCells #[.int .i64 0] (n + 1)) 3)).alloc (.cells (madeCells #[.bool false] l.length) 4)) := hz1 ▸ B2.trans (B3.mono (by simp))
    refine ⟨B1.trans (B23.mono (by omega)), (FB.new' w op x y _).keep (hz1.symm ▸ B23), ?_, ?_⟩
    · rw [hz1] at R2
      refine Rw.block ⟨n + 1, _, by rw [valsOf_len (by simp)]; exact Nat.le_refl _, R2, fun j c hj => ?_⟩ (B3.block _ (by simp))
      have := valsOf_at (bs := []) (n := n) j
      rw [hj] at this
      simp at this
      rw [this]
    · rw [hz2] at R3
      exact World.rowIs.congr R3 (fun j _ => by simp)
  clear HA hca hpa hks hk hwf ht hok
  go_enter Try.func17, Try.ntmps17
  go_wp2_with fail
  have A1 := A0 _ _ rfl rfl
  clear A0
  generalize (((w.alloc (.cells #[.int .i64 op, .int .i64 x, .int .i64 y, .slice ka kn kc] 26)).alloc (.cells (madeCells #[.int .i64 0] (n + 1)) 3)).alloc (.cells (madeCells #[.bool false] l.length) 4)) = w3 at *
  rw [show w.heap.size + 1 + 1 = w.heap.size + 2 from rfl]
  go_loopw [13] (fun t13 W => ∃ bs : List Bool, bs.length ≤ l.length ∧ t13 = .int .i64 (bs.length : Int) ∧ Hid (AgS w W op x y (.slice ka kn kc) l.length n bs)) (fun t13 _ => l.length - (intOf t13).toNat)
  case atStart => exact ⟨[], by simp, rfl, A1⟩
  case round =>
    obtain ⟨bs, hi, rfl, HS⟩ := hrel
    clear A1
    by_cases hi2 : bs.length < l.length
    · have di : decide ((bs.length : Int) < (l.length : Int)) = true := decide_eq_true (by omega)
      obtain ⟨c1, f1⟩ := HS.out.vals.at (j := bs.length + 1) (c := 0) (by
        have := valsOf_at (bs := bs) (n := n) (bs.length + 1)
        rw [if_neg (by omega), Nat.add_sub_cancel, List.getElem?_eq_none (Nat.le_refl _)] at this
        have hl := valsOf_len (bs := bs) (n := n) (by omega)
        rw [List.getElem?_eq_getElem (by omega)] at this ⊢
        simpa using this)
      have c2 := HS.out.tru.cell (i := bs.length) (by omega)
      have f2 := HS.out.tru.frozen bs.length
      have HP : Hid (∀ b, _) := fun b => HS.out.put (by omega) b
      have HP2 : Hid _ := HS.out.put2 (by omega)
      have wrp : IntKind.i64.wrap ((bs.length : Int) + 1) = (bs.length : Int) + 1 := by rw [IntKind.wrap_i64]; omega
      have hlen : ∀ b, (bs ++ [b]).length = bs.length + 1 := fun b => by simp
      have HL : Hid _ := hlen
      generalize bs.length = i at *
      clear hlen HS
      have H1 := HP2
      have H2 := HP.out false
      have H3 : Hid _ := H1.out
      have H4 : Hid _ := H2
      clear H1 H2 HP HP2
      by_cases h62 : i < 62
      · have dl : decide ((i : Int) < 62) = true := decide_eq_true (by omega)
        go_wp2_with fail
        · exact ⟨⟨bs ++ [true], by rw [HL.out]; omega, by rw [HL.out]; simp, H3.out⟩, by simp [intOf]; omega⟩
        · exact ⟨⟨bs ++ [false], by rw [HL.out]; omega, by rw [HL.out]; simp, H4.out⟩, by simp [intOf]; omega⟩
      · have dl : decide ((i : Int) < 62) = false := decide_eq_false (by omega)
        go_wp2_with fail
        exact ⟨⟨bs ++ [false], by rw [HL.out]; omega, by rw [HL.out]; simp, H4.out⟩, by simp [intOf]; omega⟩
    · have di : decide ((bs.length : Int) < (l.length : Int)) = false := decide_eq_false (by omega)
      have hbl : bs.length = l.length := by omega
      have S1 := SE.out wr bs HS.out hbl
      have HT : Hid (∀ W', Below wr.heap.size wr W' → AgS w W' op x y (.slice ka kn kc) l.length n bs) := fun W' hB => ⟨HS.out.below.trans (hB.mono HS.out.below.size), HS.out.fb.keep hB, HS.out.vals.block (hB.block _ HS.out.vals.lt), HS.out.tru.of_block (hB.block _ HS.out.tru.lt)⟩
      have HTR : Hid (∀ W', Below wr.heap.size wr W' → _) := fun W' hB => TR.out W' bs (HT.out W' hB) hbl
      have HB : Hid (Below w.heap.size w wr) := HS.out.below
      clear HS SE TR
      generalize Cn.trF (tau l bs) t.er = tb at *
      clear hbl
      go_wp2_with (first | (go_at_call 32; refine S1.mono ?_; rintro e w4 ⟨sa, sn, sc, rfl, B4⟩; obtain ⟨c0, c1, c2, c3⟩ := (HT.out w4 B4).fb; have T1 := HTR.out w4 B4) | (go_at_call 33; refine T1.mono ?_; rintro e w5 ⟨rfl, B5⟩))
      go_ret
      exact ⟨by simp, HB.out.trans ((B4.trans (B5.mono B4.size)).mono HB.out.size)⟩

end Go.Proofs.Ytinphcnknionmab

namespace Go.Proofs.Ytinphcnknionmab
open Go.RowKit Go.Maps

theorem flat_le (kids : List Fo) (h : ∀ k ∈ kids, (eqF k).length ≤ szF k) : ((kids.map eqF).flatten).length ≤ (kids.map szF).sum := by
  induction kids with
  | nil => simp
  | cons k r ih =>
    simp only [List.map_cons, List.flatten_cons, List.length_append, List.sum_cons]
    have h1 := h k (by simp)
    have h2 := ih (fun k hk => h k (by simp [hk]))
    omega
theorem len_eqF (f : Fo) : (eqF f).length ≤ szF f := by
  obtain ⟨op, x, y, kids⟩ := f
  rw [eqF, szF]
  split
  · simp
  · have := flat_le kids (fun k hk => len_eqF k)
    omega
termination_by f
decreasing_by
  have := List.sizeOf_lt_of_mem hk
  simp
  omega
theorem MarkIs.keep {W W' : World} {lo hi : Nat} {v : Value} {m : List (Int × Int)} {k : Nat} (h : MarkIs W lo hi v m k) (hB : Below W.heap.size W W') : MarkIs W' lo hi v m k := by
  rcases h with e | ⟨g, cap, N, F, h1, h2, h3, h4, h5, h6⟩
  · exact Or.inl e
  · exact Or.inr ⟨g, cap, N, F, h1, h2, h3, h4, h5.of_block (hB.block g h5.lt), h6⟩

set_option maxRecDepth 100000 in
set_option maxHeartbeats 4000000 in
theorem latoms_in (w : World) (op x y : Int) (kv : Value) (kids : List Lf) (hk : KidsIn kv kids) (hks : ∀ k ∈ kids, LayC w k) (hsm : Sml (.mk 0 0 op x y kv kids)) (hR : RF (.mk op x y (kids.map Lf.er))) (hsz : szF (.mk op x y (kids.map Lf.er)) ≤ 1048576) :
    Calls Try.prog 4 #[.agg #[.int .i64 op, .int .i64 x, .int .i64 y, kv]] w fun e w' => e = .returned (.bool true) ∧ Below w.heap.size w w' := by
  have he : (Lf.mk 0 0 op x y kv kids).er = .mk op x y (kids.map Lf.er) := by rw [Lf.er]
  have B1 := Below.new w (.cells #[.int .i64 op, .int .i64 x, .int .i64 y, kv] 26)
  have LK : ∀ W, Below w.heap.size w W → ∀ k ∈ kids, LayC W k := fun W hB k hkk => (hks k hkk).kept hB
  have GV := gvt (.mk 0 0 op x y kv kids) _ hsm hk (LK _ B1)
  have SM : ∀ (W : World) (v : Value), Below w.heap.size w W → FIs W v (.mk op x y (kids.map Lf.er)) → Calls Try.prog 8 #[v, .agg #[.int .i64 op, .int .i64 x, .int .i64 y, kv]] W fun e w' => e = .returned (.bool true) ∧ Below W.heap.size W w' := fun W v hB hv => same5_in W v _ hv (.mk 0 0 op x y kv kids) he hsm.szd hk (LK W hB)
  have RT : ∀ (W : World), Below w.heap.size w W → Calls Try.prog 12 #[.agg #[.int .i64 op, .int .i64 x, .int .i64 y, kv], .slice none 0 0] W fun e w' => ∃ v', e = .returned v' ∧ w'.ownsRow W.heap.size 23 2 v' (ats (eqF (.mk op x y (kids.map Lf.er)))).length (pairC (ats (eqF (.mk op x y (kids.map Lf.er))))) ∧ Below W.heap.size W w' := fun W hB => by
    have h := rat (.mk 0 0 op x y kv kids) W W W.heap.size (.slice none 0 0) [] hsm (Nat.le_refl _) (Below.refl _ _) hk (LK W hB) (World.ownsRow_nil _ _ _ _) (by rw [he]; have := len_eqF (.mk op x y (kids.map Lf.er)); simp; omega) (Nat.le_refl _)
    rw [he, atsG_nil] at h
    refine h.mono ?_
    rintro e w' ⟨v', h1, h2, h3, _⟩
    exact ⟨v', h1, h2, ⟨h3.os, h3.tape, h3.output, h3.size, fun k hk => h3.block k hk (by simp [Value.ownBlock])⟩⟩
  have AT : ∀ (W : World) (v : Value), FIs W v (.mk op x y (kids.map Lf.er)) → Calls Try.prog 11 #[v] W fun e w' => ∃ u, e = .returned u ∧ w'.ownsRow W.heap.size 28 2 u (ats (eqF (.mk op x y (kids.map Lf.er)))).length (pairC (ats (eqF (.mk op x y (kids.map Lf.er))))) ∧ Below W.heap.size W w' := fun W v hv => atomsF_in W v _ hv (by omega) hR
  have hml : (ats (eqF (.mk op x y (kids.map Lf.er)))).length ≤ 1048576 := by
    have h1 := ats_len (eqF (.mk op x y (kids.map Lf.er)))
    have h2 := len_eqF (.mk op x y (kids.map Lf.er))
    omega
  simp only [Lf.op, Lf.x, Lf.y, Lf.kv] at GV
  rw [he] at GV
  have Y1 := FB.new' w op x y kv
  obtain ⟨ka, kc, rfl, _⟩ := hk
  clear he hks LK hsm hR hsz
  generalize ats (eqF (.mk op x y (kids.map Lf.er))) = m at *
  generalize Fo.mk op x y (kids.map Lf.er) = f at *
  generalize kids.length = kn at *
  obtain ⟨y0, y1, y2, y3⟩ := Y1
  go_enter Try.func4, Try.ntmps4
  go_wp2_with (first | (go_at_call 6; refine GV.mono ?_; rintro e w2 ⟨v, rfl, FV, B2⟩; obtain ⟨op2, x2, y2', ka2, kn2, kc2, rfl⟩ := FV.form))
  have B3 := Below.new w2 (.cells #[.int .i64 op2, .int .i64 x2, .int .i64 y2', .slice ka2 kn2 kc2] 31)
  have Y3 := FB.new w2 op2 x2 y2' (.slice ka2 kn2 kc2)
  have Z3 := (FB.keep (And.intro y0 (And.intro y1 (And.intro y2 y3))) B2).keep B3
  have FV3 := FV.is.keep B3
  have BW3 : Below w.heap.size w (w2.alloc (.cells #[.int .i64 op2, .int .i64 x2, .int .i64 y2', .slice ka2 kn2 kc2] 31)) := (B1.trans (B2.mono B1.size)).trans (B3.mono (Nat.le_trans B1.size B2.size))
  have hx3 : w2.heap.size < (w2.alloc (.cells #[.int .i64 op2, .int .i64 x2, .int .i64 y2', .slice ka2 kn2 kc2] 31)).heap.size := by simp
  have hw3 : w.heap.size < (w2.alloc (.cells #[.int .i64 op2, .int .i64 x2, .int .i64 y2', .slice ka2 kn2 kc2] 31)).heap.size := by have h1 := B1.size; have h2 := B2.size; simp at h1 h2 ⊢; omega
  generalize w2.alloc (.cells #[.int .i64 op2, .int .i64 x2, .int .i64 y2', .slice ka2 kn2 kc2] 31) = w3 at B3 Y3 Z3 FV3 BW3 hx3 hw3 ⊢
  generalize w2.heap.size = xb at *
  have L3 : LfAt w w3 op x y (.slice ka kn kc) xb op2 x2 y2' (.slice ka2 kn2 kc2) f := ⟨BW3, Z3, Y3, FV3⟩
  have AT3 := AT w3 _ L3.is
  obtain ⟨c0, c1, c2, c3⟩ := L3.ib
  have HS : Hid (_ ∧ _ ∧ _ ∧ _) := And.intro SM (And.intro RT (And.intro AT L3))
  clear AT L3 SM RT GV B1 B2 FV y0 y1 y2 y3 B3 Y3 Z3 FV3 BW3
  go_wp2_with (first | (go_at_call 11; refine AT3.mono ?_; rintro e w4 ⟨va, rfl, R4, B4⟩; obtain ⟨aa, ac, hva⟩ := row_form R4; subst hva; have L4 := HS.out.2.2.2.keep B4; obtain ⟨e0, e1, e2, e3⟩ := L4.fb; have RT4 := HS.out.2.1 w4 L4.below) | (go_at_call 12; refine RT4.mono ?_; rintro e w5 ⟨vw, rfl, R5, B5⟩; obtain ⟨ba, bc, hvw⟩ := row_form R5; subst hvw))
  have L5 : LaAt w w5 op x y (.slice ka kn kc) xb op2 x2 y2' (.slice ka2 kn2 kc2) f w3.heap.size w4.heap.size (.slice aa m.length ac) (.slice ba m.length bc) m 0 :=
    ⟨L4.keep B5, (mark_of R4).keep B5, fun W' hW' => want_of (row_blockG R5 (fun b hb => hW' b (ownsRow_at R5 hb).1)), hw3, hx3⟩
  have hlo : w3.heap.size ≤ w4.heap.size := B4.size
  have hhi : w4.heap.size ≤ w5.heap.size := B5.size
  clear R4 R5 B4 B5 L4 RT4 AT3 c0 c1 c2 c3 e0 e1 e2 e3
  generalize w3.heap.size = lo at *
  generalize w4.heap.size = hi at *
  go_loopw [6] (fun t6 W => ∃ k : Nat, k ≤ m.length ∧ t6 = .int .i64 (k : Int) ∧ Hid (LaAt w W op x y (.slice ka kn kc) xb op2 x2 y2' (.slice ka2 kn2 kc2) f lo hi (.slice aa m.length ac) (.slice ba m.length bc) m k ∧ hi ≤ W.heap.size)) (fun t6 _ => m.length - (intOf t6).toNat)
  case atStart => exact ⟨0, by omega, rfl, L5, hhi⟩
  case round =>
    obtain ⟨k, hk, rfl, HL⟩ := hrel
    by_cases hk2 : k < m.length
    · have dk : decide ((k : Int) < (m.length : Int)) = true := decide_eq_true (by omega)
      obtain ⟨LW, hW⟩ := HL.out
      have hpk : m[k]? = some m[k] := List.getElem?_eq_getElem hk2
      have hne : m ≠ [] := by intro e; rw [e] at hk2; simp at hk2
      obtain ⟨g, gc, N, F, hv, hc, hg1, hg2, hr, hF⟩ := LW.mark.resolve_left hne
      simp only [Value.slice.injEq, true_and] at hv
      obtain ⟨rfl, rfl⟩ := hv
      obtain ⟨g2, gc2, hv2, hc2, hq⟩ := (LW.want wr (fun _ _ => rfl)).resolve_left hne
      simp only [Value.slice.injEq, true_and] at hv2
      obtain ⟨rfl, rfl⟩ := hv2
      obtain ⟨z1, z2⟩ := hq k _ hpk
      obtain ⟨n1, n2, n3⟩ := hF k _ hpk
      have x1 := hr.cell (i := k * 2) (by omega)
      have x2' := hr.cell (i := k * 2 + 1) n1
      rw [n3 (Nat.le_refl _)] at x1
      rw [n2] at x2'
      have fz := hr.frozen (k * 2)
      have wrp : IntKind.i64.wrap ((k : Int) + 1) = (k : Int) + 1 := by rw [IntKind.wrap_i64]; omega
      have LD : Hid (∀ n u, LaAt w ((wr.drewN n).setCell ⟨g, k * 2, none⟩ u) op x y (.slice ka kn kc) xb op2 x2 y2' (.slice ka2 kn2 kc2) f lo hi (.slice (some ⟨g, 0, none⟩) m.length ac) (.slice (some ⟨g2, 0, none⟩) m.length bc) m (k + 1) ∧ hi ≤ ((wr.drewN n).setCell ⟨g, k * 2, none⟩ u).heap.size) := fun n u => ⟨(LW.drewN n).put hg1 hg2 hc hr hF u, by simp [World.setCell]; exact hW⟩
      generalize m[k] = pk at *
      clear LW HL hF hq hr n3 n2 hpk hne HS L5
      have xd : ∀ n, (wr.drewN n).cell? ⟨g, k * 2, none⟩ = some (.int .i64 pk.1) := fun n => x1
      have fd : ∀ n, (wr.drewN n).frozen? ⟨g, k * 2, none⟩ = false := fun n => fz
      go_wp2_with fail
      go_quiet (fail)
      go_wp2_with fail
      exact ⟨⟨k + 1, hk2, by simp, LD.out _ _⟩, by simp [intOf]; omega⟩
    · have dk : decide ((k : Int) < (m.length : Int)) = false := decide_eq_false (by omega)
      obtain ⟨LW, hW⟩ := HL.out
      have AT6 := HS.out.2.2.1 wr _ LW.lf.is
      obtain ⟨c0, c1, c2, c3⟩ := LW.lf.ib
      clear HL L5
      have HW : Hid (_) := LW
      clear LW
      go_wp2_with (first | (go_at_call 11; refine AT6.mono ?_; rintro e w7 ⟨v7, rfl, R7, B7⟩; obtain ⟨ra, rc, hv7⟩ := row_form R7; subst hv7))
      have L7 : LfAt w w7 op x y (.slice ka kn kc) xb op2 x2 y2' (.slice ka2 kn2 kc2) f ∧ WantIs w7 (.slice ra m.length rc) m ∧ WantIs w7 (.slice ba m.length bc) m := ⟨HW.out.lf.keep B7, want_of R7, (HW.out.want wr (fun _ _ => rfl)).keep B7⟩
      clear HW R7 B7 AT6 c0 c1 c2 c3
      go_loopw [8] (fun t8 W => ∃ k : Nat, k ≤ m.length ∧ t8 = .int .i64 (k : Int) ∧ Hid (LfAt w W op x y (.slice ka kn kc) xb op2 x2 y2' (.slice ka2 kn2 kc2) f ∧ WantIs W (.slice ra m.length rc) m ∧ WantIs W (.slice ba m.length bc) m)) (fun t8 _ => m.length - (intOf t8).toNat)
      case atStart => exact ⟨0, by omega, rfl, L7⟩
      case round =>
        obtain ⟨i, hi1, rfl, HL⟩ := hrel
        by_cases hi2 : i < m.length
        · have di : decide ((i : Int) < (m.length : Int)) = true := decide_eq_true (by omega)
          obtain ⟨LW, QA, QW⟩ := HL.out
          have hpk : m[i]? = some m[i] := List.getElem?_eq_getElem hi2
          have hne : m ≠ [] := by intro e; rw [e] at hi2; simp at hi2
          obtain ⟨g, gc, hv, hc, hq1⟩ := QA.resolve_left hne
          simp only [Value.slice.injEq, true_and] at hv
          obtain ⟨rfl, rfl⟩ := hv
          obtain ⟨g2, gc2, hv2, hc2, hq⟩ := QW.resolve_left hne
          simp only [Value.slice.injEq, true_and] at hv2
          obtain ⟨rfl, rfl⟩ := hv2
          obtain ⟨z1, z2⟩ := hq i _ hpk
          obtain ⟨x1, x2''⟩ := hq1 i _ hpk
          have wrp : IntKind.i64.wrap ((i : Int) + 1) = (i : Int) + 1 := by rw [IntKind.wrap_i64]; omega
          have BD : ∀ n, Below wr.heap.size wr (wr.drewN n) := fun n => ⟨rfl, rfl, rfl, Nat.le_refl _, fun _ _ => rfl⟩
          have LD : Hid (∀ n, LfAt w (wr.drewN n) op x y (.slice ka kn kc) xb op2 x2 y2' (.slice ka2 kn2 kc2) f ∧ WantIs (wr.drewN n) (.slice (some ⟨g, 0, none⟩) m.length rc) m ∧ WantIs (wr.drewN n) (.slice (some ⟨g2, 0, none⟩) m.length bc) m) := fun n => ⟨LW.keep (BD n), QA.keep (BD n), QW.keep (BD n)⟩
          generalize m[i] = pk at *
          clear LW HL hq hq1 hpk hne HS QA QW BD L7
          go_wp2_with fail
          go_quiet (fail)
          go_wp2_with fail
          exact ⟨⟨i + 1, hi2, by simp, LD.out _⟩, by simp [intOf]; omega⟩
        · have di : decide ((i : Int) < (m.length : Int)) = false := decide_eq_false (by omega)
          obtain ⟨LW, _, _⟩ := HL.out
          obtain ⟨e0, e1, e2, e3⟩ := LW.fb
          obtain ⟨c0, c1, c2, c3⟩ := LW.ib
          have SM := HS.out.1 wr _ LW.below LW.is
          have Bw := LW.below
          have AL : ∀ W, Calls Try.prog 10 #[] W fun e w' => e = .returned (.bool true) ∧ Below W.heap.size W w' := alive5_any
          clear HS HL LW L7
          go_wp2_with (first | (go_at_call 8; refine SM.mono ?_; rintro e w8 ⟨rfl, B8⟩) | (go_at_call 10; refine (AL _).mono ?_; rintro e w9 ⟨rfl, B9⟩))
          go_ret
          exact ⟨rfl, (Bw.trans (B8.mono Bw.size)).trans (B9.mono (Nat.le_trans Bw.size B8.size))⟩

end Go.Proofs.Ytinphcnknionmab
