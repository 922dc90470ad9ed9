/- Package decide: steps. -/
import Derived.Test.YtlehlgipbhfioaaGreatP45
namespace Go.Proofs.YtlehlgipbhfioaaGreat
open Go.RowKit Go.Maps

theorem below2 {A B C : World} (h : Below A.heap.size A B) (k : Below B.heap.size B C) : Below A.heap.size A C := h.trans (k.mono h.size)
theorem below_drw (A : World) : Below A.heap.size A A.drew := ⟨rfl, rfl, rfl, Nat.le_refl _, fun _ _ => rfl⟩
theorem below_of_drw {A B : World} (h : Below A.drew.heap.size A.drew B) : Below A.heap.size A B := ⟨h.os, h.tape, h.output, h.size, h.block⟩

theorem row_low {w : World} {B B' : Nat} {e : TypeId} {k n : Nat} {v : Value} {xs : List Value} (h : w.ownsRow B e k v n xs) (hb : B' ≤ B) : w.ownsRow B' e k v n xs := by
  refine ⟨h.1, ?_⟩
  rcases h.2 with x | ⟨b, cap, cur, e1, e2, e3⟩
  · exact Or.inl x
  · exact Or.inr ⟨b, cap, cur, e1, Nat.le_trans hb e2, e3⟩
theorem wrap_nat2q {a : Nat} (h : a ≤ 1048576) : IntKind.i64.wrap ((a : Int) + 1 + 1) = (a : Int) + 1 + 1 := by rw [IntKind.wrap_i64]; omega
theorem cast_nn1 (a : Nat) : (0 : Int) ≤ (a : Int) + 1 := by omega
theorem cast_nn (a : Nat) : (0 : Int) ≤ (a : Int) := by omega
theorem box_if {X w5 : World} (hB : Below X.heap.size X w5) (b k : Nat) (h : b < X.heap.size) : w5.cell? ⟨b, k, none⟩ = X.cell? ⟨b, k, none⟩ ∧ w5.frozen? ⟨b, k, none⟩ = X.frozen? ⟨b, k, none⟩ := ⟨World.cell?_of_block (a := ⟨b, k, none⟩) (hB.block b h), World.frozen?_of_block (a := ⟨b, k, none⟩) (hB.block b h)⟩
theorem NsAt.of_rowI {W : World} {base : Nat} {v : Value} {p : List Nat} (h : W.ownsRow base 3 1 v p.length (p.map i64)) : NsAt W v p := by
  rcases h.2 with ⟨e, h0⟩ | ⟨b, cap, cur, e, _⟩
  · refine ⟨none, 0, by rw [e, h0], Or.inl (by rw [List.length_eq_zero_iff.1 h0]; rfl)⟩
  · refine ⟨_, cap, e, Or.inr ⟨b, 0, rfl, fun j c hj => ?_⟩⟩
    have := h.cells (g := b) (by rw [e]; rfl) j (.int .i64 c) (by rw [List.getElem?_map] at hj ⊢; cases hq : p[j]? with | none => rw [hq] at hj; simp at hj | some y => rw [hq] at hj; simp at hj; subst hj; rfl)
    rw [Addr.add_lit] at this
    exact this
/-- steps on its way along a path. -/
structure StP (w W : World) (S : List Stq) (G : List Pr) (sv gv pv : Value) (p : List Nat) : Prop where
  st : StR w W S G sv gv
  prow : W.ownsRow w.heap.size 3 1 pv p.length (p.map i64)
theorem StP.under {w W W' : World} {S : List Stq} {G : List Pr} {sv gv pv : Value} {p : List Nat} (h : StP w W S G sv gv pv p) (hB : Below W.heap.size W W') : StP w W' S G sv gv pv p := ⟨h.st.under hB, ownsRow_below h.prow hB⟩
theorem StP.pushS {w W W1 w8 : World} {S : List Stq} {G : List Pr} {sv gv v8 pv : Value} {p : List Nat} (h : StP w W S G sv gv pv p) (hB : Below W.heap.size W W1) {c : Pr} {ps : List Pr} (hown : w8.ownsRow w.heap.size 206 10 v8 (S.length + 1) (stRow S ++ stpV c ps)) (hgrow : W1.grownBy w8 sv.ownBlock) : StP w w8 (S ++ [(c, ps)]) G v8 gv pv p := by
  have h1 := h.under hB
  exact ⟨h.st.pushS hB hown hgrow, ownsRow_blk h1.prow (fun b hb => hgrow.block b (ownsRow_lt h1.prow hb).2 (fun e => ownsRow_ne2 h1.prow h1.st.srow (by decide) hb e.symm))⟩
theorem StP.addG {w W W' : World} {S : List Stq} {G G' : List Pr} {sv gv gv' pv : Value} {p : List Nat} (h : StP w W S G sv gv pv p) (hr : Row1 w.heap.size 34 2 W gv W' gv' G'.length (rowP G')) : StP w W' S G' sv gv' pv p :=
  ⟨h.st.addG hr, ownsRow_blk h.prow (fun b hb => hr.kept.block b (ownsRow_lt h.prow hb).2 (fun e => ownsRow_ne2 h.prow h.st.grow (by decide) hb e))⟩
/-- A pair in a box, apart from the row of goals. -/
structure BxP (W : World) (lb : Nat) (c : Pr) (gv : Value) : Prop where
  row : W.rowIs lb 34 2 (fun j => if j = 0 then .int .i64 (c.1 : Int) else .int .i64 (c.2 : Int))
  ne : gv.ownBlock ≠ some lb
theorem BxP.under {W W' : World} {lb : Nat} {c : Pr} {gv : Value} (h : BxP W lb c gv) (hB : Below W.heap.size W W') : BxP W' lb c gv := ⟨h.row.of_block (hB.block _ h.row.lt), h.ne⟩
theorem BxP.c0 {W : World} {lb : Nat} {c : Pr} {gv : Value} (h : BxP W lb c gv) : W.cell? ⟨lb, 0, none⟩ = some (.int .i64 (c.1 : Int)) := h.row.cell (i := 0) (by omega)
theorem BxP.c1 {W : World} {lb : Nat} {c : Pr} {gv : Value} (h : BxP W lb c gv) : W.cell? ⟨lb, 1, none⟩ = some (.int .i64 (c.2 : Int)) := h.row.cell (i := 1) (by omega)
theorem BxP.pushS {W W1 w8 : World} {lb : Nat} {c : Pr} {gv sv : Value} (h : BxP W lb c gv) (hB : Below W.heap.size W W1) {base n : Nat} {xs : List Value} (hs : W.ownsRow base 206 10 sv n xs) (hgrow : W1.grownBy w8 sv.ownBlock) : BxP w8 lb c gv :=
  ⟨(h.under hB).row.of_block (hgrow.block _ (h.under hB).row.lt (fun e => rowIs_type (h.under hB).row (by decide) (ownsRow_below hs hB) e.symm)), h.ne⟩
theorem BxP.addG {W W' : World} {lb : Nat} {c : Pr} {gv gv' : Value} {base n : Nat} {xs : List Value} (h : BxP W lb c gv) (hr : Row1 base 34 2 W gv W' gv' n xs) : BxP W' lb c gv' :=
  ⟨h.row.of_block (hr.kept.block _ h.row.lt h.ne), fun e => by
    rcases hr.at_ with e1 | e1
    · exact h.ne (e1 ▸ e)
    · have := e1 lb e
      have := h.row.lt
      omega⟩
theorem relA {w W w5 : World} {S : List Stq} {G : List Pr} {sv gv pv : Value} {p : List Nat} {c : Pr} (h : StP w W S G sv gv pv p) (hB : Below W.drew.heap.size W.drew w5) :
    ∃ lb, Value.pointer (some ⟨w5.heap.size, 0, none⟩) = .pointer (some ⟨lb, 0, none⟩) ∧ Hid (StP w (w5.alloc (.cells #[.int .i64 (c.1 : Int), .int .i64 (c.2 : Int)] 34)) S G sv gv pv p ∧ BxP (w5.alloc (.cells #[.int .i64 (c.1 : Int), .int .i64 (c.2 : Int)] 34)) lb c gv) := by
  have R := made_row w5 #[.int .i64 (c.1 : Int), .int .i64 (c.2 : Int)] 34
  have b1 : Below W.heap.size W (w5.alloc (.cells #[.int .i64 (c.1 : Int), .int .i64 (c.2 : Int)] 34)) := (below_of_drw hB).alloc (below_of_drw hB).size _
  refine ⟨_, rfl, h.under b1, R.congr (fun j hj => ?_), fun e => ?_⟩
  · have : j = 0 ∨ j = 1 := by simp at hj; omega
    rcases this with rfl | rfl <;> rfl
  · have h1 := (ownsRow_lt h.st.grow e).2
    have h2 := (below_of_drw hB).size
    omega
theorem relB {w W w5 : World} {S : List Stq} {G : List Pr} {sv gv pv : Value} {p : List Nat} {x y : Value} {c : Pr} (h : StP w W S G sv gv pv p) (hB : Below (W.alloc (.cells #[x, y] 34)).drew.heap.size (W.alloc (.cells #[x, y] 34)).drew w5) :
    ∃ lb, Value.pointer (some ⟨W.heap.size, 0, none⟩) = .pointer (some ⟨lb, 0, none⟩) ∧ Hid (StP w ((w5.setCell ⟨W.heap.size, 0, none⟩ (.int .i64 (c.1 : Int))).setCell ⟨W.heap.size, 1, none⟩ (.int .i64 (c.2 : Int))) S G sv gv pv p ∧ BxP ((w5.setCell ⟨W.heap.size, 0, none⟩ (.int .i64 (c.1 : Int))).setCell ⟨W.heap.size, 1, none⟩ (.int .i64 (c.2 : Int))) lb c gv) := by
  have R := (made_row W #[x, y] 34).of_block (hB.block W.heap.size (by simp))
  have R2 := (R.set 0 (.int .i64 (c.1 : Int))).set 1 (.int .i64 (c.2 : Int))
  have b0 : Below W.heap.size W w5 := (below_ad W _).trans (hB.mono (by simp))
  have b1 : Below W.heap.size W ((w5.setCell ⟨W.heap.size, 0, none⟩ (.int .i64 (c.1 : Int))).setCell ⟨W.heap.size, 1, none⟩ (.int .i64 (c.2 : Int))) := (b0.setCell (p := ⟨W.heap.size, 0, none⟩) (Nat.le_refl _) _).setCell (p := ⟨W.heap.size, 1, none⟩) (Nat.le_refl _) _
  refine ⟨_, rfl, h.under b1, R2.congr (fun j hj => ?_), fun e => ?_⟩
  · have : j = 0 ∨ j = 1 := by simp at hj; omega
    rcases this with rfl | rfl <;> rfl
  · have h1 := (ownsRow_lt h.st.grow e).2
    omega
theorem stpV_form (c : Pr) (ps : List Pr) : ∃ x0 x1 x2 x3 x4 x5 x6 x7 x8 x9 : Int, stpV c ps = [.int .i64 x0, .int .i64 x1, .int .i64 x2, .int .i64 x3, .int .i64 x4, .int .i64 x5, .int .i64 x6, .int .i64 x7, .int .i64 x8, .int .i64 x9] := by
  match ps with
  | [] => exact ⟨_, _, _, _, _, _, _, _, _, _, rfl⟩
  | [a] => exact ⟨_, _, _, _, _, _, _, _, _, _, rfl⟩
  | [a, b] => exact ⟨_, _, _, _, _, _, _, _, _, _, rfl⟩
  | [a, b, d] => exact ⟨_, _, _, _, _, _, _, _, _, _, rfl⟩
  | a :: b :: d :: f :: r =>
    have : stpV c (a :: b :: d :: f :: r) = stpV c [a, b, d, f] := by simp [stpV, pad4c]
    rw [this]
    exact ⟨_, _, _, _, _, _, _, _, _, _, rfl⟩
theorem cell_ten (w : World) (x0 x1 x2 x3 x4 x5 x6 x7 x8 x9 : Value) (ty : TypeId) : ∀ j u, [x0, x1, x2, x3, x4, x5, x6, x7, x8, x9][j]? = some u → (w.alloc (.cells #[x0, x1, x2, x3, x4, x5, x6, x7, x8, x9] ty)).cell? ((⟨w.heap.size, 0, none⟩ : Addr).add j) = some u := by
  intro j u hj
  have hn := made_row w #[x0, x1, x2, x3, x4, x5, x6, x7, x8, x9] ty
  have hjl := (List.getElem?_eq_some_iff.1 hj).1
  rw [Addr.add_lit, Nat.zero_add, hn.cell (i := j) (by simpa using hjl)]
  simp only [List.getElem?_toArray, hj, Option.getD_some]
theorem pairs_b {n : Nat} (hn : n ≤ 1000) {E : Edges} {G : List Pr} (hG : G.Nodup ∧ ∀ q ∈ G, Conn E q.1 q.2 ∧ q.1 < n ∧ q.2 < n) : G.length ≤ 1000000 := by
  have := pairs_le hG.1 (n := n) (fun q hq => (hG.2 q hq).2)
  have h2 : n * n ≤ 1000 * 1000 := Nat.mul_le_mul hn hn
  omega
theorem len_b1 {a : Nat} (h : a ≤ 1000000000000) : a + 1 ≤ maxLen := by unfold maxLen; omega
theorem len_b2 {a : Nat} (h : a ≤ 1000000000000) : (a + 1) * 80 ≤ 140737488355328 := by omega
theorem len_b3 {a b : Nat} (h : a ≤ 1000000) (hb : b ≤ 4) : (a + b) * 16 ≤ 140737488355328 := by omega
theorem own_base {w : World} {base size n : Nat} {ty : TypeId} {a : Option Addr} {m c : Nat} {xs : List Value} (h : w.ownsRow base ty size (.slice a m c) n xs) {b off : Nat} (e : a = some ⟨b, off, none⟩) : base ≤ b := by
  rcases h.2 with ⟨e1, _⟩ | ⟨g, cap, cur, e1, e2, _⟩
  · rw [e] at e1; cases e1
  · rw [e] at e1
    cases e1
    exact e2
theorem cast_suc (m : Nat) : Value.int .i64 ((m : Int) + 1 + 1) = Value.int .i64 (((m + 1 : Nat) : Int) + 1) := by simp
theorem meas_suc {m len : Nat} (h : m + 1 < len) : len - (intOf (Value.int .i64 ((m : Int) + 1 + 1))).toNat < len - (intOf (Value.int .i64 ((m : Int) + 1))).toNat := by simp [intOf]; omega
theorem pos_suc {m : Nat} (h : ¬ m = 0) : (1 : Int) < (m : Int) + 1 := by omega
theorem pos_cast {m : Nat} (h : ¬ m = 0) : (0 : Int) < (m : Int) := by omega
theorem below_ch {A X C : World} (h : Below A.heap.size A X) (k : Below X.heap.size X C) : Below A.heap.size A C := below2 h k
theorem below_ch2 {A X C : World} {O : Obj} (h : Below A.heap.size A X) (k : Below (X.alloc O).heap.size (X.alloc O) C) : Below A.heap.size A C := below2 (h.alloc h.size O) k
theorem psAt2 (w : World) (a c : Pr) : PsAt (w.alloc (.cells #[.int .i64 (a.1 : Int), .int .i64 (a.2 : Int), .int .i64 (c.1 : Int), .int .i64 (c.2 : Int)] 34)) (.slice (some ⟨w.heap.size, 0, none⟩) 2 2) [a, c] := by
  have R := made_row w #[.int .i64 (a.1 : Int), .int .i64 (a.2 : Int), .int .i64 (c.1 : Int), .int .i64 (c.2 : Int)] 34
  refine ⟨_, 2, rfl, Or.inr ⟨w.heap.size, 0, rfl, fun j q hj => ?_⟩⟩
  match j, hj with
  | 0, hj => simp at hj; subst hj; exact ⟨R.cell (i := 0) (by simp), R.cell (i := 1) (by simp)⟩
  | 1, hj => simp at hj; subst hj; exact ⟨R.cell (i := 2) (by simp), R.cell (i := 3) (by simp)⟩
theorem below_al {A X : World} (h : Below A.heap.size A X) (O : Obj) : Below A.heap.size A (X.alloc O) := h.alloc h.size O
theorem stepsK_one (told : List Pr) (argp : Pr → List Pr) (a : Nat) (t : Bool) (x : Nat) (S : List Stq) (G : List Pr) : stepsK told argp a t [x] S G = (S, G) := by
  rw [stepsK]
  intro _ _ _ h
  cases h

set_option maxRecDepth 100000 in
set_option maxHeartbeats 4000000 in
theorem dsteps_in (w : World) (pb : Nat) (ta : Option Addr) (tc : Nat) (dv lv : Value) (l : List Tm) (told : List Pr) (L : List (List Nat)) (n : Nat) (hLn : L.length = n) (hln : l.length = n) (hn : n ≤ 1000) (hLr : ∀ r ∈ L, r.length ≤ 1048576)
    (x1 : w.cell? ⟨pb, 1, none⟩ = some (.slice ta L.length tc)) (x2 : w.cell? ⟨pb, 2, none⟩ = some dv) (x3 : w.cell? ⟨pb, 3, none⟩ = some lv) (hT : TsAt w (.slice ta L.length tc) l) (hD : PsAt w dv told) (htl : told.length ≤ 1048576) (hNs : NssAt w lv L)
    (E : Edges) (hE : LnkIs L E)
    (hQ : ∀ x y, AdjE E x y → ordP x y ∉ told → (∃ s t : Tm, l[(ordP x y).1]? = some s ∧ l[(ordP x y).2]? = some t ∧ s.args.length = t.args.length ∧ s.args.length ≤ 4) ∧ ∀ q ∈ argN l (ordP x y), Conn E q.1 q.2 ∧ q.1 < n ∧ q.2 < n)
    (g : Pr) (hg : Conn E g.1 g.2 ∧ g.1 < n ∧ g.2 < n) (SF : List Stq) (hS : stepsN L told (argN l) g = some SF) :
    Calls Tryz.prog 93 #[.pointer (some ⟨pb, 0, none⟩), .agg #[.int .i64 (g.1 : Int), .int .i64 (g.2 : Int)]] w fun e w' => ∃ v, e = .returned v ∧ w'.ownsRow w.heap.size 206 10 v SF.length (stRow SF) ∧ Below w.heap.size w w' := by
  have HX : Hid (_ ∧ _ ∧ _ ∧ _ ∧ _ ∧ _) := And.intro x1 (And.intro x2 (And.intro x3 (And.intro hT (And.intro hD hNs))))
  have HE : Hid (_ ∧ _ ∧ _) := And.intro hE (And.intro hQ hLr)
  have HI0 : Hid (∃ S G, StR w ((w.alloc (.cells #[.int .i64 (g.1 : Int), .int .i64 (g.2 : Int)] 34)).alloc (.cells #[.int .i64 (g.1 : Int), .int .i64 (g.2 : Int)] 34)) S G (.slice none 0 0) (.slice (some ⟨w.heap.size + 1, 0, none⟩) 1 1) ∧ stepsI L told (argN l) (n * n + 2) 0 S G = some SF ∧ (G.Nodup ∧ ∀ q ∈ G, Conn E q.1 q.2 ∧ q.1 < n ∧ q.2 < n) ∧ S.length ≤ 2 * n * 0) := by
    refine ⟨[], [g], ⟨by simpa [stRow] using World.ownsRow_nil _ _ _ _, ?_, ?_⟩, by rw [← hS, stepsN, hLn], ⟨by simp, by simpa using hg⟩, by simp⟩
    · refine ⟨rfl, Or.inr ⟨w.heap.size + 1, 1, #[.int .i64 (g.1 : Int), .int .i64 (g.2 : Int)], rfl, by omega, ?_, Nat.le_refl _, by unfold maxLen; omega, rfl, rfl⟩⟩
      have := heap_alloc_new (w.alloc (.cells #[.int .i64 (g.1 : Int), .int .i64 (g.2 : Int)] 34)) (.cells #[.int .i64 (g.1 : Int), .int .i64 (g.2 : Int)] 34)
      simpa using this
    · exact ((Below.refl _ _).alloc (Nat.le_refl _) _).alloc (by simp) _
  clear x1 x2 x3 hT hD hNs hE hQ hLr hS hg
  obtain ⟨g1, g2⟩ := g
  simp only at *
  obtain ⟨i0, hi0, hz0, hz1, hz2⟩ := info_parts infoStq
  go_enter Tryz.func93, Tryz.ntmps93
  go_wp2_with fail
  generalize ((w.alloc (.cells #[.int .i64 (g1 : Int), .int .i64 (g2 : Int)] 34)).alloc (.cells #[.int .i64 (g1 : Int), .int .i64 (g2 : Int)] 34)) = w1 at *
  go_loopg [5, 6, 7] (n * n + 2) (fun k t5 t6 t7 W => ∃ i : Nat, t7 = .int .i64 (i : Int) ∧ Hid (∃ S G, StR w W S G t5 t6 ∧ stepsI L told (argN l) k i S G = some SF ∧ (G.Nodup ∧ ∀ q ∈ G, Conn E q.1 q.2 ∧ q.1 < n ∧ q.2 < n) ∧ S.length ≤ 2 * n * i ∧ i ≤ G.length))
  case atStart =>
    obtain ⟨S, G, h1, h2, h3, h4⟩ := HI0.out
    exact ⟨0, rfl, S, G, h1, h2, h3, h4, Nat.zero_le _⟩
  case round =>
    obtain ⟨i, rfl, HR⟩ := hrel
    clear HI0
    obtain ⟨S, G, hR, hst, hG, hSl, hiG⟩ := HR.out
    cases gk with
    | zero => exact absurd hst (by simp [stepsI])
    | succ k =>
    rw [stepsI] at hst
    obtain ⟨sa, sc, hsv⟩ := ownsRow_form hR.srow
    obtain ⟨ga, gc, hgv⟩ := ownsRow_form hR.grow
    subst hsv hgv
    have hGl : G.length ≤ 1000000 := by
      have := pairs_le hG.1 (n := n) (fun q hq => (hG.2 q hq).2)
      have h2 : n * n ≤ 1000 * 1000 := Nat.mul_le_mul hn hn
      omega
    by_cases hlt : i < G.length
    · have di : decide ((i : Int) < (G.length : Int)) = true := decide_eq_true (by omega)
      have hwi : IntKind.i64.wrap ((i : Int) + 1) = (i : Int) + 1 := wrap_nat1 (by omega)
      have hni : 2 * n * i ≤ 2000 * 1000000 := Nat.mul_le_mul (by omega) (by omega)
      rw [List.getElem?_eq_getElem hlt] at hst
      simp only at hst
      obtain ⟨c1, c2, c3⟩ := hG.2 _ (List.getElem_mem hlt)
      have hps := PsAt.of_row hR.grow
      obtain ⟨a, c, e, hps⟩ := hps
      simp only [Value.slice.injEq, true_and] at e
      obtain ⟨rfl, rfl⟩ := e
      rcases hps with e | ⟨gb, go, rfl, hps⟩
      · rw [e] at hlt; simp at hlt
      obtain ⟨q1, q2⟩ := hps i _ (List.getElem?_eq_getElem hlt)
      generalize G[i] = q at *
      cases hp : pathN L q.1 q.2 with
      | none => rw [hp] at hst; exact absurd hst (by simp)
      | some p =>
      rw [hp] at hst
      simp only at hst
      have hM := Mono.below hR.below
      obtain ⟨x1, x2, x3, hT, hD, hNs⟩ := HX.out
      have PA := path_in wr.drew pb ta tc lv L (by omega) HE.out.2.2 (hM _ _ x1) (hM _ _ x3) (hNs.mono hM) E HE.out.1 q.1 q.2 c1 (by omega) (by omega) p hp
      obtain ⟨pr, hpo, hpnd, _, hpth, hplt⟩ := path_ok HE.out.1 c1 (by omega) (by omega)
      obtain rfl : q.1 :: pr = p := by rw [hp] at hpo; exact (Option.some.inj hpo).symm
      have hpl : (q.1 :: pr).length ≤ n := by rw [← hLn]; exact nodup_le hpnd hplt
      have HK : Hid (_ ∧ _ ∧ _ ∧ _ ∧ _) := And.intro hR (And.intro hst (And.intro hG (And.intro hSl hpth)))
      obtain ⟨qa, qb⟩ := q
      simp only at *
      clear hps hM x1 x2 x3 hT hD hNs hpo hpnd hplt hp hR hst hG hSl hpth HR c1 c2 c3
      generalize hpe : qa :: pr = p at *
      have HPE : Hid _ := hpe
      clear hpe
      go_wp2_with fail
      go_cut [8] from 20 to 31 (fun t8 wx => Hid (wx.ownsRow w.heap.size 3 1 t8 p.length (p.map i64) ∧ StR w wx S G (.slice sa S.length sc) (.slice (some ⟨gb, go, none⟩) G.length gc)))
      case first =>
        go_region_law (first | (go_simp; go_at_call 140; refine PA.mono ?_; rintro e w5 ⟨pv, rfl, hp5, hB5⟩))
        all_goals
          try simp only [Act.put, List.getElem_toArray, List.getElem_cons_succ, List.getElem_cons_zero, List.setIfInBounds_toArray, List.set_cons_succ, List.set_cons_zero]
          go_wp2_with fail
          go_meet
          case rel =>
            have hz : w.heap.size ≤ wr.heap.size := HK.out.1.below.size
            exact ⟨row_low hp5 hz, HK.out.1.under (below_of_drw hB5)⟩
      case rest =>
        clear PA q1 q2
        obtain ⟨pa, pc, hpv⟩ := ownsRow_form hcut.out.1
        subst hpv
        have HJ0 : Hid (∃ S' G', StP w wc S' G' (.slice sa S.length sc) (.slice (some ⟨gb, go, none⟩) G.length gc) (.slice pa p.length pc) p ∧ stepsK told (argN l) qa true (p.drop 0) S' G' = stepsK told (argN l) qa true p S G ∧ (G'.Nodup ∧ ∀ q ∈ G', Conn E q.1 q.2 ∧ q.1 < n ∧ q.2 < n) ∧ S'.length ≤ 2 * n * i + 2 * 0 ∧ i < G'.length) := ⟨S, G, ⟨hcut.out.2, hcut.out.1⟩, by rw [List.drop_zero], HK.out.2.2.1, by have := HK.out.2.2.2.1; omega, hlt⟩
        have hp1 : 1 ≤ p.length := by rw [← HPE.out]; simp
        clear hcut
        obtain ⟨w4, rfl⟩ : ∃ w4, w4 = wc := ⟨_, rfl⟩
        go_wp2_with fail
        go_loopw [5, 6, 9] (fun t5 t6 t9 W => ∃ m : Nat, m + 1 ≤ p.length ∧ t9 = .int .i64 ((m : Int) + 1) ∧ Hid (∃ S' G', StP w W S' G' t5 t6 (.slice pa p.length pc) p ∧ stepsK told (argN l) qa (decide (m = 0)) (p.drop m) S' G' = stepsK told (argN l) qa true p S G ∧ (G'.Nodup ∧ ∀ q ∈ G', Conn E q.1 q.2 ∧ q.1 < n ∧ q.2 < n) ∧ S'.length ≤ 2 * n * i + 2 * m ∧ i < G'.length)) (fun _ _ t9 _ => p.length - (intOf t9).toNat)
        case atStart => exact ⟨0, hp1, rfl, HJ0⟩
        case round =>
          obtain ⟨m, hm2, rfl, HJ⟩ := hrel
          clear HJ0
          obtain ⟨S', G', hR', hst', hG', hSl', hiG'⟩ := HJ.out
          obtain ⟨sa', sc', hsv⟩ := ownsRow_form hR'.st.srow
          obtain ⟨ga', gc', hgv⟩ := ownsRow_form hR'.st.grow
          subst hsv hgv
          by_cases hml : m + 1 < p.length
          · have dm : decide ((m : Int) + 1 < (p.length : Int)) = true := decide_eq_true (cast_lt1 hml)
            have hm0 : m < p.length := Nat.lt_of_succ_lt hml
            have hmb : m ≤ 1048576 := Nat.le_trans (Nat.le_of_lt hm0) (Nat.le_trans hpl (Nat.le_trans hn (by decide)))
            have dm2 := cast_lt1 hml
            have dm3 := cast_nn1 m
            have dm4 := cast_lt hm0
            have dm5 := cast_nn m
            have hw1 := wrap_nat2q hmb
            have hw3 := wrap_nat0 hmb
            have hw2 := wrap_nat hmb
            have hdr : p.drop m = p[m] :: p[m + 1] :: p.drop (m + 2) := by rw [List.drop_eq_getElem_cons hm0, List.drop_eq_getElem_cons hml]
            rw [hdr, stepsK] at hst'
            have hadj := HK.out.2.2.2.2.at (List.getElem?_eq_getElem hm0) (List.getElem?_eq_getElem hml)
            obtain ⟨pb', po, pc', e1, k1⟩ := (NsAt.of_rowI hR'.prow).get (List.getElem?_eq_getElem hm0)
            obtain ⟨pb'', po', pc'', e2, k2⟩ := (NsAt.of_rowI hR'.prow).get (List.getElem?_eq_getElem hml)
            rw [e1] at e2
            simp only [Value.slice.injEq, Option.some.injEq, Addr.mk.injEq, true_and, and_true] at e1 e2
            obtain ⟨rfl, rfl⟩ := e1
            obtain ⟨⟨rfl, rfl⟩, rfl⟩ := e2
            have HDR : Hid (p.drop (m + 1) = p[m + 1] :: p.drop (m + 2)) := List.drop_eq_getElem_cons hml
            have HXY : Hid (p[m]? = some p[m] ∧ p[m + 1]? = some p[m + 1]) := ⟨List.getElem?_eq_getElem hm0, List.getElem?_eq_getElem hml⟩
            generalize p[m] = x at *
            generalize p[m + 1] = y at *
            have OR : ∀ W, _ := fun W => ordered_p W x y
            have hQ := HE.out.2.1 x y hadj
            obtain ⟨c, hc⟩ : ∃ c, ordP x y = c := ⟨_, rfl⟩
            rw [hc] at hQ hst'
            have HC : Hid _ := hc
            simp only [hc] at OR
            have HH : Hid (_ ∧ True ∧ _ ∧ _ ∧ _ ∧ _) := And.intro hR' (And.intro trivial (And.intro hst' (And.intro hG' (And.intro hSl' hQ))))
            clear hc hR' hst' hG' hSl' hQ HJ hadj hdr
            have k1a : ∀ O, (wr.alloc O).cell? ⟨pb', po + m, none⟩ = some (.int .i64 (x : Int)) := fun O => Lib.cell?_alloc_some _ k1
            have k2a : ∀ O, (wr.alloc O).cell? ⟨pb', po + (m + 1), none⟩ = some (.int .i64 (y : Int)) := fun O => Lib.cell?_alloc_some _ k2
            go_wp2_with fail
            go_cut [10] from 38 to 47 (fun t10 wx => ∃ lb, t10 = .pointer (some ⟨lb, 0, none⟩) ∧ Hid (StP w wx S' G' (.slice sa' S'.length sc') (.slice ga' G'.length gc') (.slice (some ⟨pb', po, none⟩) p.length pc) p ∧ BxP wx lb c (.slice ga' G'.length gc')))
            case first =>
              go_region_law (first | (go_simp; go_at_call 79; refine (OR _).mono ?_; rintro e w5 ⟨rfl, hB5⟩; have f1 := fun h => (box_if hB5 wr.heap.size 0 h).1; have f2 := fun h => (box_if hB5 wr.heap.size 1 h).1; have f3 := fun h => (box_if hB5 wr.heap.size 0 h).2; have f4 := fun h => (box_if hB5 wr.heap.size 1 h).2))
              all_goals
                try simp only [Act.put, List.getElem_toArray, List.getElem_cons_succ, List.getElem_cons_zero, List.setIfInBounds_toArray, List.set_cons_succ, List.set_cons_zero]
                go_wp2_with fail
                go_meet
                case rel =>
                  first
                  | exact relA HH.out.1 hB5
                  | exact relB HH.out.1 hB5
            case rest =>
              obtain ⟨lb, rfl, HL⟩ := hcut
              have y1 := HL.out.2.c0
              have y2 := HL.out.2.c1
              clear k1 k2 k1a k2a
              obtain ⟨w6, rfl⟩ : ∃ w6, w6 = wc := ⟨_, rfl⟩
              have hM6 := Mono.below HL.out.1.st.below
              obtain ⟨x1, x2, x3, hT, hD, hNs⟩ := HX.out
              have x2' := hM6 _ _ x2
              have DC := dCont_in w6.drew dv told (hD.mono hM6) (Nat.le_trans htl (by decide)) c
              clear x1 x3 hNs x2
              have HTT : Hid (TsAt w (.slice ta L.length tc) l) := hT
              have HXX : Hid _ := And.intro hM6 (hM6 _ _ HX.out.1)
              clear hT hD hM6
              apply_assumption
              refine wp_seq_k ?_
              intro KK hKK
              go_cut [5, 6, 11] from 48 to 66 (fun t5 t6 _ wx => Hid (StP w wx (if c ∈ told then S' else S' ++ [(c, argN l c)]) (if c ∈ told then G' else addP G' (argN l c)) t5 t6 (.slice (some ⟨pb', po, none⟩) p.length pc) p ∧ BxP wx lb c t6))
              case first =>
                by_cases hin : c ∈ told
                · rw [decide_eq_true hin] at DC
                  have HI : Hid ((if c ∈ told then S' else S' ++ [(c, argN l c)]) = S' ∧ (if c ∈ told then G' else addP G' (argN l c)) = G') := ⟨if_pos hin, if_pos hin⟩
                  clear hin
                  go_wp2_with fail
                  go_cut [54] from 48 to 53 (fun t54 wx => t54 = .bool false ∧ Hid (Below w6.heap.size w6 wx))
                  case first =>
                    go_region_law (first | (go_simp; go_at_call 133; refine DC.mono ?_; rintro e w7 ⟨rfl, hB7⟩))
                    all_goals
                      try simp only [Act.put, List.getElem_toArray, List.getElem_cons_succ, List.getElem_cons_zero, List.setIfInBounds_toArray, List.set_cons_succ, List.set_cons_zero]
                      go_wp2_with fail
                      go_meet
                      case rel => exact ⟨rfl, below_of_drw hB7⟩
                  case rest =>
                    obtain ⟨rfl, HB7⟩ := hcut
                    go_wp2_with fail
                    go_meet
                    case rel =>
                      rw [HI.out.1, HI.out.2]
                      exact ⟨HL.out.1.under HB7.out, HL.out.2.under HB7.out⟩
                · rw [decide_eq_false hin] at DC
                  obtain ⟨⟨s, t, hs, ht, hst4, hs4⟩, hQ2⟩ := HH.out.2.2.2.2.2 hin
                  have HI : Hid ((if c ∈ told then S' else S' ++ [(c, argN l c)]) = S' ++ [(c, argN l c)] ∧ (if c ∈ told then G' else addP G' (argN l c)) = addP G' (argN l c)) := ⟨if_neg hin, if_neg hin⟩
                  have HA : Hid (_ ∧ _ ∧ _) := And.intro hs (And.intro ht (And.intro hst4 hs4))
                  have hal : (argN l c).length ≤ 4 := by
                    have : (argN l c).length = min s.args.length t.args.length := by simp [argN, argsN, hs, ht]
                    rw [this]
                    exact Nat.le_trans (Nat.min_le_left _ _) hs4
                  clear hin hs ht hst4 hs4 hQ2
                  go_wp2_with fail
                  go_cut [54] from 48 to 53 (fun t54 wx => t54 = .bool true ∧ Hid (Below w6.heap.size w6 wx))
                  case first =>
                    go_region_law (first | (go_simp; go_at_call 133; refine DC.mono ?_; rintro e w7 ⟨rfl, hB7⟩))
                    all_goals
                      try simp only [Act.put, List.getElem_toArray, List.getElem_cons_succ, List.getElem_cons_zero, List.setIfInBounds_toArray, List.set_cons_succ, List.set_cons_zero]
                      go_wp2_with fail
                      go_meet
                      case rel => exact ⟨rfl, below_of_drw hB7⟩
                  case rest =>
                    obtain ⟨rfl, HB7⟩ := hcut
                    have hM7 := Mono.below HB7.out
                    have y1' := hM7 _ _ y1
                    have y2' := hM7 _ _ y2
                    have AP := argPairs_in wc pb _ l c (hM7 _ _ (HXX.out.2)) ((HTT.out.mono HXX.out.1).mono hM7) s t HA.out.1 HA.out.2.1 HA.out.2.2.1 HA.out.2.2.2
                    clear y1 y2 DC hM7
                    go_wp2_with (first | (go_at_call 141; refine AP.mono ?_; rintro e w8 ⟨av, rfl, hA8, hB8⟩; refine Aside.out ?_))
                    delta Aside
                    have hM8 := Mono.below hB8
                    have y1 := hM8 _ _ y1'
                    have y2 := hM8 _ _ y2'
                    obtain ⟨aa, ac, hav⟩ := ownsRow_form hA8
                    subst hav
                    have NS := newStep_all w8 c aa ac (argN l c) (PsAt.of_row hA8) hal
                    obtain ⟨v0, v1, v2, v3, v4, v5, v6, v7, v8, v9, hsv⟩ := stpV_form c (argN l c)
                    rw [hsv] at NS
                    have HSV : Hid _ := hsv
                    have HA8 : Hid (_ ∧ _) := And.intro hA8 hB8
                    clear hsv hA8 hB8 y1' y2' AP hM8
                    generalize hall : (argN l c).length = al at *
                    have HALL : Hid _ := hall
                    clear hall
                    apply_assumption
                    go_wp2_with (first | (go_at_call 142; refine NS.mono ?_; rintro e w9 ⟨rfl, hB9⟩; refine Aside.out ?_))
                    delta Aside
                    have R9 := HL.out.1.under (below2 (below2 HB7.out HA8.out.2) hB9)
                    have X9 := HL.out.2.under (below2 (below2 HB7.out HA8.out.2) hB9)
                    have H9 : Hid (_ ∧ _ ∧ _) := And.intro R9 (And.intro hB9 X9)
                    have hb9 : w.heap.size ≤ w9.heap.size := R9.st.below.size
                    have hSb : S'.length ≤ 1000000000000 := Nat.le_trans HH.out.2.2.2.2.1 (Nat.le_trans (Nat.add_le_add hni (Nat.mul_le_mul_left 2 hmb)) (by decide))
                    have hGb : G'.length ≤ 1000000 := pairs_b hn HH.out.2.2.2.1
                    clear NS hB9 R9 X9 y1 y2
                    apply_assumption
                    go_wp2_with (first | (at_builtin; refine Aside.out ?_))
                    delta Aside
                    refine wpList_append_own_at _ rfl _ _ 200 rfl w.heap.size 206 i0 _ 10 80 Tryz.underlying200 hi0 hz0 hz1 hz2 rfl (by decide) _ _ _ rfl (H9.out.1.st.srow.alloc _) ⟨_, 0, none⟩ 1 1 [.int .i64 v0, .int .i64 v1, .int .i64 v2, .int .i64 v3, .int .i64 v4, .int .i64 v5, .int .i64 v6, .int .i64 v7, .int .i64 v8, .int .i64 v9] rfl rfl (cell_ten w9 _ _ _ _ _ _ _ _ _ _ _) (by simp [Value.oneCell']) (len_b1 hSb) (len_b2 hSb) (Nat.le_trans hb9 (by simp)) ?_
                    intro vv ww hownV hgrowV _ hatV
                    have XV : BxP ww lb c (.slice ga' G'.length gc') := H9.out.2.2.pushS ((Below.refl _ _).alloc (Nat.le_refl _) _) H9.out.1.st.srow hgrowV
                    have RV : StP w ww (S' ++ [(c, argN l c)]) G' vv (.slice ga' G'.length gc') (.slice (some ⟨pb', po, none⟩) p.length pc) p := H9.out.1.pushS ((Below.refl _ _).alloc (Nat.le_refl _) _) (by rw [HSV.out]; exact hownV) hgrowV
                    have PV : PsAt ww (.slice aa (argN l c).length ac) (argN l c) := by
                      have r8 := HA8.out.1
                      have r9 := ownsRow_below (ownsRow_below r8 H9.out.2.1) ((Below.refl w9.heap.size w9).alloc (Nat.le_refl _) (.cells #[.int .i64 v0, .int .i64 v1, .int .i64 v2, .int .i64 v3, .int .i64 v4, .int .i64 v5, .int .i64 v6, .int .i64 v7, .int .i64 v8, .int .i64 v9] 206))
                      have s9 := H9.out.1.st.srow.alloc (.cells #[.int .i64 v0, .int .i64 v1, .int .i64 v2, .int .i64 v3, .int .i64 v4, .int .i64 v5, .int .i64 v6, .int .i64 v7, .int .i64 v8, .int .i64 v9] 206)
                      rw [HALL.out]
                      rw [← HALL.out] at r9 ⊢
                      exact PsAt.of_row (ownsRow_blk r9 (fun b hb => hgrowV.block b (ownsRow_lt r9 hb).2 (fun e => ownsRow_ne2 r9 s9 (by decide) hb e.symm)))
                    have hgne : ∀ b off, aa = some ⟨b, off, none⟩ → (Value.slice ga' G'.length gc').ownBlock ≠ some b := fun b off e e2 => by
                      have h1 := (ownsRow_lt HL.out.1.st.grow e2).2
                      have h2 := HB7.out.size
                      have h3 : wc.heap.size ≤ b := own_base HA8.out.1 e
                      omega
                    have AD := addPairs_in ww w.heap.size RV.st.below.size _ G' RV.st.grow aa ac (argN l c) PV hgne (len_b3 hGb (by rw [HALL.out]; exact hal))
                    have HRV : Hid (_ ∧ _) := And.intro RV XV
                    clear hownV hgrowV hatV RV PV XV H9
                    rw [HALL.out] at AD
                    go_wp2_with (first | (go_at_call 89; refine AD.mono ?_; rintro e w10 ⟨gv2, rfl, hr10⟩))
                    go_meet
                    case rel =>
                      rw [HI.out.1, HI.out.2]
                      exact ⟨HRV.out.1.addG hr10, HRV.out.2.addG hr10⟩
              case rest =>
                have hQ2 := HH.out.2.2.2.2.2
                have hG2 : ((if c ∈ told then G' else addP G' (argN l c)).Nodup ∧ ∀ q ∈ (if c ∈ told then G' else addP G' (argN l c)), Conn E q.1 q.2 ∧ q.1 < n ∧ q.2 < n) ∧ i < (if c ∈ told then G' else addP G' (argN l c)).length := by
                  by_cases hin : c ∈ told
                  · rw [if_pos hin]
                    exact ⟨HH.out.2.2.2.1, hiG'⟩
                  · rw [if_neg hin]
                    obtain ⟨r1, r2, ⟨u, r3⟩, _⟩ := addP_ok (fun q => Conn E q.1 q.2 ∧ q.1 < n ∧ q.2 < n) (argN l c) G' HH.out.2.2.2.1.1 HH.out.2.2.2.1.2 (hQ2 hin).2
                    exact ⟨⟨r1, r2⟩, by rw [r3, List.length_append]; exact Nat.lt_of_lt_of_le hiG' (Nat.le_add_right _ _)⟩
                have hS2 : (if c ∈ told then S' else S' ++ [(c, argN l c)]).length ≤ 2 * n * i + 2 * m + 1 := by
                  have := HH.out.2.2.2.2.1
                  by_cases hin : c ∈ told
                  · rw [if_pos hin]
                    exact Nat.le_succ_of_le this
                  · rw [if_neg hin, List.length_append]
                    exact Nat.succ_le_succ this
                have hst2 := HH.out.2.2.1
                have HC3 : Hid _ := hcut.out
                generalize (if c ∈ told then S' else S' ++ [(c, argN l c)]) = S2 at *
                generalize (if c ∈ told then G' else addP G' (argN l c)) = G2 at *
                obtain ⟨sa2, sc2, hsv⟩ := ownsRow_form HC3.out.1.st.srow
                obtain ⟨ga2, gc2, hgv⟩ := ownsRow_form HC3.out.1.st.grow
                subst hsv hgv
                have HG2 : Hid (_ ∧ _ ∧ _) := And.intro hG2 (And.intro hS2 hst2)
                clear hcut hG2 hS2 hst2 hQ2 y1 y2 DC x2' HXX HTT HL
                by_cases hmz : m = 0
                · have HMZ : Hid _ := hmz
                  have dz : decide ((1 : Int) < (m : Int) + 1) = false := by rw [hmz]; decide
                  have dz2 : ¬ (0 : Int) < (m : Int) := by rw [hmz]; decide
                  have dz3 : ¬ 0 < m := by rw [hmz]; decide
                  clear hmz
                  apply_assumption
                  go_wp2_with fail
                  refine ⟨⟨m + 1, hml, cast_suc m, ?_⟩, meas_suc hml⟩
                  refine ⟨S2, G2, HC3.out.1, ?_, HG2.out.1.1, Nat.le_trans HG2.out.2.1 (Nat.le_succ _), HG2.out.1.2⟩
                  have := HG2.out.2.2
                  rw [if_pos (decide_eq_true HMZ.out), List.append_nil] at this
                  rw [decide_eq_false (Nat.succ_ne_zero m), HDR.out]
                  exact this
                · have dz : decide ((1 : Int) < (m : Int) + 1) = true := decide_eq_true (pos_suc hmz)
                  have dz2 : (0 : Int) < (m : Int) := pos_cast hmz
                  have dz3 : 0 < m := Nat.pos_of_ne_zero hmz
                  have HMZ : Hid _ := hmz
                  have hp0 : p[0]? = some qa := by rw [← HPE.out]; rfl
                  have hns := NsAt.of_rowI HC3.out.1.prow
                  have HPX : Hid (∀ W, Below wc.heap.size wc W → W.cell? ⟨pb', po, none⟩ = some (.int .i64 (qa : Int)) ∧ W.cell? ⟨pb', po + m, none⟩ = some (.int .i64 (x : Int)) ∧ W.cell? ⟨pb', po + (m + 1), none⟩ = some (.int .i64 (y : Int)) ∧ W.cell? ⟨lb, 0, none⟩ = some (.int .i64 (c.1 : Int)) ∧ W.cell? ⟨lb, 1, none⟩ = some (.int .i64 (c.2 : Int))) := fun W hB => by
                    have hMW := Mono.below hB
                    obtain ⟨b0, o0, c0, e0, z0⟩ := (hns.mono hMW).get hp0
                    obtain ⟨b1, o1, c1, e1, z1⟩ := (hns.mono hMW).get HXY.out.1
                    obtain ⟨b2, o2, c2, e2, z2⟩ := (hns.mono hMW).get HXY.out.2
                    cases e0
                    cases e1
                    cases e2
                    exact ⟨z0, z1, z2, hMW _ _ HC3.out.2.c0, hMW _ _ HC3.out.2.c1⟩
                  have ORz : ∀ (W : World) (z : Nat), _ := fun W z => ordered_p W qa z
                  obtain ⟨cy, hcy⟩ : ∃ cy, cy = ordP qa y := ⟨_, rfl⟩
                  obtain ⟨cx, hcx⟩ : ∃ cx, cx = ordP qa x := ⟨_, rfl⟩
                  obtain ⟨v0, v1, v2, v3, v4, v5, v6, v7, v8, v9, hsv⟩ := stpV_form cy [cx, c]
                  have NSL : ∀ (X : World) (bs : Nat), PsAt X (.slice (some ⟨bs, 0, none⟩) 2 2) [cx, c] → Calls Tryz.prog 142 #[.agg #[.int .i64 (cy.1 : Int), .int .i64 (cy.2 : Int)], .slice (some ⟨bs, 0, none⟩) 2 2] X fun e w' => e = .returned (.agg #[.int .i64 v0, .int .i64 v1, .int .i64 v2, .int .i64 v3, .int .i64 v4, .int .i64 v5, .int .i64 v6, .int .i64 v7, .int .i64 v8, .int .i64 v9]) ∧ Below X.heap.size X w' := fun X bs hps => by
                    have := newStep_all X cy (some ⟨bs, 0, none⟩) 2 [cx, c] hps (by simp)
                    rw [hsv] at this
                    exact this
                  have HSV : Hid _ := hsv
                  obtain ⟨k0, k1, k2, k3, k4⟩ := HPX.out _ (Below.refl _ _)
                  have hSb : S2.length ≤ 1000000000000 := Nat.le_trans HG2.out.2.1 (Nat.le_trans (Nat.add_le_add (Nat.add_le_add hni (Nat.mul_le_mul_left 2 hmb)) (Nat.le_refl 1)) (by decide))
                  have hcb : w.heap.size ≤ wc.heap.size := HC3.out.1.st.below.size
                  have dm7 : 0 < p.length := Nat.lt_of_le_of_lt (Nat.zero_le m) hm0
                  have dm6 : (0 : Int) < (p.length : Int) := cast_lt (Nat.lt_of_le_of_lt (Nat.zero_le m) hm0)
                  have HPV : Hid (∀ (w7 : World) (vv : Value) (ww : World), Below wc.heap.size wc w7 → ww.ownsRow w.heap.size 206 10 vv (S2.length + 1) (stRow S2 ++ [.int .i64 v0, .int .i64 v1, .int .i64 v2, .int .i64 v3, .int .i64 v4, .int .i64 v5, .int .i64 v6, .int .i64 v7, .int .i64 v8, .int .i64 v9]) → (w7.alloc (.cells #[.int .i64 v0, .int .i64 v1, .int .i64 v2, .int .i64 v3, .int .i64 v4, .int .i64 v5, .int .i64 v6, .int .i64 v7, .int .i64 v8, .int .i64 v9] 206)).grownBy ww (Value.slice sa2 S2.length sc2).ownBlock → (ww.cell? ⟨pb', po, none⟩ = some (.int .i64 (qa : Int)) ∧ ww.cell? ⟨pb', po + m, none⟩ = some (.int .i64 (x : Int)) ∧ ww.cell? ⟨pb', po + (m + 1), none⟩ = some (.int .i64 (y : Int)) ∧ ww.cell? ⟨lb, 0, none⟩ = some (.int .i64 (c.1 : Int)) ∧ ww.cell? ⟨lb, 1, none⟩ = some (.int .i64 (c.2 : Int))) ∧ StP w ww (S2 ++ [(cy, [cx, c])]) G2 vv (.slice ga2 G2.length gc2) (.slice (some ⟨pb', po, none⟩) p.length pc) p) := fun w7 vv ww hB ho hg => by
                    have s7 := HC3.out.1.pushS (below_al hB _) (by rw [hsv]; exact ho) hg
                    have x7 := HC3.out.2.pushS (below_al hB _) HC3.out.1.st.srow hg
                    have hns7 := NsAt.of_rowI s7.prow
                    obtain ⟨b0, o0, c0, e0, z0⟩ := hns7.get hp0
                    obtain ⟨b1, o1, c1, e1, z1⟩ := hns7.get HXY.out.1
                    obtain ⟨b2, o2, c2, e2, z2⟩ := hns7.get HXY.out.2
                    cases e0
                    cases e1
                    cases e2
                    exact ⟨⟨z0, z1, z2, x7.c0, x7.c1⟩, s7⟩
                  subst hcy hcx
                  clear hmz hns hp0 hsv
                  apply_assumption
                  go_wp2_with fail
                  go_region_held3 (fun W => W.cell? ⟨pb', po, none⟩ = some (.int .i64 (qa : Int)) ∧ W.cell? ⟨pb', po + m, none⟩ = some (.int .i64 (x : Int)) ∧ W.cell? ⟨pb', po + (m + 1), none⟩ = some (.int .i64 (y : Int)) ∧ W.cell? ⟨lb, 0, none⟩ = some (.int .i64 (c.1 : Int)) ∧ W.cell? ⟨lb, 1, none⟩ = some (.int .i64 (c.2 : Int))) (first | exact HPX.out _ (by first | assumption | exact below_drw wc | exact below_al (by first | assumption | exact below_drw wc) _) | assumption) (first | (refine step_append_here rfl (.tmp 69) (.tmp 90) 200 rfl w.heap.size 206 i0 _ 10 80 Tryz.underlying200 hi0 hz0 hz1 hz2 rfl (by decide) (.slice sa2 S2.length sc2) S2.length (stRow S2) (by (try simp only [Act.put, List.getElem_toArray, List.getElem_cons_succ, List.getElem_cons_zero, List.setIfInBounds_toArray, List.set_cons_succ, List.set_cons_zero]); first | rfl | (simp [Act.eval]; done)) (by exact World.ownsRow.alloc (ownsRow_below HC3.out.1.st.srow KS7) _) ⟨w7.heap.size, 0, none⟩ 1 1 [.int .i64 v0, .int .i64 v1, .int .i64 v2, .int .i64 v3, .int .i64 v4, .int .i64 v5, .int .i64 v6, .int .i64 v7, .int .i64 v8, .int .i64 v9] (by (try simp only [Act.put, List.getElem_toArray, List.getElem_cons_succ, List.getElem_cons_zero, List.setIfInBounds_toArray, List.set_cons_succ, List.set_cons_zero]); first | rfl | (simp [Act.eval]; done)) rfl (cell_ten w7 _ _ _ _ _ _ _ _ _ _ _) (by simp [Value.oneCell']) (len_b1 hSb) (len_b2 hSb) (Nat.le_trans (Nat.le_trans hcb KS7.size) (by simp)) ?_; intro vv ww hownV hgrowV hatV; have SV := HPV.out w7 vv ww KS7 hownV hgrowV; have SV2 := SV.1) | (go_at_call 79; refine (ORz _ _).mono ?_; rintro e w5 ⟨rfl, hB5⟩; have KS : Below wc.heap.size wc w5 := below2 (by first | assumption | exact below_drw wc | exact below_al (by first | assumption | exact below_drw wc) _) hB5) | (go_at_call 142; refine (NSL _ _ (by first | exact psAt2 _ _ _ | exact (psAt2 _ _ _).below hB5)).mono ?_; rintro e w7 ⟨rfl, hB7⟩; have KS7 : Below wc.heap.size wc w7 := below2 (by first | assumption | exact below_drw wc | exact below_al (by first | assumption | exact below_drw wc) _) hB7))
                  all_goals
                    have HF : Hid _ := SV.2
                    clear SV SV2 hownV hgrowV hatV HPV HPX NSL ORz k0 k1 k2 k3 k4
                    go_wp2_with fail
                    refine ⟨⟨m + 1, hml, cast_suc m, ?_⟩, meas_suc hml⟩
                    refine ⟨_, G2, HF.out, ?_, HG2.out.1.1, ?_, HG2.out.1.2⟩
                    · have := HG2.out.2.2
                      rw [if_neg (by rw [decide_eq_false HMZ.out]; exact Bool.false_ne_true)] at this
                      rw [decide_eq_false (Nat.succ_ne_zero m), HDR.out]
                      exact this
                    · rw [List.length_append]
                      exact Nat.succ_le_succ HG2.out.2.1
          · have hme : m + 1 = p.length := Nat.le_antisymm hm2 (Nat.le_of_not_lt hml)
            have dm : decide ((m : Int) + 1 < (p.length : Int)) = false := decide_eq_false (by rw [← hme]; exact Int.lt_irrefl _)
            have HF : Hid (∀ (W : World), W = wr → ∃ S G, StR w W S G (.slice sa' S'.length sc') (.slice ga' G'.length gc') ∧ stepsI L told (argN l) k (i + 1) S G = some SF ∧ (G.Nodup ∧ ∀ q ∈ G, Conn E q.1 q.2 ∧ q.1 < n ∧ q.2 < n) ∧ S.length ≤ 2 * n * (i + 1) ∧ i + 1 ≤ G.length) := fun W hW => by
              subst hW
              have hdr : p.drop m = [p[m]'(by omega)] := by rw [List.drop_eq_getElem_cons (by omega), hme, List.drop_length]
              rw [hdr, stepsK_one] at hst'
              have hst := HK.out.2.1
              rw [← hst'] at hst
              refine ⟨S', G', hR'.st, hst, hG', Nat.le_trans hSl' ?_, hiG'⟩
              rw [Nat.mul_succ]
              omega
            clear hR' hst' hG' hSl' HJ
            go_wp2_with fail
            go_roundg k
            case measure => exact Nat.lt_succ_self k
            case rel =>
              obtain ⟨S2, G2, h1⟩ := HF.out _ rfl
              exact ⟨i + 1, by simp, S2, G2, h1⟩
    · have di : decide ((i : Int) < (G.length : Int)) = false := decide_eq_false (by omega)
      rw [List.getElem?_eq_none (by omega)] at hst
      have hSF : S = SF := Option.some.inj hst
      have HF : Hid (wr.ownsRow w.heap.size 206 10 (.slice sa S.length sc) SF.length (stRow SF) ∧ Below w.heap.size w wr) := by
        rw [← hSF]
        exact ⟨hR.srow, hR.below⟩
      clear hR hst hG hSl HR hSF
      go_wp2_with fail
      go_ret
      exact ⟨_, rfl, HF.out.1, HF.out.2⟩
end Go.Proofs.YtlehlgipbhfioaaGreat
