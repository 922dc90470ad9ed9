/- The document's parser: what its functions promise; boxes of Forms; or, and. -/
import Derived.Test.YtinphcnknionmaaP23
import Derived.Test.YtinphcnknionmaaLoJ
namespace Go.Proofs.Ytinphcnknionmaa.Q5
open Go.RowKit

theorem made_formR (w : World) (v0 v1 v2 v3 : Value) : (w.alloc (.cells #[v0, v1, v2, v3] 94)).rowIs w.heap.size 94 4 (frm v0 v1 v2 v3) :=
  World.rowIs.congr (made_row w #[v0, v1, v2, v3] 94) (fun j hj => by
    have hj' : j < 4 := hj
    rcases (by omega : j = 0 ∨ j = 1 ∨ j = 2 ∨ j = 3) with rfl | rfl | rfl | rfl <;> rfl)
theorem rowIs_keepR {A : Nat → Prop} {W W' : World} (K : RKeep A W W') {b n : Nat} {f : Nat → Value} (hb : A b) (h : W.rowIs b 94 n f) : W'.rowIs b 94 n f := by
  obtain ⟨c, h1, h2⟩ := h
  exact ⟨c, K b c (0, 0) hb h1, h2⟩
theorem form_cellsR {w : World} {b : Nat} {v0 v1 v2 v3 : Value} (h : w.rowIs b 94 4 (frm v0 v1 v2 v3)) : w.cell? ⟨b, 0, none⟩ = some v0 ∧ w.cell? ⟨b, 1, none⟩ = some v1 ∧ w.cell? ⟨b, 2, none⟩ = some v2 ∧ w.cell? ⟨b, 3, none⟩ = some v3 :=
  ⟨h.cell (i := 0) (by omega), h.cell (i := 1) (by omega), h.cell (i := 2) (by omega), h.cell (i := 3) (by omega)⟩
theorem put_formR {w : World} {b : Nat} {f : Nat → Value} (h : w.rowIs b 94 4 f) (v0 v1 v2 v3 : Value) : (put4 w b v0 v1 v2 v3).rowIs b 94 4 (frm v0 v1 v2 v3) :=
  World.rowIs.congr ((((h.set 0 v0).set 1 v1).set 2 v2).set 3 v3) (fun j hj => by
    rcases (by omega : j = 0 ∨ j = 1 ∨ j = 2 ∨ j = 3) with rfl | rfl | rfl | rfl <;> simp [frm])
theorem put_kept (w : World) (b : Nat) (v0 v1 v2 v3 : Value) : Kept1 b w (put4 w b v0 v1 v2 v3) := Kept1.set (Kept1.set (Kept1.set (Kept1.set (Kept.refl _ w) 0 v0) 1 v1) 2 v2) 3 v3
theorem put_otherR {w : World} {b c n : Nat} {f : Nat → Value} {t : TypeId} (h : w.rowIs b t n f) (hne : b ≠ c) (v0 v1 v2 v3 : Value) : (put4 w c v0 v1 v2 v3).rowIs b t n f :=
  h.of_block ((put_kept w c v0 v1 v2 v3).block b h.lt hne)
theorem put_keepR {A : Nat → Prop} {w : World} {b : Nat} (hb : ¬ A b) (v0 v1 v2 v3 : Value) : RKeep A w (put4 w b v0 v1 v2 v3) :=
  (((RKeep.setCell w hb 0 v0).trans (RKeep.setCell _ hb 1 v1)).trans (RKeep.setCell _ hb 2 v2)).trans (RKeep.setCell _ hb 3 v3)

section
variable {d : Nat} {w w' : World} {base r : Nat} {av av' : Value} {s : ByteArray} {i e a : Nat} {l : List Tm} {vs : List Value}

theorem noForm_of {t : TypeId} {b n : Nat} {f : Nat → Value} (h : w.rowIs b t n f) (ht : t ≠ 94) (c : Array Value) (fz : Nat × Nat) : w.heap[b]? ≠ some (Obj.cells c 94 fz) := by
  obtain ⟨c1, h1, _⟩ := h
  intro x
  rw [h1] at x
  injection x with x
  injection x with _ x
  exact ht x
theorem noForm_row {t : TypeId} {size n : Nat} {v : Value} {xs : List Value} (h : w.ownsRow base t size v n xs) (ht : t ≠ 94) {b : Nat} (hb : v.ownBlock = some b) (c : Array Value) (fz : Nat × Nat) : w.heap[b]? ≠ some (Obj.cells c 94 fz) := by
  rcases h.2 with ⟨rfl, _⟩ | ⟨b2, cap, cur, rfl, _, h3, _⟩
  · cases hb
  · injection hb with hb
    subst hb
    intro x
    rw [h3] at x
    injection x with x
    injection x with _ x
    exact ht x

/-- Forms stay while the parser reads. -/
theorem S0.rkeep (h : S0 d w base r av s i e a l vs) (G : GR r w av w' av') (A : Nat → Prop) : RKeep A w w' := by
  refine RKeep.of_kept G.kept (fun k hk c fz => ?_) A
  rcases hk with rfl | hk | hk
  · exact noForm_of h.rd.row (by decide) c fz
  · exact noForm_row h.ls.row (by decide) hk c fz
  · intro x
    have := (Array.getElem?_eq_some_iff.1 x).1
    omega
/-- The parser stays while a block of Forms is written. -/
theorem S0.put (h : S0 d w base r av s i e a l vs) {b n : Nat} {f : Nat → Value} (hb : w.rowIs b 94 n f) (K : Kept1 b w w') : S0 d w' base r av s i e a l vs := by
  obtain ⟨c, hc, _⟩ := hb
  have n1 : r ≠ b := fun x => noForm_of h.rd.row (by decide) c (0, 0) (x ▸ hc)
  refine ⟨h.rd.of_block (K.block r h.rd.row.lt n1), h.ls.blocks (fun k hk => K.block k (row_lt h.ls.row hk) (fun x => noForm_row h.ls.row (by decide) hk c (0, 0) (x ▸ hc))) (fun u hu k hk => ?_), Nat.le_trans h.bs K.size, h.lo, h.four, h.good⟩
  obtain ⟨xs, hx⟩ := h.ls.mem hu
  exact K.block k (row_lt hx hk) (fun x => noForm_row hx (by decide) hk c (0, 0) (x ▸ hc))
theorem GR.put {r : Nat} {w W W' : World} {av av1 : Value} (h : GR r w av W av1) {b : Nat} (hb : w.heap.size ≤ b) (K : Kept1 b W W') : GR r w av W' av1 := h.step K (fun _ _ e => Or.inr (Or.inr (e ▸ hb)))
end

/-- What is told of the parser behind a formula. -/
def Rel (s : ByteArray) (R : Res Fo) (g : Fo) (i e a : Nat) (l : List Tm) : Prop := match R with
  | .ok f k l2 => g = f ∧ e = 0 ∧ a = 0 ∧ l = l2 ∧ bl s i = k
  | .bad c q l2 => c ≠ 0 ∧ e = c ∧ a = q ∧ l = l2

def PoPost (d : Nat) (w : World) (base r : Nat) (av : Value) (s : ByteArray) (R : Res Fo) (x : Ending) (w' : World) : Prop :=
  ∃ z g, x = .returned z ∧ RVal (fun j => w.heap.size ≤ j) w' z g ∧ ∃ av' i' e' a' l' vs', S0 d w' base r av' s i' e' a' l' vs' ∧ GR r w av w' av' ∧ Hid (Rel s R g i' e' a' l')

def At5 (fn lev f : Nat) : Prop := ∀ (w : World) (base r : Nat) (av : Value) (s : ByteArray) (i d : Nat) (l : List Tm) (vs : List Value), S0 d w base r av s i 0 0 l vs → 6 * (s.size - bl s i) + 5 ≤ f + lev → d ≤ 20 →
  Calls Try.prog fn #[.pointer (some ⟨r, 0, none⟩)] w (PoPost d w base r av s (gp s f lev d (bl s i) l))
def Er5 (fn : Nat) : Prop := ∀ (w : World) (base r : Nat) (av : Value) (s : ByteArray) (i e a d : Nat) (l : List Tm) (vs : List Value), S0 d w base r av s i e a l vs → e ≠ 0 → d ≤ 21 →
  Calls Try.prog fn #[.pointer (some ⟨r, 0, none⟩)] w (PoPost d w base r av s (.bad e a l))

/-- What or and and go round with. -/
structure Row5 (w W : World) (d base r : Nat) (av av' : Value) (s : ByteArray) (i e a : Nat) (l : List Tm) (vs : List Value) (bf : Nat) (op x y : Int) (aa : Option Addr) (n cap : Nat) (g : Fo) : Prop where
  st : S0 d W base r av' s i e a l vs
  box : W.rowIs bf 94 4 (frm (.int .i64 op) (.int .i64 x) (.int .i64 y) (.slice aa n cap))
  res : W.rowIs w.heap.size 94 4 (frm (.int .i64 0) (.int .i64 0) (.int .i64 0) (.slice none 0 0))
  val : RVal (fun k => w.heap.size + 1 ≤ k ∧ k ≠ bf) W (.agg #[.int .i64 op, .int .i64 x, .int .i64 y, .slice aa n cap]) g
  up : w.heap.size < bf
  grew : GR r w av W av'

def mea (s : ByteArray) (r : Nat) (W : World) : Nat := match W.cell? ⟨r, 3, none⟩, W.cell? ⟨r, 1, none⟩ with
  | some v, some u => if intOf v = 0 then s.size + 1 - bl s (intOf u).toNat else 0
  | _, _ => 0
theorem mea_ok {d : Nat} {w : World} {base r : Nat} {av : Value} {s : ByteArray} {i a : Nat} {l : List Tm} {vs : List Value} (h : S0 d w base r av s i 0 a l vs) : mea s r w = s.size + 1 - bl s i := by
  simp [mea, h.rd.c3, h.rd.c1, intOf]
theorem mea_bad {d : Nat} {w : World} {base r : Nat} {av : Value} {s : ByteArray} {i e a : Nat} {l : List Tm} {vs : List Value} (h : S0 d w base r av s i e a l vs) (he : e ≠ 0) : mea s r w = 0 := by
  simp [mea, h.rd.c3, h.rd.c1, intOf, he]

--BEGIN or
/-- A Form is put into the box of the result. -/
theorem finR {d : Nat} {w W : World} {base r : Nat} {av av' : Value} {s : ByteArray} {i e a : Nat} {l : List Tm} {vs : List Value} (S : S0 d W base r av' s i e a l vs) {f : Nat → Value} (F : W.rowIs w.heap.size 94 4 f) {op x y : Int} {aa : Option Addr} {n cap : Nat} {g : Fo}
    (V : RVal (fun k => w.heap.size + 1 ≤ k) W (.agg #[.int .i64 op, .int .i64 x, .int .i64 y, .slice aa n cap]) g) (G : GR r w av W av') :
    (put4 W w.heap.size (.int .i64 op) (.int .i64 x) (.int .i64 y) (.slice aa n cap)).cell? ⟨w.heap.size, 0, none⟩ = some (.int .i64 op) ∧ (put4 W w.heap.size (.int .i64 op) (.int .i64 x) (.int .i64 y) (.slice aa n cap)).cell? ⟨w.heap.size, 1, none⟩ = some (.int .i64 x) ∧ (put4 W w.heap.size (.int .i64 op) (.int .i64 x) (.int .i64 y) (.slice aa n cap)).cell? ⟨w.heap.size, 2, none⟩ = some (.int .i64 y) ∧ (put4 W w.heap.size (.int .i64 op) (.int .i64 x) (.int .i64 y) (.slice aa n cap)).cell? ⟨w.heap.size, 3, none⟩ = some (.slice aa n cap) ∧
      RVal (fun k => w.heap.size ≤ k) (put4 W w.heap.size (.int .i64 op) (.int .i64 x) (.int .i64 y) (.slice aa n cap)) (.agg #[.int .i64 op, .int .i64 x, .int .i64 y, .slice aa n cap]) g ∧
      S0 d (put4 W w.heap.size (.int .i64 op) (.int .i64 x) (.int .i64 y) (.slice aa n cap)) base r av' s i e a l vs ∧ GR r w av (put4 W w.heap.size (.int .i64 op) (.int .i64 x) (.int .i64 y) (.slice aa n cap)) av' := by
  have P := put_formR F (.int .i64 op) (.int .i64 x) (.int .i64 y) (.slice aa n cap)
  have K := put_kept W w.heap.size (.int .i64 op) (.int .i64 x) (.int .i64 y) (.slice aa n cap)
  obtain ⟨z0, z1, z2, z3⟩ := form_cellsR P
  exact ⟨z0, z1, z2, z3, (V.keep (put_keepR (A := fun k => w.heap.size + 1 ≤ k) (by omega) _ _ _ _)).mono (fun k hk => by omega), S.put F K, GR.put G (Nat.le_refl _) K⟩

set_option maxRecDepth 100000 in
set_option maxHeartbeats 2000000 in
theorem or_walk (f : Nat) (H : ∀ g, g ≤ f → At5 158 (1 + 1) g) (w : World) (base r : Nat) (av : Value) (s : ByteArray) (i0 e0 a0 d : Nat) (l0 : List Tm) (vs0 : List Value) (h0 : S0 d w base r av s i0 e0 a0 l0 vs0) (hd : d ≤ 20 ∨ f = 0) (R1 : Res Fo)
    (C1 : ∀ o, Calls Try.prog 158 #[.pointer (some ⟨r, 0, none⟩)] (w.alloc o) (PoPost d (w.alloc o) base r av s R1)) (hF : ∀ g k l1, R1 = .ok g k l1 → 6 * (s.size - k) + 5 ≤ f) :
    Calls Try.prog 129 #[.pointer (some ⟨r, 0, none⟩)] w (PoPost d w base r av s (R1.bind fun a k l1 => gl s f 1 d k l1 a)) := by
  go_enter Try.func129, Try.ntmps129
  go_wp2_with (first | (go_at_call 158; refine (C1 _).mono ?_; rintro x5 w5 ⟨v5, g5, rfl, V5, av5, i5, e5, a5, l5, vs5, S5, G5, T5⟩; obtain ⟨op5, x5, y5, aa5, n5, cap5, rfl⟩ := V5.form))
  have hsz : w.heap.size + 1 ≤ w5.heap.size := by have := G5.kept.size; simp at this; omega
  have KA : Kept0 w (w.alloc (.cells #[.int .i64 0, .int .i64 0, .int .i64 0, .slice none 0 0] 94)) := Kept.alloc (Kept.refl _ w) _
  have GA := (GR.refl r w av).kept0 KA
  have K6 : Kept0 w5 (w5.alloc (.cells #[.int .i64 op5, .int .i64 x5, .int .i64 y5, .slice aa5 n5 cap5] 94)) := Kept.alloc (Kept.refl _ w5) _
  have F5 := rowIs_keepR (((h0.kept0 KA).rkeep G5 (fun _ => True)).trans (RKeep.kept0 K6 _)) trivial (made_formR w (.int .i64 0) (.int .i64 0) (.int .i64 0) (.slice none 0 0))
  have V6 := ((RVal.lt V5).mono (A' := fun k => w.heap.size + 1 ≤ k ∧ k ≠ w5.heap.size) (fun k hk => ⟨by have := hk.1; simp at this; exact this, by have := hk.2; omega⟩)).keep (RKeep.kept0 K6 _)
  have Q0 : Row5 w (w5.alloc (.cells #[.int .i64 op5, .int .i64 x5, .int .i64 y5, .slice aa5 n5 cap5] 94)) d base r av av5 s i5 e5 a5 l5 vs5 w5.heap.size op5 x5 y5 aa5 n5 cap5 g5 := ⟨S5.kept0 K6, made_formR w5 _ _ _ _, F5, V6, by omega, (GA.trans G5).kept0 K6⟩
  generalize w5.alloc (.cells #[.int .i64 op5, .int .i64 x5, .int .i64 y5, .slice aa5 n5 cap5] 94) = w6 at Q0 ⊢
  have hbf : w.heap.size < w5.heap.size := by omega
  generalize w5.heap.size = bf at Q0 hbf ⊢
  obtain ⟨R0, hR0⟩ : ∃ R0, R0 = (R1.bind fun a k l1 => gl s f 1 d k l1 a) := ⟨_, rfl⟩
  have HR0 : Hid (R0 = (R1.bind fun a k l1 => gl s f 1 d k l1 a)) := hR0
  have HQ : Hid ((e5 = 0 ∧ a5 = 0 ∧ ∃ gf, gf ≤ f ∧ R0 = gl s gf 1 d (bl s i5) l5 g5 ∧ 6 * (s.size - bl s i5) + 5 ≤ gf) ∨ (e5 ≠ 0 ∧ R0 = .bad e5 a5 l5)) := by
    subst hR0
    revert T5 hF
    unfold Rel Hid
    cases R1 with
    | ok g k l1 =>
      rintro hF ⟨rfl, rfl, rfl, rfl, rfl⟩
      exact Or.inl ⟨rfl, rfl, f, Nat.le_refl _, rfl, hF _ _ _ rfl⟩
    | bad c q l1 =>
      rintro hF ⟨h1, rfl, rfl, rfl⟩
      exact Or.inr ⟨h1, rfl⟩
  have hd' : ∀ gf, gf ≤ f → 5 ≤ gf → d ≤ 20 := fun gf h1 h2 => hd.elim id (fun x => absurd x (by omega))
  clear V6 F5 K6 GA KA T5 G5 S5 V5 C1 hF hR0 hsz h0
  go_loopw [] (fun W => ∃ (av' : Value) (i' e' a' : Nat) (l' : List Tm) (vs' : List Value) (op x y : Int) (aa : Option Addr) (n cap : Nat) (g : Fo), Row5 w W d base r av av' s i' e' a' l' vs' bf op x y aa n cap g ∧ Hid ((e' = 0 ∧ a' = 0 ∧ ∃ gf, gf ≤ f ∧ R0 = gl s gf 1 d (bl s i') l' g ∧ 6 * (s.size - bl s i') + 5 ≤ gf) ∨ (e' ≠ 0 ∧ R0 = .bad e' a' l'))) (mea s r)
  case atStart => exact ⟨av5, i5, e5, a5, l5, vs5, op5, x5, y5, aa5, n5, cap5, g5, Q0, HQ⟩
  case round =>
    obtain ⟨av', i', e', a', l', vs', op, x, y, aa, n, cap, g, R, HG⟩ := hrel
    clear Q0 HQ
    have HAS := rhas1_in wr r s i' av' e' a' R.st.rd 124
    have HR : Hid (Row5 w wr d base r av av' s i' e' a' l' vs' bf op x y aa n cap g) := R
    cases hB : isB s i' e' 124 with
    | false =>
      rw [hB] at HAS
      rw [show hasI s i' e' 124 = bl s i' by simp [hasI, hB]] at HAS
      clear R H
      go_wp2_with (first | (go_at_call 114; refine HAS.mono ?_; rintro e w3 ⟨rfl, R3, K3⟩; have KR := HR.out.st.rkeep ((GR.refl r wr av').kept1 K3) (fun _ => True); have B3 := rowIs_keepR KR trivial HR.out.box; have F3 := rowIs_keepR KR trivial HR.out.res; obtain ⟨t0, t1, t2, t3⟩ := form_cellsR B3; obtain ⟨z0, z1, z2, z3⟩ := form_cellsR F3; have y0 := World.rowIs.frozen F3 0; have y1 := World.rowIs.frozen F3 1; have y2 := World.rowIs.frozen F3 2; have y3 := World.rowIs.frozen F3 3))
      have N := finR (HR.out.st.read K3 R3) F3 ((HR.out.val.keep (KR.mono (fun _ _ => trivial))).mono (fun k hk => hk.1)) (HR.out.grew.kept1 K3)
      unfold put4 at N
      clear z0 z1 z2 z3 y0 y1 y2 y3 t0 t1 t2 t3
      generalize ((((w3).setCell ⟨w.heap.size, 0, none⟩ (.int .i64 op)).setCell ⟨w.heap.size, 1, none⟩ (.int .i64 x)).setCell ⟨w.heap.size, 2, none⟩ (.int .i64 y)).setCell ⟨w.heap.size, 3, none⟩ (.slice aa n cap) = w8 at N ⊢
      obtain ⟨z0, z1, z2, z3, V8, P8, G8⟩ := N
      refine ⟨rfl, .agg #[.int .i64 op, .int .i64 x, .int .i64 y, .slice aa n cap], by simp [results, Try.results129, go_sem, z0, z1, z2, z3], ?_⟩
      rw [← HR0.out]
      refine ⟨_, g, rfl, V8, av', _, e', a', l', vs', P8, G8, ?_⟩
      rcases HG.out with ⟨rfl, rfl, gf, h1, h2, h3⟩ | ⟨h1, h2⟩
      · obtain ⟨gf, rfl⟩ : ∃ g', gf = g' + 1 := ⟨gf - 1, by omega⟩
        rw [gl, if_neg (fun x => by
          have := stands_of x (by decide)
          simp [isB, show sgn 1 = 124 from rfl] at hB this
          rw [hB] at this
          cases this)] at h2
        rw [h2]
        exact ⟨rfl, rfl, rfl, rfl, bl_bl s i'⟩
      · rw [h2]
        exact ⟨h1, rfl, rfl, rfl⟩
    | true =>
      rw [hB] at HAS
      rw [show hasI s i' e' 124 = bl s i' + 1 by simp [hasI, hB]] at HAS
      have hlt' := isB_lt hB
      have hst : e' = 0 ∧ stands s (bl s i') 124 = true := by simpa [isB] using hB
      obtain ⟨rfl, hst⟩ := hst
      obtain ⟨rfl, gf, hg1, hg2, hg3⟩ : a' = 0 ∧ ∃ gf, gf ≤ f ∧ R0 = gl s gf 1 d (bl s i') l' g ∧ 6 * (s.size - bl s i') + 5 ≤ gf := by
        rcases HG.out with x | x
        · exact x.2
        · exact absurd rfl x.1
      obtain ⟨gf, rfl⟩ : ∃ g', gf = g' + 1 := ⟨gf - 1, by omega⟩
      have hbyt : byt s (bl s i') = sgn 1 := (of_decide_eq_true hst).2
      rw [gl, if_pos hbyt] at hg2
      have hbl := bl_le (s := s) (i := bl s i' + 1) (by omega)
      have hbg := bl_ge s (bl s i' + 1)
      have hdd := hd' _ hg1 (by omega)
      have PT := fun w3 (K3 : Kept1 r wr w3) (R3 : Rr (d : Int) w3 r s (bl s i' + 1) av' 0 0) => H gf (by omega) w3 base r av' s (bl s i' + 1) d l' vs' (R.st.read K3 R3) (by omega) hdd
      have HG2 : Hid (_ ∧ _) := And.intro hg2 hg3
      clear R H hg2 HG hB
      go_wp2_with (first | (go_at_call 131; refine TW.mono ?_; rintro e w9 ⟨v9, rfl, V9, K9⟩; obtain ⟨op9, x9, y9, aa9, n9, cap9, rfl⟩ := V9.form; have B9 := rowIs_keepR (RKeep.kept0 K9 (fun _ => True)) trivial B8; obtain ⟨q0, q1, q2, q3⟩ := form_cellsR B9; have y0 := World.rowIs.frozen B9 0; have y1 := World.rowIs.frozen B9 1; have y2 := World.rowIs.frozen B9 2; have y3 := World.rowIs.frozen B9 3) | (go_at_call 158; refine P3.mono ?_; rintro e w7 ⟨v7, g7, rfl, V7, av7, i7, e7, a7, l7, vs7, S7, G7, T7⟩; obtain ⟨op7, x7, y7, aa7, n7, cap7, rfl⟩ := V7.form; have K37 := S3.rkeep G7 (fun _ => True); have B7 := rowIs_keepR K37 trivial B3; have hlt7 := World.rowIs.lt B7; have K78 : Kept0 w7 (w7.alloc (.cells #[.int .i64 op7, .int .i64 x7, .int .i64 y7, .slice aa7 n7 cap7] 94)) := Kept.alloc (Kept.refl _ w7) _; have B8 := rowIs_keepR (RKeep.kept0 K78 (fun _ => True)) trivial B7; obtain ⟨t0, t1, t2, t3⟩ := form_cellsR B7; have hz7 : w3.heap.size ≤ w7.heap.size := G7.kept.size; have hz3 := World.rowIs.lt B3; have TW := rtwo_in (w7.alloc (.cells #[.int .i64 op7, .int .i64 x7, .int .i64 y7, .slice aa7 n7 cap7] 94)) (fun k => w.heap.size + 1 ≤ k ∧ k ≠ bf) (.pointer (some ⟨r, 0, none⟩)) (.agg #[.int .i64 op, .int .i64 x, .int .i64 y, .slice aa n cap]) (.agg #[.int .i64 op7, .int .i64 x7, .int .i64 y7, .slice aa7 n7 cap7]) 3 g g7 (HR.out.val.keep (((KR.mono (fun _ _ => trivial)).trans (K37.mono (fun _ _ => trivial))).trans (RKeep.kept0 K78 _))) ((V7.mono (fun k hk => ⟨Nat.le_trans (Nat.le_trans hbf (Nat.le_of_lt hz3)) hk, fun x => absurd (Nat.lt_of_lt_of_le hz3 hk) (by omega)⟩)).keep (RKeep.kept0 K78 _)) (fun k hk => ⟨by simp at hk; omega, by simp at hk; omega⟩)) | (go_at_call 114; refine HAS.mono ?_; rintro e w3 ⟨rfl, R3, K3⟩; have KR := HR.out.st.rkeep ((GR.refl r wr av').kept1 K3) (fun _ => True); have B3 := rowIs_keepR KR trivial HR.out.box; have S3 := HR.out.st.read K3 R3; have P3 := PT w3 K3 R3))
      have S9 := (S7.kept0 K78).kept0 K9
      have S10 := S9.put B9 (put_kept w9 bf (.int .i64 op9) (.int .i64 x9) (.int .i64 y9) (.slice aa9 n9 cap9))
      have KF := (((KR.trans K37).trans (RKeep.kept0 K78 _)).trans (RKeep.kept0 K9 _))
      have hne : w.heap.size ≠ bf := by omega
      have R10 : Row5 w (put4 w9 bf (.int .i64 op9) (.int .i64 x9) (.int .i64 y9) (.slice aa9 n9 cap9)) d base r av av7 s i7 e7 a7 l7 vs7 bf op9 x9 y9 aa9 n9 cap9 (.two 3 g g7) :=
        ⟨S10, put_formR B9 _ _ _ _, put_otherR (rowIs_keepR KF trivial HR.out.res) hne _ _ _ _, V9.keep (put_keepR (fun x => x.2 rfl) _ _ _ _), hbf, GR.put ((((HR.out.grew.kept1 K3).trans G7).kept0 K78).kept0 K9) (Nat.le_of_lt hbf) (put_kept _ _ _ _ _ _)⟩
      have M0 := mea_ok HR.out.st
      refine ⟨⟨av7, i7, e7, a7, l7, vs7, op9, x9, y9, aa9, n9, cap9, _, R10, ?_⟩, ?_⟩
      · have T := T7.out
        have hh := HG2.out.1
        unfold Hid
        cases hp : gp s gf (1 + 1) d (bl s (bl s i' + 1)) l' with
        | ok b k2 l2 =>
          rw [hp] at T hh
          obtain ⟨hk2, hk3⟩ := (gp_ok s gf).1 (1 + 1) d (bl s (bl s i' + 1)) l' b k2 l2 hbl hp
          obtain ⟨rfl, rfl, rfl, rfl, rfl⟩ := T
          exact Or.inl ⟨rfl, rfl, gf, by omega, hh, by omega⟩
        | bad c q l2 =>
          rw [hp] at T hh
          obtain ⟨h1, rfl, rfl, rfl⟩ := T
          exact Or.inr ⟨h1, hh⟩
      · have T := T7.out
        show mea s r (put4 w9 bf (.int .i64 op9) (.int .i64 x9) (.int .i64 y9) (.slice aa9 n9 cap9)) < _
        rw [M0]
        cases hp : gp s gf (1 + 1) d (bl s (bl s i' + 1)) l' with
        | ok b k2 l2 =>
          rw [hp] at T
          obtain ⟨hk2, hk3⟩ := (gp_ok s gf).1 (1 + 1) d (bl s (bl s i' + 1)) l' b k2 l2 hbl hp
          obtain ⟨rfl, rfl, rfl, rfl, rfl⟩ := T
          rw [mea_ok R10.st]
          omega
        | bad c q l2 =>
          rw [hp] at T
          obtain ⟨h1, rfl, rfl, rfl⟩ := T
          rw [mea_bad R10.st h1]
          omega

theorem or_at (f : Nat) (H : ∀ g, g ≤ f → At5 158 (1 + 1) g) : At5 129 1 (f + 1) := by
  intro w base r av s i d l vs h hf hd
  have hle := bl_le h.rd.le
  rw [gp, if_neg (by omega), if_neg (by omega)]
  refine or_walk f H w base r av s i 0 0 d l vs h (Or.inl hd) _ (fun o => ?_) (fun g k l1 hg => ?_)
  · exact (H f (Nat.le_refl _) (w.alloc o) base r av s i d l vs (h.kept0 (Kept.alloc (Kept.refl _ w) o)) (by omega) hd)
  · have := (gp_ok s f).1 (1 + 1) d (bl s i) l g k l1 hle hg
    omega
theorem or_er (H : Er5 158) : Er5 129 := by
  intro w base r av s i e a d l vs h he hd
  exact or_walk 0 (fun g hg => fun _ _ _ _ _ _ _ _ _ _ hf => absurd hf (by omega)) w base r av s i e a d l vs h (Or.inr rfl) (.bad e a l) (fun o => H (w.alloc o) base r av s i e a d l vs (h.kept0 (Kept.alloc (Kept.refl _ w) o)) he hd) (fun g k l1 hg => by cases hg)

set_option maxRecDepth 100000 in
set_option maxHeartbeats 2000000 in
theorem and_walk (f : Nat) (H : ∀ g, g ≤ f → At5 178 (2 + 1) g) (w : World) (base r : Nat) (av : Value) (s : ByteArray) (i0 e0 a0 d : Nat) (l0 : List Tm) (vs0 : List Value) (h0 : S0 d w base r av s i0 e0 a0 l0 vs0) (hd : d ≤ 20 ∨ f = 0) (R1 : Res Fo)
    (C1 : ∀ o, Calls Try.prog 178 #[.pointer (some ⟨r, 0, none⟩)] (w.alloc o) (PoPost d (w.alloc o) base r av s R1)) (hF : ∀ g k l1, R1 = .ok g k l1 → 6 * (s.size - k) + 5 ≤ f) :
    Calls Try.prog 158 #[.pointer (some ⟨r, 0, none⟩)] w (PoPost d w base r av s (R1.bind fun a k l1 => gl s f 2 d k l1 a)) := by
  go_enter Try.func158, Try.ntmps158
  go_wp2_with (first | (go_at_call 178; refine (C1 _).mono ?_; rintro x5 w5 ⟨v5, g5, rfl, V5, av5, i5, e5, a5, l5, vs5, S5, G5, T5⟩; obtain ⟨op5, x5, y5, aa5, n5, cap5, rfl⟩ := V5.form))
  have hsz : w.heap.size + 1 ≤ w5.heap.size := by have := G5.kept.size; simp at this; omega
  have KA : Kept0 w (w.alloc (.cells #[.int .i64 0, .int .i64 0, .int .i64 0, .slice none 0 0] 94)) := Kept.alloc (Kept.refl _ w) _
  have GA := (GR.refl r w av).kept0 KA
  have K6 : Kept0 w5 (w5.alloc (.cells #[.int .i64 op5, .int .i64 x5, .int .i64 y5, .slice aa5 n5 cap5] 94)) := Kept.alloc (Kept.refl _ w5) _
  have F5 := rowIs_keepR (((h0.kept0 KA).rkeep G5 (fun _ => True)).trans (RKeep.kept0 K6 _)) trivial (made_formR w (.int .i64 0) (.int .i64 0) (.int .i64 0) (.slice none 0 0))
  have V6 := ((RVal.lt V5).mono (A' := fun k => w.heap.size + 1 ≤ k ∧ k ≠ w5.heap.size) (fun k hk => ⟨by have := hk.1; simp at this; exact this, by have := hk.2; omega⟩)).keep (RKeep.kept0 K6 _)
  have Q0 : Row5 w (w5.alloc (.cells #[.int .i64 op5, .int .i64 x5, .int .i64 y5, .slice aa5 n5 cap5] 94)) d base r av av5 s i5 e5 a5 l5 vs5 w5.heap.size op5 x5 y5 aa5 n5 cap5 g5 := ⟨S5.kept0 K6, made_formR w5 _ _ _ _, F5, V6, by omega, (GA.trans G5).kept0 K6⟩
  generalize w5.alloc (.cells #[.int .i64 op5, .int .i64 x5, .int .i64 y5, .slice aa5 n5 cap5] 94) = w6 at Q0 ⊢
  have hbf : w.heap.size < w5.heap.size := by omega
  generalize w5.heap.size = bf at Q0 hbf ⊢
  obtain ⟨R0, hR0⟩ : ∃ R0, R0 = (R1.bind fun a k l1 => gl s f 2 d k l1 a) := ⟨_, rfl⟩
  have HR0 : Hid (R0 = (R1.bind fun a k l1 => gl s f 2 d k l1 a)) := hR0
  have HQ : Hid ((e5 = 0 ∧ a5 = 0 ∧ ∃ gf, gf ≤ f ∧ R0 = gl s gf 2 d (bl s i5) l5 g5 ∧ 6 * (s.size - bl s i5) + 5 ≤ gf) ∨ (e5 ≠ 0 ∧ R0 = .bad e5 a5 l5)) := by
    subst hR0
    revert T5 hF
    unfold Rel Hid
    cases R1 with
    | ok g k l1 =>
      rintro hF ⟨rfl, rfl, rfl, rfl, rfl⟩
      exact Or.inl ⟨rfl, rfl, f, Nat.le_refl _, rfl, hF _ _ _ rfl⟩
    | bad c q l1 =>
      rintro hF ⟨h1, rfl, rfl, rfl⟩
      exact Or.inr ⟨h1, rfl⟩
  have hd' : ∀ gf, gf ≤ f → 5 ≤ gf → d ≤ 20 := fun gf h1 h2 => hd.elim id (fun x => absurd x (by omega))
  clear V6 F5 K6 GA KA T5 G5 S5 V5 C1 hF hR0 hsz h0
  go_loopw [] (fun W => ∃ (av' : Value) (i' e' a' : Nat) (l' : List Tm) (vs' : List Value) (op x y : Int) (aa : Option Addr) (n cap : Nat) (g : Fo), Row5 w W d base r av av' s i' e' a' l' vs' bf op x y aa n cap g ∧ Hid ((e' = 0 ∧ a' = 0 ∧ ∃ gf, gf ≤ f ∧ R0 = gl s gf 2 d (bl s i') l' g ∧ 6 * (s.size - bl s i') + 5 ≤ gf) ∨ (e' ≠ 0 ∧ R0 = .bad e' a' l'))) (mea s r)
  case atStart => exact ⟨av5, i5, e5, a5, l5, vs5, op5, x5, y5, aa5, n5, cap5, g5, Q0, HQ⟩
  case round =>
    obtain ⟨av', i', e', a', l', vs', op, x, y, aa, n, cap, g, R, HG⟩ := hrel
    clear Q0 HQ
    have HAS := rhas1_in wr r s i' av' e' a' R.st.rd 38
    have HR : Hid (Row5 w wr d base r av av' s i' e' a' l' vs' bf op x y aa n cap g) := R
    cases hB : isB s i' e' 38 with
    | false =>
      rw [hB] at HAS
      rw [show hasI s i' e' 38 = bl s i' by simp [hasI, hB]] at HAS
      clear R H
      go_wp2_with (first | (go_at_call 114; refine HAS.mono ?_; rintro e w3 ⟨rfl, R3, K3⟩; have KR := HR.out.st.rkeep ((GR.refl r wr av').kept1 K3) (fun _ => True); have B3 := rowIs_keepR KR trivial HR.out.box; have F3 := rowIs_keepR KR trivial HR.out.res; obtain ⟨t0, t1, t2, t3⟩ := form_cellsR B3; obtain ⟨z0, z1, z2, z3⟩ := form_cellsR F3; have y0 := World.rowIs.frozen F3 0; have y1 := World.rowIs.frozen F3 1; have y2 := World.rowIs.frozen F3 2; have y3 := World.rowIs.frozen F3 3))
      have N := finR (HR.out.st.read K3 R3) F3 ((HR.out.val.keep (KR.mono (fun _ _ => trivial))).mono (fun k hk => hk.1)) (HR.out.grew.kept1 K3)
      unfold put4 at N
      clear z0 z1 z2 z3 y0 y1 y2 y3 t0 t1 t2 t3
      generalize ((((w3).setCell ⟨w.heap.size, 0, none⟩ (.int .i64 op)).setCell ⟨w.heap.size, 1, none⟩ (.int .i64 x)).setCell ⟨w.heap.size, 2, none⟩ (.int .i64 y)).setCell ⟨w.heap.size, 3, none⟩ (.slice aa n cap) = w8 at N ⊢
      obtain ⟨z0, z1, z2, z3, V8, P8, G8⟩ := N
      refine ⟨rfl, .agg #[.int .i64 op, .int .i64 x, .int .i64 y, .slice aa n cap], by simp [results, Try.results158, go_sem, z0, z1, z2, z3], ?_⟩
      rw [← HR0.out]
      refine ⟨_, g, rfl, V8, av', _, e', a', l', vs', P8, G8, ?_⟩
      rcases HG.out with ⟨rfl, rfl, gf, h1, h2, h3⟩ | ⟨h1, h2⟩
      · obtain ⟨gf, rfl⟩ : ∃ g', gf = g' + 1 := ⟨gf - 1, by omega⟩
        rw [gl, if_neg (fun x => by
          have := stands_of x (by decide)
          simp [isB, show sgn 2 = 38 from rfl] at hB this
          rw [hB] at this
          cases this)] at h2
        rw [h2]
        exact ⟨rfl, rfl, rfl, rfl, bl_bl s i'⟩
      · rw [h2]
        exact ⟨h1, rfl, rfl, rfl⟩
    | true =>
      rw [hB] at HAS
      rw [show hasI s i' e' 38 = bl s i' + 1 by simp [hasI, hB]] at HAS
      have hlt' := isB_lt hB
      have hst : e' = 0 ∧ stands s (bl s i') 38 = true := by simpa [isB] using hB
      obtain ⟨rfl, hst⟩ := hst
      obtain ⟨rfl, gf, hg1, hg2, hg3⟩ : a' = 0 ∧ ∃ gf, gf ≤ f ∧ R0 = gl s gf 2 d (bl s i') l' g ∧ 6 * (s.size - bl s i') + 5 ≤ gf := by
        rcases HG.out with x | x
        · exact x.2
        · exact absurd rfl x.1
      obtain ⟨gf, rfl⟩ : ∃ g', gf = g' + 1 := ⟨gf - 1, by omega⟩
      have hbyt : byt s (bl s i') = sgn 2 := (of_decide_eq_true hst).2
      rw [gl, if_pos hbyt] at hg2
      have hbl := bl_le (s := s) (i := bl s i' + 1) (by omega)
      have hbg := bl_ge s (bl s i' + 1)
      have hdd := hd' _ hg1 (by omega)
      have PT := fun w3 (K3 : Kept1 r wr w3) (R3 : Rr (d : Int) w3 r s (bl s i' + 1) av' 0 0) => H gf (by omega) w3 base r av' s (bl s i' + 1) d l' vs' (R.st.read K3 R3) (by omega) hdd
      have HG2 : Hid (_ ∧ _) := And.intro hg2 hg3
      clear R H hg2 HG hB
      go_wp2_with (first | (go_at_call 131; refine TW.mono ?_; rintro e w9 ⟨v9, rfl, V9, K9⟩; obtain ⟨op9, x9, y9, aa9, n9, cap9, rfl⟩ := V9.form; have B9 := rowIs_keepR (RKeep.kept0 K9 (fun _ => True)) trivial B8; obtain ⟨q0, q1, q2, q3⟩ := form_cellsR B9; have y0 := World.rowIs.frozen B9 0; have y1 := World.rowIs.frozen B9 1; have y2 := World.rowIs.frozen B9 2; have y3 := World.rowIs.frozen B9 3) | (go_at_call 178; refine P3.mono ?_; rintro e w7 ⟨v7, g7, rfl, V7, av7, i7, e7, a7, l7, vs7, S7, G7, T7⟩; obtain ⟨op7, x7, y7, aa7, n7, cap7, rfl⟩ := V7.form; have K37 := S3.rkeep G7 (fun _ => True); have B7 := rowIs_keepR K37 trivial B3; have hlt7 := World.rowIs.lt B7; have K78 : Kept0 w7 (w7.alloc (.cells #[.int .i64 op7, .int .i64 x7, .int .i64 y7, .slice aa7 n7 cap7] 94)) := Kept.alloc (Kept.refl _ w7) _; have B8 := rowIs_keepR (RKeep.kept0 K78 (fun _ => True)) trivial B7; obtain ⟨t0, t1, t2, t3⟩ := form_cellsR B7; have hz7 : w3.heap.size ≤ w7.heap.size := G7.kept.size; have hz3 := World.rowIs.lt B3; have TW := rtwo_in (w7.alloc (.cells #[.int .i64 op7, .int .i64 x7, .int .i64 y7, .slice aa7 n7 cap7] 94)) (fun k => w.heap.size + 1 ≤ k ∧ k ≠ bf) (.pointer (some ⟨r, 0, none⟩)) (.agg #[.int .i64 op, .int .i64 x, .int .i64 y, .slice aa n cap]) (.agg #[.int .i64 op7, .int .i64 x7, .int .i64 y7, .slice aa7 n7 cap7]) 2 g g7 (HR.out.val.keep (((KR.mono (fun _ _ => trivial)).trans (K37.mono (fun _ _ => trivial))).trans (RKeep.kept0 K78 _))) ((V7.mono (fun k hk => ⟨Nat.le_trans (Nat.le_trans hbf (Nat.le_of_lt hz3)) hk, fun x => absurd (Nat.lt_of_lt_of_le hz3 hk) (by omega)⟩)).keep (RKeep.kept0 K78 _)) (fun k hk => ⟨by simp at hk; omega, by simp at hk; omega⟩)) | (go_at_call 114; refine HAS.mono ?_; rintro e w3 ⟨rfl, R3, K3⟩; have KR := HR.out.st.rkeep ((GR.refl r wr av').kept1 K3) (fun _ => True); have B3 := rowIs_keepR KR trivial HR.out.box; have S3 := HR.out.st.read K3 R3; have P3 := PT w3 K3 R3))
      have S9 := (S7.kept0 K78).kept0 K9
      have S10 := S9.put B9 (put_kept w9 bf (.int .i64 op9) (.int .i64 x9) (.int .i64 y9) (.slice aa9 n9 cap9))
      have KF := (((KR.trans K37).trans (RKeep.kept0 K78 _)).trans (RKeep.kept0 K9 _))
      have hne : w.heap.size ≠ bf := by omega
      have R10 : Row5 w (put4 w9 bf (.int .i64 op9) (.int .i64 x9) (.int .i64 y9) (.slice aa9 n9 cap9)) d base r av av7 s i7 e7 a7 l7 vs7 bf op9 x9 y9 aa9 n9 cap9 (.two 2 g g7) :=
        ⟨S10, put_formR B9 _ _ _ _, put_otherR (rowIs_keepR KF trivial HR.out.res) hne _ _ _ _, V9.keep (put_keepR (fun x => x.2 rfl) _ _ _ _), hbf, GR.put ((((HR.out.grew.kept1 K3).trans G7).kept0 K78).kept0 K9) (Nat.le_of_lt hbf) (put_kept _ _ _ _ _ _)⟩
      have M0 := mea_ok HR.out.st
      refine ⟨⟨av7, i7, e7, a7, l7, vs7, op9, x9, y9, aa9, n9, cap9, _, R10, ?_⟩, ?_⟩
      · have T := T7.out
        have hh := HG2.out.1
        unfold Hid
        cases hp : gp s gf (2 + 1) d (bl s (bl s i' + 1)) l' with
        | ok b k2 l2 =>
          rw [hp] at T hh
          obtain ⟨hk2, hk3⟩ := (gp_ok s gf).1 (2 + 1) d (bl s (bl s i' + 1)) l' b k2 l2 hbl hp
          obtain ⟨rfl, rfl, rfl, rfl, rfl⟩ := T
          exact Or.inl ⟨rfl, rfl, gf, by omega, hh, by omega⟩
        | bad c q l2 =>
          rw [hp] at T hh
          obtain ⟨h1, rfl, rfl, rfl⟩ := T
          exact Or.inr ⟨h1, hh⟩
      · have T := T7.out
        show mea s r (put4 w9 bf (.int .i64 op9) (.int .i64 x9) (.int .i64 y9) (.slice aa9 n9 cap9)) < _
        rw [M0]
        cases hp : gp s gf (2 + 1) d (bl s (bl s i' + 1)) l' with
        | ok b k2 l2 =>
          rw [hp] at T
          obtain ⟨hk2, hk3⟩ := (gp_ok s gf).1 (2 + 1) d (bl s (bl s i' + 1)) l' b k2 l2 hbl hp
          obtain ⟨rfl, rfl, rfl, rfl, rfl⟩ := T
          rw [mea_ok R10.st]
          omega
        | bad c q l2 =>
          rw [hp] at T
          obtain ⟨h1, rfl, rfl, rfl⟩ := T
          rw [mea_bad R10.st h1]
          omega

theorem and_at (f : Nat) (H : ∀ g, g ≤ f → At5 178 (2 + 1) g) : At5 158 2 (f + 1) := by
  intro w base r av s i d l vs h hf hd
  have hle := bl_le h.rd.le
  rw [gp, if_neg (by omega), if_neg (by omega)]
  refine and_walk f H w base r av s i 0 0 d l vs h (Or.inl hd) _ (fun o => ?_) (fun g k l1 hg => ?_)
  · exact (H f (Nat.le_refl _) (w.alloc o) base r av s i d l vs (h.kept0 (Kept.alloc (Kept.refl _ w) o)) (by omega) hd)
  · have := (gp_ok s f).1 (2 + 1) d (bl s i) l g k l1 hle hg
    omega
theorem and_er (H : Er5 178) : Er5 158 := by
  intro w base r av s i e a d l vs h he hd
  exact and_walk 0 (fun g hg => fun _ _ _ _ _ _ _ _ _ _ hf => absurd hf (by omega)) w base r av s i e a d l vs h (Or.inr rfl) (.bad e a l) (fun o => H (w.alloc o) base r av s i e a d l vs (h.kept0 (Kept.alloc (Kept.refl _ w) o)) he hd) (fun g k l1 hg => by cases hg)

end Go.Proofs.Ytinphcnknionmaa.Q5
