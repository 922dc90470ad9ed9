/- law05: what the constant text says, plainly. law05: alive. LogicEvals: what came in, and its walk up to the loop. -/
import Derived.Test.YtinphcnknionmabLoL
import Derived.Test.YtinphcnknionmabP15
import Derived.Test.YtinphcnknionmabP29
import Derived.Test.YtinphcnknionmabP33
namespace Go.Proofs.Ytinphcnknionmab
open Go.RowKit

/-- a=b & !(a = c) -> b != c -/
def tx24 : ByteArray := ⟨#[97, 61, 98, 32, 38, 32, 33, 40, 97, 32, 61, 32, 99, 41, 32, 45, 62, 32, 98, 32, 33, 61, 32, 99]⟩
def aA : Tm := ⟨⟨#[97]⟩, []⟩
def aB : Tm := ⟨⟨#[98]⟩, []⟩
def aC : Tm := ⟨⟨#[99]⟩, []⟩
def f24 : Fo := .two 4 (.two 2 (.eq 0 1) (.neg (.eq 0 2))) (.neg (.eq 1 2))

theorem q1 : pRead ⟨#[97]⟩ [] = (0, 0, 0, [aA]) := by
  have n : nmE ⟨#[97]⟩ 0 = 1 := by rw [nmE_at (by decide) (by decide), nmE_end (by decide)]
  have b : badNm ⟨#[97]⟩ 0 = false := by simp only [badNm, n]; decide
  rw [pRead, if_neg (by decide), pWhole, bl_end (by decide), show 2 * (ByteArray.mk #[97]).size + 1 = 2 + 1 from rfl, pTerm, b, n, bl_end (by decide)]
  simp only [Bool.false_eq_true, if_false, show ¬ 12 < 0 from by omega, show stands ⟨#[97]⟩ 1 40 = false from by decide]
  rfl
theorem q2 : pRead ⟨#[98]⟩ [aA] = (1, 0, 0, [aA, aB]) := by
  have n : nmE ⟨#[98]⟩ 0 = 1 := by rw [nmE_at (by decide) (by decide), nmE_end (by decide)]
  have b : badNm ⟨#[98]⟩ 0 = false := by simp only [badNm, n]; decide
  rw [pRead, if_neg (by decide), pWhole, bl_end (by decide), show 2 * (ByteArray.mk #[98]).size + 1 = 2 + 1 from rfl, pTerm, b, n, bl_end (by decide)]
  simp only [Bool.false_eq_true, if_false, show ¬ 12 < 0 from by omega, show stands ⟨#[98]⟩ 1 40 = false from by decide]
  rfl
theorem q3 : pRead ⟨#[97]⟩ [aA, aB] = (0, 0, 0, [aA, aB]) := by
  have n : nmE ⟨#[97]⟩ 0 = 1 := by rw [nmE_at (by decide) (by decide), nmE_end (by decide)]
  have b : badNm ⟨#[97]⟩ 0 = false := by simp only [badNm, n]; decide
  rw [pRead, if_neg (by decide), pWhole, bl_end (by decide), show 2 * (ByteArray.mk #[97]).size + 1 = 2 + 1 from rfl, pTerm, b, n, bl_end (by decide)]
  simp only [Bool.false_eq_true, if_false, show ¬ 12 < 0 from by omega, show stands ⟨#[97]⟩ 1 40 = false from by decide]
  rfl
theorem q4 : pRead ⟨#[99]⟩ [aA, aB] = (2, 0, 0, [aA, aB, aC]) := by
  have n : nmE ⟨#[99]⟩ 0 = 1 := by rw [nmE_at (by decide) (by decide), nmE_end (by decide)]
  have b : badNm ⟨#[99]⟩ 0 = false := by simp only [badNm, n]; decide
  rw [pRead, if_neg (by decide), pWhole, bl_end (by decide), show 2 * (ByteArray.mk #[99]).size + 1 = 2 + 1 from rfl, pTerm, b, n, bl_end (by decide)]
  simp only [Bool.false_eq_true, if_false, show ¬ 12 < 0 from by omega, show stands ⟨#[99]⟩ 1 40 = false from by decide]
  rfl
theorem q5 : pRead ⟨#[98]⟩ [aA, aB, aC] = (1, 0, 0, [aA, aB, aC]) := by
  have n : nmE ⟨#[98]⟩ 0 = 1 := by rw [nmE_at (by decide) (by decide), nmE_end (by decide)]
  have b : badNm ⟨#[98]⟩ 0 = false := by simp only [badNm, n]; decide
  rw [pRead, if_neg (by decide), pWhole, bl_end (by decide), show 2 * (ByteArray.mk #[98]).size + 1 = 2 + 1 from rfl, pTerm, b, n, bl_end (by decide)]
  simp only [Bool.false_eq_true, if_false, show ¬ 12 < 0 from by omega, show stands ⟨#[98]⟩ 1 40 = false from by decide]
  rfl
theorem q6 : pRead ⟨#[99]⟩ [aA, aB, aC] = (2, 0, 0, [aA, aB, aC]) := by
  have n : nmE ⟨#[99]⟩ 0 = 1 := by rw [nmE_at (by decide) (by decide), nmE_end (by decide)]
  have b : badNm ⟨#[99]⟩ 0 = false := by simp only [badNm, n]; decide
  rw [pRead, if_neg (by decide), pWhole, bl_end (by decide), show 2 * (ByteArray.mk #[99]).size + 1 = 2 + 1 from rfl, pTerm, b, n, bl_end (by decide)]
  simp only [Bool.false_eq_true, if_false, show ¬ 12 < 0 from by omega, show stands ⟨#[99]⟩ 1 40 = false from by decide]
  rfl

theorem lt_at {s : ByteArray} {i e k n : Nat} {x : ByteArray} {l l' : List Tm} (hn : nmE s i = e) (hb : bl s e = k) (hk : ¬ byt s k = 40) (hx : s.extract i e = x) (hr : pRead x l = (n, 0, 0, l')) : lTerm s i l = .ok n k l' := by
  have ht : tEnd s i = e := by unfold tEnd; rw [hn, hb, if_neg hk]
  unfold lTerm
  rw [ht, hx, hr, hb]
  rfl

theorem u0 : lTerm tx24 0 [] = .ok 0 1 [aA] := lt_at (by rw [nmE_at (by decide) (by decide), nmE_end (by decide)]) (bl_end (by decide)) (by decide) (by rfl) q1
theorem u2 : lTerm tx24 2 [aA] = .ok 1 4 [aA, aB] := lt_at (by rw [nmE_at (by decide) (by decide), nmE_end (by decide)]) (by rw [bl_at (by decide) (by decide), bl_end (by decide)]) (by decide) (by rfl) q2
theorem u8 : lTerm tx24 8 [aA, aB] = .ok 0 10 [aA, aB] := lt_at (by rw [nmE_at (by decide) (by decide), nmE_end (by decide)]) (by rw [bl_at (by decide) (by decide), bl_end (by decide)]) (by decide) (by rfl) q3
theorem u12 : lTerm tx24 12 [aA, aB] = .ok 2 13 [aA, aB, aC] := lt_at (by rw [nmE_at (by decide) (by decide), nmE_end (by decide)]) (bl_end (by decide)) (by decide) (by rfl) q4
theorem u18 : lTerm tx24 18 [aA, aB, aC] = .ok 1 20 [aA, aB, aC] := lt_at (by rw [nmE_at (by decide) (by decide), nmE_end (by decide)]) (by rw [bl_at (by decide) (by decide), bl_end (by decide)]) (by decide) (by rfl) q5
theorem u23 : lTerm tx24 23 [aA, aB, aC] = .ok 2 24 [aA, aB, aC] := lt_at (by rw [nmE_at (by decide) (by decide), nmE_end (by decide)]) (bl_end (by decide)) (by decide) (by rfl) q6

theorem e0 : gEqu tx24 0 [] = .ok (.eq 0 1) 4 [aA, aB] := by
  rw [gEqu, u0]
  simp only [Res.bind, show byt tx24 1 = 61 from by decide, show stands tx24 1 61 = true from by decide, show ¬ 61 = 33 from by decide, if_false, if_true, show bl tx24 (1 + 1) = 2 from bl_end (by decide), u2]
  rfl
theorem e8 : gEqu tx24 8 [aA, aB] = .ok (.eq 0 2) 13 [aA, aB, aC] := by
  rw [gEqu, u8]
  simp only [Res.bind, show byt tx24 10 = 61 from by decide, show stands tx24 10 61 = true from by decide, show ¬ 61 = 33 from by decide, if_false, if_true, show bl tx24 (10 + 1) = 12 from by rw [bl_at (by decide) (by decide), bl_end (by decide)], u12]
  rfl
theorem e18 : gEqu tx24 18 [aA, aB, aC] = .ok (.neg (.eq 1 2)) 24 [aA, aB, aC] := by
  rw [gEqu, u18]
  simp only [Res.bind, show byt tx24 20 = 33 from by decide, show stands tx24 (20 + 1) 61 = true from by decide, if_true, show bl tx24 (20 + 1 + 1) = 23 from by rw [bl_at (by decide) (by decide), bl_end (by decide)], u23]
  rfl

/-- An equality where no sign follows, at the levels. -/
theorem up3 {s : ByteArray} {f d i k : Nat} {l l' : List Tm} {a : Fo} (h1 : ¬ byt s i = 33) (h2 : ¬ byt s i = 40) (h : gEqu s i l = .ok a k l') : gp s (f + 1) 3 d i l = .ok a k l' := by
  rw [gp, if_neg (by decide), if_pos rfl, if_neg h1, if_neg h2, h]
theorem up2 {s : ByteArray} {f d i k : Nat} {l l' : List Tm} {a : Fo} (h : gp s (f + 1) 3 d i l = .ok a k l') (hk : ¬ byt s k = 38) : gp s (f + 2) 2 d i l = .ok a k l' := by
  rw [gp, if_neg (by decide), if_neg (by decide), h]
  simp only [Res.bind]
  rw [gl, if_neg (by simpa [sgn] using hk)]
theorem up1 {s : ByteArray} {f d i k : Nat} {l l' : List Tm} {a : Fo} (h : gp s (f + 1) 2 d i l = .ok a k l') (hk : ¬ byt s k = 124) : gp s (f + 2) 1 d i l = .ok a k l' := by
  rw [gp, if_neg (by decide), if_neg (by decide), h]
  simp only [Res.bind]
  rw [gl, if_neg (by simpa [sgn] using hk)]
theorem up0 {s : ByteArray} {f d i k : Nat} {l l' : List Tm} {a : Fo} (h : gp s f 1 d i l = .ok a k l') (hk : ¬ byt s k = 45) : gp s (f + 1) 0 d i l = .ok a k l' := by
  rw [gp, if_pos rfl, h]
  simp only [Res.bind]
  rw [if_neg hk]

theorem in8 (f d : Nat) : gp tx24 (f + 4) 0 d 8 [aA, aB] = .ok (.eq 0 2) 13 [aA, aB, aC] := up0 (up1 (f := f + 1) (up2 (f := f) (up3 (by decide) (by decide) e8) (by decide)) (by decide)) (by decide)
theorem in18 (f d : Nat) : gp tx24 (f + 4) 0 d 18 [aA, aB, aC] = .ok (.neg (.eq 1 2)) 24 [aA, aB, aC] := up0 (up1 (f := f + 1) (up2 (f := f) (up3 (by decide) (by decide) e18) (by decide)) (by decide)) (by decide)
theorem in7 (f d : Nat) (hd : ¬ 20 ≤ d) : gp tx24 (f + 5) 3 d 7 [aA, aB] = .ok (.eq 0 2) 15 [aA, aB, aC] := by
  rw [gp, if_neg (by decide), if_pos rfl, if_neg (by decide), if_pos (by decide), if_neg hd, show bl tx24 (7 + 1) = 8 from bl_end (by decide), in8]
  simp only [Res.bind, show stands tx24 13 41 = true from by decide, if_true, show bl tx24 (13 + 1) = 15 from by rw [bl_at (by decide) (by decide), bl_end (by decide)]]
theorem in6 (f d : Nat) (hd : ¬ 19 ≤ d) : gp tx24 (f + 6) 3 d 6 [aA, aB] = .ok (.neg (.eq 0 2)) 15 [aA, aB, aC] := by
  rw [gp, if_neg (by decide), if_pos rfl, if_pos (by decide), if_neg (by omega), show bl tx24 (6 + 1) = 7 from bl_end (by decide), in7 f (d + 1) (by omega)]
  rfl
theorem in2 (f : Nat) : gp tx24 (f + 8) 2 0 0 [] = .ok (.two 2 (.eq 0 1) (.neg (.eq 0 2))) 15 [aA, aB, aC] := by
  rw [gp, if_neg (by decide), if_neg (by decide), up3 (f := f + 6) (by decide) (by decide) e0]
  simp only [Res.bind]
  rw [gl, if_pos (by decide), show bl tx24 (4 + 1) = 6 from by rw [bl_at (by decide) (by decide), bl_end (by decide)], in6 f 0 (by omega)]
  simp only [Res.bind]
  rw [gl, if_neg (by decide)]
  rfl
theorem in0 (f : Nat) : gp tx24 (f + 10) 0 0 0 [] = .ok f24 24 [aA, aB, aC] := by
  rw [gp, if_pos rfl, up1 (f := f + 7) (in2 f) (by decide)]
  simp only [Res.bind]
  rw [if_pos (by decide), if_pos (by decide), show bl tx24 (15 + 1 + 1) = 18 from by rw [bl_at (by decide) (by decide), bl_end (by decide)], in18 (f + 5) 0]
  rfl
theorem tx24_parse : gParse tx24 [] = (f24, 0, 0, [aA, aB, aC]) := by
  rw [gParse, if_neg (by decide), gWhole, show bl tx24 0 = 0 from bl_end (by decide), show 6 * tx24.size + 5 = 139 + 10 from rfl, in0 139]
  rfl

end Go.Proofs.Ytinphcnknionmab

namespace Go.Proofs.Ytinphcnknionmab
open Go.RowKit Go.Shelf

theorem f24_wf : WfF f24 := .two _ _ _ (Or.inr (Or.inr rfl)) (.two _ _ _ (Or.inl rfl) (.eq _ _) (.neg _ (.eq _ _))) (.neg _ (.eq _ _))
theorem r64n {n : Nat} (h : n < 1000000) : R64 (n : Int) := ⟨by omega, by omega⟩
theorem wf_RF {f : Fo} (h : WfF f) (hp : ∀ p ∈ eqF f, P64 p) : RF f := by
  induction h with
  | eq x y =>
    have := hp (x, y) (by simp [eqF])
    exact .mk this.1 this.2 (by simp)
  | neg f _ ih =>
    refine .mk (r64n (n := 0) (by omega)) (r64n (n := 0) (by omega)) ?_
    intro k hk
    obtain rfl := List.mem_singleton.1 hk
    exact ih (fun p hm => hp p (by simp [eqF]; exact hm))
  | two o f g ho _ _ ih1 ih2 =>
    have ho' : ¬ o = 0 := by rcases ho with rfl | rfl | rfl <;> decide
    refine .mk (r64n (n := 0) (by omega)) (r64n (n := 0) (by omega)) ?_
    intro k hk
    simp at hk
    rcases hk with rfl | rfl
    · exact ih1 (fun p hm => hp p (by simp [eqF, ho']; exact Or.inl hm))
    · exact ih2 (fun p hm => hp p (by simp [eqF, ho']; exact Or.inr hm))
theorem f24_eqs : eqF f24 = [(0, 1), (0, 2), (1, 2)] := by simp [f24, Fo.two, Fo.neg, Fo.eq, eqF]
theorem f24_sz : szF f24 = 13 := by simp [f24, Fo.two, Fo.neg, Fo.eq, szF]
theorem f24_R : RF f24 := wf_RF f24_wf (by
  rw [f24_eqs]
  intro p hp
  simp at hp
  rcases hp with rfl | rfl | rfl <;> exact ⟨⟨by decide, by decide⟩, ⟨by decide, by decide⟩⟩)
theorem f24_sh : shF [aA, aB, aC] [61] f24 = [40, 40, 97, 61, 98, 38, 97, 33, 61, 99, 41, 45, 62, 98, 33, 61, 99, 41] := by
  have h0 : shwB [aA, aB, aC] 0 = ⟨#[97]⟩ := by rfl
  have h1 : shwB [aA, aB, aC] 1 = ⟨#[98]⟩ := by rfl
  have h2 : shwB [aA, aB, aC] 2 = ⟨#[99]⟩ := by rfl
  simp [f24, Fo.two, Fo.neg, Fo.eq, shF, Fo.op, opS, h0, h1, h2]
theorem f24_ev1 : evF [0, 0, 2] f24 = true := by simp [f24, Fo.two, Fo.neg, Fo.eq, evF, evN, sameC, inC]
theorem f24_ev2 : evF [0, 0, 0] f24 = true := by simp [f24, Fo.two, Fo.neg, Fo.eq, evF, evN, sameC, inC]
theorem f24_ats : (ats (eqF f24)).length = 3 := by rw [f24_eqs]; decide
theorem aABC_Hs : Hs [aA, aB, aC] := by
  intro n hn
  have : n = 0 ∨ n = 1 ∨ n = 2 := by simp at hn; omega
  rcases this with rfl | rfl | rfl <;> exact ⟨_, rfl, by simp [aA, aB, aC]⟩

set_option maxHeartbeats 400000 in
theorem num5_any (w : World) (a : Int) : Calls Try.prog 25 #[.int .i64 a] w fun e w' => e = .returned (.int .i64 a) ∧ w = w' := by
  go_enter Try.func25, Try.ntmps25
  go_wp2
  go_ret
  exact ⟨rfl, rfl⟩

theorem cls3_at (w : World) (a b c : Int) : ∀ (j : Nat) (x : Int), [a, b, c][j]? = some x → (w.alloc (.cells #[.int .i64 a, .int .i64 b, .int .i64 c] 3)).cell? ⟨w.heap.size, 0 + j, none⟩ = some (.int .i64 x) := by
  intro j x hj
  have hn := made_row w #[.int .i64 a, .int .i64 b, .int .i64 c] 3
  match j, hj with
  | 0, hj => simp at hj; subst hj; exact hn.cell (i := 0) (by simp)
  | 1, hj => simp at hj; subst hj; exact hn.cell (i := 1) (by simp)
  | 2, hj => simp at hj; subst hj; exact hn.cell (i := 2) (by simp)

/-- A Form's cells in its box. -/
def FB (W : World) (b : Nat) (op x y : Int) (kv : Value) : Prop := W.cell? ⟨b, 0, none⟩ = some (.int .i64 op) ∧ W.cell? ⟨b, 1, none⟩ = some (.int .i64 x) ∧ W.cell? ⟨b, 2, none⟩ = some (.int .i64 y) ∧ W.cell? ⟨b, 3, none⟩ = some kv
theorem FB.keep {W W' : World} {b : Nat} {op x y : Int} {kv : Value} (h : FB W b op x y kv) (hB : Below W.heap.size W W') : FB W' b op x y kv := by
  have hb := World.block_lt_of_cell? W _ h.1
  exact ⟨(hB.cell hb).trans h.1, (hB.cell (p := ⟨b, 1, none⟩) hb).trans h.2.1, (hB.cell (p := ⟨b, 2, none⟩) hb).trans h.2.2.1, (hB.cell (p := ⟨b, 3, none⟩) hb).trans h.2.2.2⟩
theorem FB.new (W : World) (op x y : Int) (kv : Value) : FB (W.alloc (.cells #[.int .i64 op, .int .i64 x, .int .i64 y, kv] 31)) W.heap.size op x y kv := by
  have hn := made_row W #[.int .i64 op, .int .i64 x, .int .i64 y, kv] 31
  exact ⟨hn.cell (i := 0) (by simp), hn.cell (i := 1) (by simp), hn.cell (i := 2) (by simp), hn.cell (i := 3) (by simp)⟩
theorem Below.new (W : World) (o : Obj) : Below W.heap.size W (W.alloc o) := (Below.refl _ W).alloc (Nat.le_refl _) o

set_option maxHeartbeats 4000000 in
set_option maxRecDepth 100000 in
theorem alive5_any (w : World) : Calls Try.prog 10 #[] w fun e w' => e = .returned (.bool true) ∧ Below w.heap.size w w' := by
  have NEW := tNew_any w
  have hsh := f24_sh
  go_enter Try.func10, Try.ntmps10
  go_wp2_with (first | (go_at_call 23; refine NEW.mono ?_; rintro e w1 ⟨p, nb, fb, rfl, H1, B1⟩; have PA := gParse_in w1 w.heap.size p _ nb fb [] H1 (by simp) B1.size tx24; rw [tx24_parse] at PA; unfold tx24 at PA) | (go_at_call 24; refine PA.mono ?_; rintro e w2 ⟨v, rfl, FV, ev2, H2, K2, _, _⟩; obtain ⟨op, x, y, ka, kn, kc, rfl⟩ := FV.form; have FV0 := FV.is; clear FV))
  have B3 := Below.new w2 (.cells #[.int .i64 op, .int .i64 x, .int .i64 y, .slice ka kn kc] 31)
  have Y3 := FB.new w2 op x y (.slice ka kn kc)
  have b2 : Below w.heap.size w1 w2 := Kept.below K2 B1.size (fun k e => by
    rcases e with e | e | e | e
    · rw [e]; exact H1.bp
    · rw [e]; exact H1.bn
    · rw [e]; exact H1.bf
    · simp [Value.ownBlock] at e)
  have BA : Below w.heap.size w w2 := B1.trans b2
  have FV3 := FV0.keep B3
  have SH := showF_in _ w.heap.size p ev2 nb fb _ (H2.below H2.low B3) aABC_Hs _ f24 FV3 f24_wf (by rw [f24_sz]; decide) (by rw [f24_sh]; decide)
  rw [f24_sh] at SH
  generalize w2.alloc (.cells #[.int .i64 op, .int .i64 x, .int .i64 y, .slice ka kn kc] 31) = w3 at B3 Y3 FV3 SH ⊢
  have hz2 := B3.size
  have hz1 := BA.size
  generalize w2.heap.size = x2 at *
  have EVA : ∀ (W : World) (a b c : Int), FIs W (.agg #[.int .i64 op, .int .i64 x, .int .i64 y, .slice ka kn kc]) f24 → Calls Try.prog 7 #[.agg #[.int .i64 op, .int .i64 x, .int .i64 y, .slice ka kn kc], .slice (some ⟨W.heap.size, 0, none⟩) 3 3] (W.alloc (.cells #[.int .i64 a, .int .i64 b, .int .i64 c] 3)) fun e w' => e = .returned (.bool (evF [a, b, c] f24)) ∧ Below W.heap.size W w' := fun W a b c hW => by
    have B := Below.new W (.cells #[.int .i64 a, .int .i64 b, .int .i64 c] 3)
    refine (evalF_in _ _ f24 (hW.keep B) _ 3 3 [a, b, c] rfl (Or.inr ⟨W.heap.size, 0, rfl, cls3_at W a b c⟩) (by decide) (by rw [f24_sz]; decide) f24_R).mono ?_
    rintro e w' ⟨he, hb⟩
    exact ⟨he, B.trans (hb.mono B.size)⟩
  have ATA : ∀ (W : World), FIs W (.agg #[.int .i64 op, .int .i64 x, .int .i64 y, .slice ka kn kc]) f24 → Calls Try.prog 11 #[.agg #[.int .i64 op, .int .i64 x, .int .i64 y, .slice ka kn kc]] W fun e w' => ∃ a c, e = .returned (.slice a 3 c) ∧ Below W.heap.size W w' := fun W hW => by
    refine (atomsF_in W _ f24 hW (by rw [f24_sz]; decide) f24_R).mono ?_
    rintro e w' ⟨u, rfl, hr, hb⟩
    obtain ⟨a, c, rfl⟩ := row_form hr
    exact ⟨a, c, by rw [f24_ats], hb⟩
  have HE : Hid (evF [0, 0, 2] f24 = true ∧ evF [0, 0, 0] f24 = true) := ⟨f24_ev1, f24_ev2⟩
  obtain ⟨y0, y1, y2, y3⟩ := Y3
  have Y3 : Hid (FB w3 x2 op x y (.slice ka kn kc)) := ⟨y0, y1, y2, y3⟩
  clear PA NEW hsh
  unfold ofB at SH
  go_wp2_with (first | (go_at_call 25; refine (num5_any _ _).mono ?_; rintro e w9 ⟨rfl, rfl⟩) | (go_at_call 26; refine SH.mono ?_; rintro e w5 ⟨rfl, B5⟩; have FV5 := FV3.keep B5; obtain ⟨u0, u1, u2, u3⟩ := Y3.out.keep B5; have EV1 := EVA w5 0 0 2 FV5; rw [HE.out.1] at EV1) | (go_at_call 7; refine EV2.mono ?_; rintro e w7 ⟨rfl, B7⟩; have FV7 := FV6.keep B7; obtain ⟨t0, t1, t2, t3⟩ := FB.keep (And.intro v0 (And.intro v1 (And.intro v2 v3))) B7; have AT := ATA w7 FV7) | (go_at_call 7; refine EV1.mono ?_; rintro e w6 ⟨rfl, B6⟩; have FV6 := FV5.keep B6; obtain ⟨v0, v1, v2, v3⟩ := FB.keep (And.intro u0 (And.intro u1 (And.intro u2 u3))) B6; have EV2 := EVA w6 0 0 0 FV6; rw [HE.out.2] at EV2) | (go_at_call 11; refine AT.mono ?_; rintro e w8 ⟨aa, ac, rfl, B8⟩))
  go_ret
  have s5 := B5.size
  have s6 := B6.size
  have s7 := B7.size
  exact ⟨rfl, ((((BA.trans (B3.mono (by omega))).trans (B5.mono (by omega))).trans (B6.mono (by omega))).trans (B7.mono (by omega))).trans (B8.mono (by omega))⟩

end Go.Proofs.Ytinphcnknionmab

namespace Go.Proofs.Ytinphcnknionmab
open Go.ChangeShapes Go.WideShapes Go.ChangeAt Go.RowKit Go.Deep Go.Maps

set_option maxRecDepth 100000 in
theorem ints_at5 {H : Type} {enc : TypeId × Value → H} {W : World} {base : Nat} {spare : Nat → Bool} {held : Bool} {a : Option Addr} {len cap : Nat} {d : DataW H} {p : List MemPlace}
    (h : DataW.Trod enc Try.prog W base spare held 27 (.slice a len cap) d p) : ∃ cls : List Int, cls.length = len ∧ ClsAt W a cls ∧ len ≤ Rows.uptoBulk d ∧ (a = none → cls = [] ∧ cap = 0) := by
  obtain ⟨fuel, hf⟩ := h
  rcases open_slice1 Try.underlying27 cellsRI hf with ⟨hcs, _⟩ | ⟨x, l, c, m, n, V, D, Pl, hcs, _, hl, hm, hmm, hd, hx⟩
  · simp [Value.cells] at hcs
    obtain ⟨rfl, rfl, rfl⟩ := hcs
    exact ⟨[], rfl, Or.inl rfl, Nat.zero_le _, fun _ => ⟨rfl, rfl⟩⟩
  · simp [Value.cells] at hcs
    obtain ⟨rfl, rfl, rfl⟩ := hcs
    have hlm : len ≤ m := by rw [hmm]; split <;> omega
    have hbk : len ≤ Rows.uptoBulk d := by
      have hd1 : d = .slice ((List.range len).map D) ((List.range (m - len)).map fun j => D (len + j)) := (Prod.mk.inj hd).1
      rw [hd1]
      simp only [Rows.uptoBulk]
      have : ∀ l : List (DataW H), l.length ≤ Rows.uptoBulkAll l := by
        intro l
        induction l with
        | nil => simp
        | cons x r ih =>
          simp only [Rows.uptoBulkAll, List.length_cons]
          have : 1 ≤ Rows.uptoBulk x := by
            cases x with
            | lit l => cases l <;> simp [Rows.uptoBulk]
            | nil => simp [Rows.uptoBulk]
            | ptr d => simp [Rows.uptoBulk]
            | slice elems spare => simp [Rows.uptoBulk]
            | agg parts => simp [Rows.uptoBulk]
            | iface t d => simp [Rows.uptoBulk]
            | map entries => simp [Rows.uptoBulk]
            | held h => simp [Rows.uptoBulk]
          omega
      have := this ((List.range len).map D)
      simp at this
      omega
    have each : ∀ i, i < len → ∃ z : Int, W.cell? (x.add i) = some (.int .i64 z) := by
      intro i hi
      obtain ⟨h1, h2⟩ := hx i (by omega)
      obtain ⟨z, e, _, _⟩ := DataW.trod_int Try.underlying3 h2
      simp at e
      exact ⟨z, by rw [h1, e]⟩
    obtain ⟨q, hq⟩ := choose_lt each
    refine ⟨(List.range len).map q, by simp, ?_, hbk, ?_⟩
    · by_cases h0 : len = 0
      · subst h0; exact Or.inl rfl
      · obtain ⟨xb, xo, xs⟩ := x
        have hsp : xs = none := by
          have := World.cell?_spot (hq 0 (by omega))
          simpa [Addr.add] using this
        subst hsp
        refine Or.inr ⟨xb, xo, rfl, fun j c hj => ?_⟩
        have hj' : j < len := by
          have := (List.getElem?_eq_some_iff.1 hj).1
          simpa using this
        have hc : c = q j := by simp [hj'] at hj; exact hj.symm
        subst hc
        have := hq j hj'
        rw [add_plain] at this
        exact this
    · intro h; cases h

theorem infoIntL : (Try.prog.info? 3).map (fun i => (i.zero, i.size, i.bytes)) = some (some (.int .i64 0), 1, 8) := by kernel_rfl
def clsC (l : List Int) : List Value := l.map fun c => Value.int .i64 c

/-- append(nil, classes...): a copy. -/
theorem app_copy (w : World) (ty : TypeId) (ca : Option Addr) (cc : Nat) (cls : List Int) (hc : ClsAt w ca cls) (hcl : cls.length ≤ 1048576) (hca : ca = none → cls = [] ∧ cc = 0) :
    ∃ ob oc w', (Builtin.append_ #[27, 27] ty #[.slice none 0 0, .slice ca cls.length cc]).run Try.prog w = .ok (.slice ob cls.length oc) w' ∧ ClsAt w' ob cls ∧ Below w.heap.size w w' ∧ cls.length ≤ oc := by
  cases ca with
  | none =>
    obtain ⟨rfl, rfl⟩ := hca rfl
    refine ⟨none, 0, w, ?_, Or.inl rfl, Below.refl _ _, Nat.le_refl _⟩
    simp [Builtin.append_, run_underlying Try.underlying27, go_sem, Result.andThen]
  | some ad =>
    obtain ⟨i0, hi0, hz0, hz1, hz2⟩ := info_parts infoIntL
    have hnews : ∀ j u, (clsC cls)[j]? = some u → w.cell? (ad.add j) = some u := by
      intro j u hj
      simp only [clsC, List.getElem?_map] at hj
      obtain ⟨c, hj', rfl⟩ := Option.map_eq_some_iff.1 hj
      clear hj
      rcases hc with e | ⟨g, off, h1, h2⟩
      · rw [e] at hj'; simp at hj'
      · simp at h1
        subst h1
        rw [add_plain]
        exact h2 j c hj'
    obtain ⟨v', w', hr, h2, h3, _, _⟩ := run_append_own_at (P := Try.prog) w w.heap.size 27 ty 3 i0 (.int .i64 0) 1 8 Try.underlying27 hi0 hz0 hz1 hz2 rfl (by decide) (.slice none 0 0) 0 [] (World.ownsRow_nil _ _ _ _) ad cls.length cc (clsC cls) (by simp [clsC]) hnews (by
      intro u hu
      obtain ⟨c, _, rfl⟩ := List.mem_map.1 hu
      rfl) (by unfold maxLen; omega) (by omega) (Nat.le_refl _)
    rw [Nat.zero_add, List.nil_append] at h2
    have hB : Below w.heap.size w w' := ⟨h3.os, h3.tape, h3.output, h3.size, fun k hk => h3.block k hk (by simp [Value.ownBlock])⟩
    rcases h2.2 with ⟨e, h0⟩ | ⟨g, cap, cur, e, e1, e2, e3, _⟩
    · have hn : cls = [] := List.length_eq_zero_iff.1 h0
      subst hn
      exact ⟨none, 0, w', by rw [hr, e]; rfl, Or.inl rfl, hB, Nat.le_refl _⟩
    · subst e
      have hcell := h2.cellAt
      refine ⟨some ⟨g, 0, none⟩, cap, w', hr, Or.inr ⟨g, 0, rfl, fun j c hj => ?_⟩, hB, e3⟩
      have := hcell j (by have := (List.getElem?_eq_some_iff.1 hj).1; simpa using this)
      rw [Nat.zero_add, this]
      simp [clsC, hj]

/-- A call of a builtin by what it comes to. -/
theorem wpList_append_eq {P : Program} (w : World) {ops : Array Oper} {rest : List Oper} {o : Oper} {a : Act} {Q : Exit → Act → World → Prop} (hgd : o.guard = none) (s x : Operand) (t : TypeId)
    (ho : o.op = .call { callee := .builtin .append, args := #[s, x], argTypes := #[t, t] }) (v u v' : Value) (hs : a.eval s = v) (hx : a.eval x = u) (w' : World) (hr : (Builtin.append_ #[t, t] o.type #[v, u]).run P w = .ok v' w') (h : wpList P ops Q rest (a.put o.dst v') w') :
    wpList P ops Q (o :: rest) a w := by
  refine wpList_plain hgd fun K hK => ?_
  unfold Oper.wp execOp
  simp only [ho, resolve, invoke, builtin, Sem.run_bind, Sem.run_pure, Result.andThen_ok, List.map_toArray, List.map_cons, List.map_nil, hs, hx, hr]
  exact hK _ _ h

theorem FB.new' (W : World) (op x y : Int) (kv : Value) : FB (W.alloc (.cells #[.int .i64 op, .int .i64 x, .int .i64 y, kv] 26)) W.heap.size op x y kv := by
  have hn := made_row W #[.int .i64 op, .int .i64 x, .int .i64 y, kv] 26
  exact ⟨hn.cell (i := 0) (by simp), hn.cell (i := 1) (by simp), hn.cell (i := 2) (by simp), hn.cell (i := 3) (by simp)⟩
theorem LayA.layC {A : Nat → Prop} {W : World} {t : Lf} (h : LayA A W t) : LayC W t := by
  induction h with
  | mk _ hc hk _ ih => exact .mk hc.c0 hc.c1 hc.c2 hc.c3 hk ih
theorem szd_er {u : Lf} (h : Szd u) : ∀ t : Lf, t.er = u.er → Szd t := by
  induction h with
  | mk hn _ ih =>
    intro t ht
    obtain ⟨b, o, op, x, y, kv, kids⟩ := t
    rename_i b2 o2 op2 x2 y2 kv2 kids2 _
    rw [Lf.er, Lf.er] at ht
    injection ht with _ _ _ hm
    have hl : kids.length = kids2.length := by have := congrArg List.length hm; simpa using this
    refine .mk (by omega) (fun k hk => ?_)
    have hm1 : k.er ∈ kids.map Lf.er := List.mem_map.2 ⟨k, hk, rfl⟩
    rw [hm] at hm1
    obtain ⟨k2, hk2, e2⟩ := List.mem_map.1 hm1
    exact ih k2 hk2 k e2.symm

/-- law05's Same of a Form of the program's and the document's. -/
theorem same5_in (w : World) (v : Value) (f : Fo) (hv : FIs w v f) (u : Lf) (hu : u.er = f) (hs : Szd u) (hk : KidsIn u.kv u.kids) (hks : ∀ k ∈ u.kids, LayC w k) :
    Calls Try.prog 8 #[v, .agg #[.int .i64 u.op, .int .i64 u.x, .int .i64 u.y, u.kv]] w fun e w' => e = .returned (.bool true) ∧ Below w.heap.size w w' := by
  obtain ⟨op, x, y, kv, kids, rfl, h1, h2, h3⟩ := hv
  have he : (Lf.mk 0 0 op x y kv kids).er = u.er := by rw [Lf.er, hu, h3]
  exact smt (.mk 0 0 op x y kv kids) u w he (szd_er hs _ he) h1 (fun k hkk => (h2 k hkk).layC) hk hks

end Go.Proofs.Ytinphcnknionmab
