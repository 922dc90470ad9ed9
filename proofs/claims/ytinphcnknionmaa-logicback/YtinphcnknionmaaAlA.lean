/- law05: what the constant text says, plainly. -/
import Derived.Test.YtinphcnknionmaaP29
import Derived.Test.YtinphcnknionmaaP09
namespace Go.Proofs.Ytinphcnknionmaa
open Go.RowKit

/-- a=b & !(a = c) -> b != c -/
def tx24 : ByteArray := ⟨#[97, 61, 98, 32, 38, 32, 33, 40, 97, 32, 61, 32, 99, 41, 32, 45, 62, 32, 98, 32, 33, 61, 32, 99]⟩
def aA : Tm := ⟨⟨#[97]⟩, []⟩
def aB : Tm := ⟨⟨#[98]⟩, []⟩
def aC : Tm := ⟨⟨#[99]⟩, []⟩
def f24 : Fo := .two 4 (.two 2 (.eq 0 1) (.neg (.eq 0 2))) (.neg (.eq 1 2))

theorem q1 : pRead ⟨#[97]⟩ [] = (0, 0, 0, [aA]) := by
  have n : nmE ⟨#[97]⟩ 0 = 1 := by rw [nmE_at (by decide) (by decide), nmE_end (by decide)]
  have b : badNm ⟨#[97]⟩ 0 = false := by simp only [badNm, n]; decide
  rw [pRead, if_neg (by decide), pWhole, bl_end (by decide), show 2 * (ByteArray.mk #[97]).size + 1 = 2 + 1 from rfl, pTerm, b, n, bl_end (by decide)]
  simp only [Bool.false_eq_true, if_false, show ¬ 12 < 0 from by omega, show stands ⟨#[97]⟩ 1 40 = false from by decide]
  rfl
theorem q2 : pRead ⟨#[98]⟩ [aA] = (1, 0, 0, [aA, aB]) := by
  have n : nmE ⟨#[98]⟩ 0 = 1 := by rw [nmE_at (by decide) (by decide), nmE_end (by decide)]
  have b : badNm ⟨#[98]⟩ 0 = false := by simp only [badNm, n]; decide
  rw [pRead, if_neg (by decide), pWhole, bl_end (by decide), show 2 * (ByteArray.mk #[98]).size + 1 = 2 + 1 from rfl, pTerm, b, n, bl_end (by decide)]
  simp only [Bool.false_eq_true, if_false, show ¬ 12 < 0 from by omega, show stands ⟨#[98]⟩ 1 40 = false from by decide]
  rfl
theorem q3 : pRead ⟨#[97]⟩ [aA, aB] = (0, 0, 0, [aA, aB]) := by
  have n : nmE ⟨#[97]⟩ 0 = 1 := by rw [nmE_at (by decide) (by decide), nmE_end (by decide)]
  have b : badNm ⟨#[97]⟩ 0 = false := by simp only [badNm, n]; decide
  rw [pRead, if_neg (by decide), pWhole, bl_end (by decide), show 2 * (ByteArray.mk #[97]).size + 1 = 2 + 1 from rfl, pTerm, b, n, bl_end (by decide)]
  simp only [Bool.false_eq_true, if_false, show ¬ 12 < 0 from by omega, show stands ⟨#[97]⟩ 1 40 = false from by decide]
  rfl
theorem q4 : pRead ⟨#[99]⟩ [aA, aB] = (2, 0, 0, [aA, aB, aC]) := by
  have n : nmE ⟨#[99]⟩ 0 = 1 := by rw [nmE_at (by decide) (by decide), nmE_end (by decide)]
  have b : badNm ⟨#[99]⟩ 0 = false := by simp only [badNm, n]; decide
  rw [pRead, if_neg (by decide), pWhole, bl_end (by decide), show 2 * (ByteArray.mk #[99]).size + 1 = 2 + 1 from rfl, pTerm, b, n, bl_end (by decide)]
  simp only [Bool.false_eq_true, if_false, show ¬ 12 < 0 from by omega, show stands ⟨#[99]⟩ 1 40 = false from by decide]
  rfl
theorem q5 : pRead ⟨#[98]⟩ [aA, aB, aC] = (1, 0, 0, [aA, aB, aC]) := by
  have n : nmE ⟨#[98]⟩ 0 = 1 := by rw [nmE_at (by decide) (by decide), nmE_end (by decide)]
  have b : badNm ⟨#[98]⟩ 0 = false := by simp only [badNm, n]; decide
  rw [pRead, if_neg (by decide), pWhole, bl_end (by decide), show 2 * (ByteArray.mk #[98]).size + 1 = 2 + 1 from rfl, pTerm, b, n, bl_end (by decide)]
  simp only [Bool.false_eq_true, if_false, show ¬ 12 < 0 from by omega, show stands ⟨#[98]⟩ 1 40 = false from by decide]
  rfl
theorem q6 : pRead ⟨#[99]⟩ [aA, aB, aC] = (2, 0, 0, [aA, aB, aC]) := by
  have n : nmE ⟨#[99]⟩ 0 = 1 := by rw [nmE_at (by decide) (by decide), nmE_end (by decide)]
  have b : badNm ⟨#[99]⟩ 0 = false := by simp only [badNm, n]; decide
  rw [pRead, if_neg (by decide), pWhole, bl_end (by decide), show 2 * (ByteArray.mk #[99]).size + 1 = 2 + 1 from rfl, pTerm, b, n, bl_end (by decide)]
  simp only [Bool.false_eq_true, if_false, show ¬ 12 < 0 from by omega, show stands ⟨#[99]⟩ 1 40 = false from by decide]
  rfl

theorem lt_at {s : ByteArray} {i e k n : Nat} {x : ByteArray} {l l' : List Tm} (hn : nmE s i = e) (hb : bl s e = k) (hk : ¬ byt s k = 40) (hx : s.extract i e = x) (hr : pRead x l = (n, 0, 0, l')) : lTerm s i l = .ok n k l' := by
  have ht : tEnd s i = e := by unfold tEnd; rw [hn, hb, if_neg hk]
  unfold lTerm
  rw [ht, hx, hr, hb]
  rfl

theorem u0 : lTerm tx24 0 [] = .ok 0 1 [aA] := lt_at (by rw [nmE_at (by decide) (by decide), nmE_end (by decide)]) (bl_end (by decide)) (by decide) (by rfl) q1
theorem u2 : lTerm tx24 2 [aA] = .ok 1 4 [aA, aB] := lt_at (by rw [nmE_at (by decide) (by decide), nmE_end (by decide)]) (by rw [bl_at (by decide) (by decide), bl_end (by decide)]) (by decide) (by rfl) q2
theorem u8 : lTerm tx24 8 [aA, aB] = .ok 0 10 [aA, aB] := lt_at (by rw [nmE_at (by decide) (by decide), nmE_end (by decide)]) (by rw [bl_at (by decide) (by decide), bl_end (by decide)]) (by decide) (by rfl) q3
theorem u12 : lTerm tx24 12 [aA, aB] = .ok 2 13 [aA, aB, aC] := lt_at (by rw [nmE_at (by decide) (by decide), nmE_end (by decide)]) (bl_end (by decide)) (by decide) (by rfl) q4
theorem u18 : lTerm tx24 18 [aA, aB, aC] = .ok 1 20 [aA, aB, aC] := lt_at (by rw [nmE_at (by decide) (by decide), nmE_end (by decide)]) (by rw [bl_at (by decide) (by decide), bl_end (by decide)]) (by decide) (by rfl) q5
theorem u23 : lTerm tx24 23 [aA, aB, aC] = .ok 2 24 [aA, aB, aC] := lt_at (by rw [nmE_at (by decide) (by decide), nmE_end (by decide)]) (bl_end (by decide)) (by decide) (by rfl) q6

theorem e0 : gEqu tx24 0 [] = .ok (.eq 0 1) 4 [aA, aB] := by
  rw [gEqu, u0]
  simp only [Res.bind, show byt tx24 1 = 61 from by decide, show stands tx24 1 61 = true from by decide, show ¬ 61 = 33 from by decide, if_false, if_true, show bl tx24 (1 + 1) = 2 from bl_end (by decide), u2]
  rfl
theorem e8 : gEqu tx24 8 [aA, aB] = .ok (.eq 0 2) 13 [aA, aB, aC] := by
  rw [gEqu, u8]
  simp only [Res.bind, show byt tx24 10 = 61 from by decide, show stands tx24 10 61 = true from by decide, show ¬ 61 = 33 from by decide, if_false, if_true, show bl tx24 (10 + 1) = 12 from by rw [bl_at (by decide) (by decide), bl_end (by decide)], u12]
  rfl
theorem e18 : gEqu tx24 18 [aA, aB, aC] = .ok (.neg (.eq 1 2)) 24 [aA, aB, aC] := by
  rw [gEqu, u18]
  simp only [Res.bind, show byt tx24 20 = 33 from by decide, show stands tx24 (20 + 1) 61 = true from by decide, if_true, show bl tx24 (20 + 1 + 1) = 23 from by rw [bl_at (by decide) (by decide), bl_end (by decide)], u23]
  rfl

/-- An equality where no sign follows, at the levels. -/
theorem up3 {s : ByteArray} {f d i k : Nat} {l l' : List Tm} {a : Fo} (h1 : ¬ byt s i = 33) (h2 : ¬ byt s i = 40) (h : gEqu s i l = .ok a k l') : gp s (f + 1) 3 d i l = .ok a k l' := by
  rw [gp, if_neg (by decide), if_pos rfl, if_neg h1, if_neg h2, h]
theorem up2 {s : ByteArray} {f d i k : Nat} {l l' : List Tm} {a : Fo} (h : gp s (f + 1) 3 d i l = .ok a k l') (hk : ¬ byt s k = 38) : gp s (f + 2) 2 d i l = .ok a k l' := by
  rw [gp, if_neg (by decide), if_neg (by decide), h]
  simp only [Res.bind]
  rw [gl, if_neg (by simpa [sgn] using hk)]
theorem up1 {s : ByteArray} {f d i k : Nat} {l l' : List Tm} {a : Fo} (h : gp s (f + 1) 2 d i l = .ok a k l') (hk : ¬ byt s k = 124) : gp s (f + 2) 1 d i l = .ok a k l' := by
  rw [gp, if_neg (by decide), if_neg (by decide), h]
  simp only [Res.bind]
  rw [gl, if_neg (by simpa [sgn] using hk)]
theorem up0 {s : ByteArray} {f d i k : Nat} {l l' : List Tm} {a : Fo} (h : gp s f 1 d i l = .ok a k l') (hk : ¬ byt s k = 45) : gp s (f + 1) 0 d i l = .ok a k l' := by
  rw [gp, if_pos rfl, h]
  simp only [Res.bind]
  rw [if_neg hk]

theorem in8 (f d : Nat) : gp tx24 (f + 4) 0 d 8 [aA, aB] = .ok (.eq 0 2) 13 [aA, aB, aC] := up0 (up1 (f := f + 1) (up2 (f := f) (up3 (by decide) (by decide) e8) (by decide)) (by decide)) (by decide)
theorem in18 (f d : Nat) : gp tx24 (f + 4) 0 d 18 [aA, aB, aC] = .ok (.neg (.eq 1 2)) 24 [aA, aB, aC] := up0 (up1 (f := f + 1) (up2 (f := f) (up3 (by decide) (by decide) e18) (by decide)) (by decide)) (by decide)
theorem in7 (f d : Nat) (hd : ¬ 20 ≤ d) : gp tx24 (f + 5) 3 d 7 [aA, aB] = .ok (.eq 0 2) 15 [aA, aB, aC] := by
  rw [gp, if_neg (by decide), if_pos rfl, if_neg (by decide), if_pos (by decide), if_neg hd, show bl tx24 (7 + 1) = 8 from bl_end (by decide), in8]
  simp only [Res.bind, show stands tx24 13 41 = true from by decide, if_true, show bl tx24 (13 + 1) = 15 from by rw [bl_at (by decide) (by decide), bl_end (by decide)]]
theorem in6 (f d : Nat) (hd : ¬ 19 ≤ d) : gp tx24 (f + 6) 3 d 6 [aA, aB] = .ok (.neg (.eq 0 2)) 15 [aA, aB, aC] := by
  rw [gp, if_neg (by decide), if_pos rfl, if_pos (by decide), if_neg (by omega), show bl tx24 (6 + 1) = 7 from bl_end (by decide), in7 f (d + 1) (by omega)]
  rfl
theorem in2 (f : Nat) : gp tx24 (f + 8) 2 0 0 [] = .ok (.two 2 (.eq 0 1) (.neg (.eq 0 2))) 15 [aA, aB, aC] := by
  rw [gp, if_neg (by decide), if_neg (by decide), up3 (f := f + 6) (by decide) (by decide) e0]
  simp only [Res.bind]
  rw [gl, if_pos (by decide), show bl tx24 (4 + 1) = 6 from by rw [bl_at (by decide) (by decide), bl_end (by decide)], in6 f 0 (by omega)]
  simp only [Res.bind]
  rw [gl, if_neg (by decide)]
  rfl
theorem in0 (f : Nat) : gp tx24 (f + 10) 0 0 0 [] = .ok f24 24 [aA, aB, aC] := by
  rw [gp, if_pos rfl, up1 (f := f + 7) (in2 f) (by decide)]
  simp only [Res.bind]
  rw [if_pos (by decide), if_pos (by decide), show bl tx24 (15 + 1 + 1) = 18 from by rw [bl_at (by decide) (by decide), bl_end (by decide)], in18 (f + 5) 0]
  rfl
theorem tx24_parse : gParse tx24 [] = (f24, 0, 0, [aA, aB, aC]) := by
  rw [gParse, if_neg (by decide), gWhole, show bl tx24 0 = 0 from bl_end (by decide), show 6 * tx24.size + 5 = 139 + 10 from rfl, in0 139]
  rfl

end Go.Proofs.Ytinphcnknionmaa
