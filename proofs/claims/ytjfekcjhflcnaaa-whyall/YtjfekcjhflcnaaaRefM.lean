/- What the constant text says, plainly. -/
import Derived.Test.YtjfekcjhflcnaaaRefL
namespace Go.Proofs.Ytjfekcjhflcnaaa
open Go.RowKit

/-- f(a, g(a)) -/
def txt : ByteArray := ⟨#[102, 40, 97, 44, 32, 103, 40, 97, 41, 41]⟩
def tA : Tm := ⟨⟨#[97]⟩, []⟩
def tG : Tm := ⟨⟨#[103]⟩, [0]⟩
def tF : Tm := ⟨⟨#[102]⟩, [0, 1]⟩

theorem tx_size : txt.size = 10 := rfl
theorem tx_n0 : nmE txt 0 = 1 := by rw [nmE_at (by decide) (by decide), nmE_end (by decide)]
theorem tx_n2 : nmE txt 2 = 3 := by rw [nmE_at (by decide) (by decide), nmE_end (by decide)]
theorem tx_n5 : nmE txt 5 = 6 := by rw [nmE_at (by decide) (by decide), nmE_end (by decide)]
theorem tx_n7 : nmE txt 7 = 8 := by rw [nmE_at (by decide) (by decide), nmE_end (by decide)]
theorem tx_b0 : bl txt 0 = 0 := bl_end (by decide)
theorem tx_b1 : bl txt 1 = 1 := bl_end (by decide)
theorem tx_b2 : bl txt 2 = 2 := bl_end (by decide)
theorem tx_b3 : bl txt 3 = 3 := bl_end (by decide)
theorem tx_b4 : bl txt 4 = 5 := by rw [bl_at (by decide) (by decide), bl_end (by decide)]
theorem tx_b6 : bl txt 6 = 6 := bl_end (by decide)
theorem tx_b7 : bl txt 7 = 7 := bl_end (by decide)
theorem tx_b8 : bl txt 8 = 8 := bl_end (by decide)
theorem tx_b9 : bl txt 9 = 9 := bl_end (by decide)
theorem tx_b10 : bl txt 10 = 10 := bl_end (by decide)
theorem tx_w0 : badNm txt 0 = false := by simp only [badNm, tx_n0]; decide
theorem tx_w2 : badNm txt 2 = false := by simp only [badNm, tx_n2]; decide
theorem tx_w5 : badNm txt 5 = false := by simp only [badNm, tx_n5]; decide
theorem tx_w7 : badNm txt 7 = false := by simp only [badNm, tx_n7]; decide
theorem tx_h1 : behind txt 1 40 = 2 := by rw [behind_true (by decide)]; exact tx_b2
theorem tx_h6 : behind txt 6 40 = 7 := by rw [behind_true (by decide)]; exact tx_b7
theorem tx_h3 : behind txt 3 44 = 5 := by rw [behind_true (by decide)]; exact tx_b4
theorem tx_h8 : behind txt 8 41 = 9 := by rw [behind_true (by decide)]; exact tx_b9
theorem tx_h9 : behind txt 9 41 = 10 := by rw [behind_true (by decide)]; exact tx_b10

theorem tx_a2 (f d : Nat) (hd : ¬ 12 < d) : pTerm txt (f + 1) d 2 [] = .ok 0 3 [tA] := by
  rw [pTerm, tx_w2, tx_n2, tx_b3]
  simp only [Bool.false_eq_true, if_false, hd, show stands txt 3 40 = false from by decide]
  rfl
theorem tx_a7 (f d : Nat) (hd : ¬ 12 < d) : pTerm txt (f + 1) d 7 [tA] = .ok 0 8 [tA] := by
  rw [pTerm, tx_w7, tx_n7, tx_b8]
  simp only [Bool.false_eq_true, if_false, hd, show stands txt 8 40 = false from by decide]
  rfl
theorem tx_g (f d : Nat) (hd : ¬ 11 < d) : pTerm txt (f + 3) d 5 [tA] = .ok 1 9 [tA, tG] := by
  rw [pTerm, tx_w5, tx_n5, tx_b6, tx_h6]
  simp only [Bool.false_eq_true, if_false, show ¬ 12 < d from by omega, show stands txt 6 40 = true from by decide, if_true]
  rw [pArgs, if_neg (by decide), if_neg (by decide), tx_a7 f (d + 1) (by omega)]
  simp only [show stands txt 8 41 = true from by decide, if_true, tx_h8]
  rfl
theorem tx_f (f : Nat) : pTerm txt (f + 6) 0 0 [] = .ok 2 10 [tA, tG, tF] := by
  rw [pTerm, tx_w0, tx_n0, tx_b1, tx_h1]
  simp only [Bool.false_eq_true, if_false, show ¬ 12 < 0 from by omega, show stands txt 1 40 = true from by decide, if_true]
  rw [pArgs, if_neg (by decide), if_neg (by decide), tx_a2 (f + 3) (0 + 1) (by omega)]
  simp only [show stands txt 3 41 = false from by decide, Bool.false_eq_true, if_false, show stands txt 3 44 = true from by decide, if_true, tx_h3]
  rw [pArgs, if_neg (by decide), if_neg (by decide), tx_g f (0 + 1) (by omega)]
  simp only [show stands txt 9 41 = true from by decide, if_true, tx_h9]
  rfl
theorem tx_read : pRead txt [] = (2, 0, 0, [tA, tG, tF]) := by
  rw [pRead, if_neg (by decide), pWhole, tx_b0, show 2 * txt.size + 1 = 15 + 6 from rfl, tx_f 15]
  rfl
theorem tx_shw : shw [tA, tG, tF] 13 2 = [102, 40, 97, 44, 103, 40, 97, 41, 41] := by rfl
theorem Hs_nil : Hs [] := fun n hn => absurd hn (by simp)
theorem Good_nil : Good [] := ⟨by simp, by simp⟩
