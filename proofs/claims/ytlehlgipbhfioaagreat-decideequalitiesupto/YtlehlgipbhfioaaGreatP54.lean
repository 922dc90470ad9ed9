/- TermReads: the statement. Pairs that came in (law04). -/
import Derived.Test.YtlehlgipbhfioaaGreatP22
import Derived.ProofKit
import Derived.OpenShut
import Derived.Deep.Strs
import Derived.Below
import Derived.Test.YtlehlgipbhfioaaGreatP24
import Derived.SizedLaws
namespace Go.Proofs.YtlehlgipbhfioaaGreat
open Go.ChangeShapes Go.WideShapes Go.ChangeAt Go.RowKit Go.Deep
open Go.ChangeMaps (open_string shut_string)

theorem Tryz.own : ownKnob Tryz.prog.godebug = none := by kernel_rfl
theorem Tryz.laidOut : laidOutB Tryz.prog = true := by kernel_rfl
theorem cellsStr : Tryz.prog.cellsOf 9 = 1 := by kernel_rfl

set_option maxRecDepth 100000 in
theorem texts_at {H : Type} {enc : TypeId × Value → H} {W : World} {base : Nat} {spare : Nat → Bool} {held : Bool} {a : Option Addr} {len cap : Nat} {d : DataW H} {p : List MemPlace}
    (h : DataW.Trod enc Tryz.prog W base spare held 22 (.slice a len cap) d p) : ∃ ss : List ByteArray, ss.length = len ∧ Texts W a ss ∧ len ≤ maxLen := by
  obtain ⟨fuel, hf⟩ := h
  rcases open_strs Tryz.underlying22 Tryz.underlying9 cellsStr hf with ⟨hcs, _⟩ | ⟨x, l, c, m, Sx, hcs, _, hl, hm, hmm, _, hx⟩
  · simp [Value.cells] at hcs
    obtain ⟨rfl, rfl, rfl⟩ := hcs
    exact ⟨[], rfl, Or.inl rfl, by unfold maxLen; omega⟩
  · simp [Value.cells] at hcs
    obtain ⟨rfl, rfl, rfl⟩ := hcs
    have hlm : len ≤ m := by rw [hmm]; split <;> omega
    refine ⟨(List.range len).map Sx, by simp, ?_, by omega⟩
    by_cases h0 : len = 0
    · subst h0; exact Or.inl rfl
    · right
      obtain ⟨b, off, spot⟩ := x
      have c0 := (hx 0 (by omega)).1
      have hspot : spot = none := by
        have hsp := World.cell?_spot c0
        simpa [Addr.add] using hsp
      subst hspot
      refine ⟨b, off, rfl, ?_, fun k s hk => ?_⟩
      · rw [add_plain] at c0
        exact World.block_lt_of_cell? _ _ c0
      · have hk' : k < len := by
          have := (List.getElem?_eq_some_iff.1 hk).1
          simpa using this
        have ck := (hx k (by omega)).1
        rw [add_plain] at ck
        rw [ck]
        simp [hk'] at hk
        rw [hk]

end Go.Proofs.YtlehlgipbhfioaaGreat

namespace Go.Proofs.YtlehlgipbhfioaaGreat
open Go.ChangeShapes Go.WideShapes Go.ChangeAt Go.RowKit Go.Deep

theorem cellsPair4 : Tryz.prog.cellsOf 32 = 2 := by kernel_rfl
theorem cellsInt4 : Tryz.prog.cellsOf 3 = 1 := by kernel_rfl
theorem bytesPair4 : Tryz.prog.bytesOf 32 = 16 := by kernel_rfl

set_option maxRecDepth 100000 in
theorem prw_at {H : Type} {enc : TypeId × Value → H} {W : World} {base : Nat} {spare : Nat → Bool} {held : Bool} {a : Option Addr} {len cap : Nat} {d : DataW H} {p : List MemPlace}
    (h : DataW.Trod enc Tryz.prog W base spare held 23 (.slice a len cap) d p) : (∃ ps : List (Int × Int), ps.length = len ∧ Prw W a ps) ∧ (len = 0 ∨ ∃ elems sp, d = .slice elems sp ∧ len ≤ elems.length + sp.length) := by
  obtain ⟨fuel, hf⟩ := h
  rcases open_slice Tryz.underlying23 hf with ⟨hcs, _⟩ | ⟨x, l, c, m, n, D, Pl, hcs, _, hl, hm, hmm, hd, hx⟩
  · simp [Value.cells] at hcs
    obtain ⟨rfl, rfl, rfl⟩ := hcs
    exact ⟨⟨[], rfl, fun k x hk => by simp at hk⟩, .inl rfl⟩
  · simp [Value.cells] at hcs
    obtain ⟨rfl, rfl, rfl⟩ := hcs
    have hlm : len ≤ m := by rw [hmm]; split <;> omega
    refine ⟨?_, .inr ⟨_, _, (Prod.mk.inj hd).1, by simp⟩⟩
    have each : ∀ i, i < len → ∃ q : Int × Int, W.cell? (x.add (i * 2)) = some (.int .i64 q.1) ∧ W.cell? (x.add (i * 2 + 1)) = some (.int .i64 q.2) := by
      intro i hi
      obtain ⟨cs, h1, h2⟩ := hx i (by omega)
      rw [cellsPair4] at h1
      obtain ⟨_, hlen, hcell⟩ := World.cells?_some h1
      obtain ⟨y0, y1, k, _, _, g0, g1⟩ := trod_struct2 Tryz.underlying32 h2
      have e0 := hcell 0 (by omega)
      have e1 := hcell 1 (by omega)
      rw [add_add] at e0 e1
      match cs, hlen with
      | [v0, v1], _ =>
        simp only [cellsInt4] at g0 g1
        obtain ⟨z0, q0, _, _⟩ := DataW.trod_int Tryz.underlying3 g0
        obtain ⟨z1, q1, _, _⟩ := DataW.trod_int Tryz.underlying3 g1
        simp at q0 q1
        subst q0 q1
        exact ⟨(z0, z1), by simpa using e0, by simpa using e1⟩
    obtain ⟨q, hq⟩ := choose_lt each
    refine ⟨(List.range len).map q, by simp, fun k y hk => ?_⟩
    have hk' : k < len := by
      have := (List.getElem?_eq_some_iff.1 hk).1
      simpa using this
    obtain ⟨b, off, spot⟩ := x
    have hspot : spot = none := by
      have hsp := World.cell?_spot (hq 0 (by omega)).1
      simpa [Addr.add] using hsp
    subst hspot
    obtain ⟨t0, t1⟩ := hq k hk'
    rw [add_plain] at t0 t1
    have hy : y = q k := by simp [hk'] at hk; exact hk.symm
    subst hy
    exact ⟨b, off, rfl, World.block_lt_of_cell? _ _ t0, t0, by rw [Nat.add_assoc]; exact t1⟩


end Go.Proofs.YtlehlgipbhfioaaGreat
