/- A script that came in (law03). -/
import Derived.Test.YtinphcnknionmaaSOrdC
import Derived.Test.YtinphcnknionmaaSRefP
import Derived.SizedLaws
namespace Go.Proofs.Ytinphcnknionmaa
open Go.ChangeShapes Go.WideShapes Go.ChangeAt Go.RowKit Go.Deep

theorem cellsOp3 : Try.prog.cellsOf 66 = 3 := by kernel_rfl
theorem cellsInt3 : Try.prog.cellsOf 3 = 1 := by kernel_rfl
theorem bytesOp3 : Try.prog.bytesOf 66 = 24 := by kernel_rfl

set_option maxRecDepth 100000 in
theorem scr_at {H : Type} {enc : TypeId × Value → H} {W : World} {base : Nat} {spare : Nat → Bool} {held : Bool} {a : Option Addr} {len cap : Nat} {d : DataW H} {p : List MemPlace}
    (h : DataW.Trod enc Try.prog W base spare held 60 (.slice a len cap) d p) : (∃ ops : List (Int × Int × Int), ops.length = len ∧ Scr W a ops) ∧ (len = 0 ∨ ∃ elems sp, d = .slice elems sp ∧ len ≤ elems.length + sp.length) := by
  obtain ⟨fuel, hf⟩ := h
  rcases open_slice Try.underlying60 hf with ⟨hcs, _⟩ | ⟨x, l, c, m, n, D, Pl, hcs, _, hl, hm, hmm, hd, hx⟩
  · simp [Value.cells] at hcs
    obtain ⟨rfl, rfl, rfl⟩ := hcs
    exact ⟨⟨[], rfl, fun k x hk => by simp at hk⟩, .inl rfl⟩
  · simp [Value.cells] at hcs
    obtain ⟨rfl, rfl, rfl⟩ := hcs
    have hlm : len ≤ m := by rw [hmm]; split <;> omega
    refine ⟨?_, .inr ⟨_, _, (Prod.mk.inj hd).1, by simp⟩⟩
    have each : ∀ i, i < len → ∃ q : Int × Int × Int, W.cell? (x.add (i * 3)) = some (.int .i64 q.1) ∧ W.cell? (x.add (i * 3 + 1)) = some (.int .i64 q.2.1) ∧ W.cell? (x.add (i * 3 + 2)) = some (.int .i64 q.2.2) := by
      intro i hi
      obtain ⟨cs, h1, h2⟩ := hx i (by omega)
      rw [cellsOp3] at h1
      obtain ⟨_, hlen, hcell⟩ := World.cells?_some h1
      obtain ⟨y0, y1, y2, k, _, _, g0, g1, g2⟩ := trod_struct3 Try.underlying66 h2
      have e0 := hcell 0 (by omega)
      have e1 := hcell 1 (by omega)
      have e2 := hcell 2 (by omega)
      rw [add_add] at e0 e1 e2
      match cs, hlen with
      | [v0, v1, v2], _ =>
        simp only [cellsInt3] at g0 g1 g2
        obtain ⟨z0, q0, _, _⟩ := DataW.trod_int Try.underlying3 g0
        obtain ⟨z1, q1, _, _⟩ := DataW.trod_int Try.underlying3 g1
        obtain ⟨z2, q2, _, _⟩ := DataW.trod_int Try.underlying3 g2
        simp at q0 q1 q2
        subst q0 q1 q2
        exact ⟨(z0, z1, z2), by simpa using e0, by simpa using e1, by simpa using e2⟩
    obtain ⟨q, hq⟩ := choose_lt each
    refine ⟨(List.range len).map q, by simp, fun k y hk => ?_⟩
    have hk' : k < len := by
      have := (List.getElem?_eq_some_iff.1 hk).1
      simpa using this
    obtain ⟨b, off, spot⟩ := x
    have hspot : spot = none := by
      have hsp := World.cell?_spot (hq 0 (by omega)).1
      simpa [Addr.add] using hsp
    subst hspot
    obtain ⟨t0, t1, t2⟩ := hq k hk'
    rw [add_plain] at t0 t1 t2
    have hy : y = q k := by simp [hk'] at hk; exact hk.symm
    subst hy
    exact ⟨b, off, rfl, World.block_lt_of_cell? _ _ t0, t0, by rw [Nat.add_assoc]; exact t1, by rw [Nat.add_assoc]; exact t2⟩

end Go.Proofs.Ytinphcnknionmaa
