/- A Form that came in (law05). -/
import Derived.Test.YtinphcnknionmabRows
import Derived.Test.YtinphcnknionmabP19
import Derived.Test.YtinphcnknionmabP35
import Derived.ProofKit
import Derived.OpenShut
import Derived.Deep.Strs
import Derived.Deep.Slices
namespace Go.Proofs.Ytinphcnknionmab
open Go.ChangeShapes Go.WideShapes Go.ChangeAt Go.RowKit Go.Deep

theorem cellsRF : Try.prog.cellsOf 26 = 4 := by kernel_rfl
theorem cellsRP : Try.prog.cellsOf 23 = 2 := by kernel_rfl
theorem cellsRI : Try.prog.cellsOf 3 = 1 := by kernel_rfl
theorem cellsRS : Try.prog.cellsOf 24 = 1 := by kernel_rfl

instance : Inhabited Lf := ⟨.mk 0 0 0 0 0 (.bool false) []⟩

theorem bulk_part {H : Type} {d : DataW H} {l : List (DataW H)} (h : d ∈ l) : Rows.uptoBulk d ≤ Rows.uptoBulkAll l := by
  induction l with
  | nil => cases h
  | cons x r ih =>
    simp only [Rows.uptoBulkAll]
    rcases List.mem_cons.1 h with e | e
    · subst e; omega
    · have := ih e; omega
theorem bulk_sum {H : Type} (q : Nat → Lf) (D : Nat → DataW H) (l : List Nat) (h : ∀ i ∈ l, szF (q i).er + 5 ≤ Rows.uptoBulk (D i)) : ((l.map q).map fun t => szF t.er).sum + 5 * l.length ≤ Rows.uptoBulkAll (l.map D) := by
  induction l with
  | nil => simp [Rows.uptoBulkAll]
  | cons i l ih =>
    simp only [List.map_cons, List.sum_cons, List.length_cons, Rows.uptoBulkAll]
    have h1 := h i (by simp)
    have h2 := ih (fun j hj => h j (by simp [hj]))
    omega

/-- What one finds of a Form. -/
def FoundF {H : Type} (W : World) (cs : List Value) (d : DataW H) : Prop :=
  ∃ (op x y : Int) (kv : Value) (kids : List Lf), cs = [.int .i64 op, .int .i64 x, .int .i64 y, kv] ∧ KidsIn kv kids ∧ (∀ k ∈ kids, LayC W k) ∧ (∀ k ∈ kids, Sml k) ∧ kids.length ≤ Rows.uptoBulk d ∧ RF (.mk op x y (kids.map Lf.er)) ∧ szF (.mk op x y (kids.map Lf.er)) + 5 ≤ Rows.uptoBulk d

theorem r64_wf {n : Int} (h : (Lit.int .i64 n).wf = true) : R64 n := by
  simp [Lit.wf] at h
  exact h

set_option maxRecDepth 100000 in
theorem formR_at {H : Type} {enc : TypeId × Value → H} {W : World} {base : Nat} {spare : Nat → Bool} {held : Bool} (N : Nat) : ∀ (d : DataW H), Rows.uptoBulk d ≤ N → N ≤ 1048576 → ∀ (fuel : Nat) (cs : List Value) (p : List MemPlace), DataW.trod enc Try.prog W base spare held fuel 26 cs = some (d, p) → FoundF W cs d := by
  induction N using Nat.strongRecOn with
  | _ N IH =>
  intro d hN hM fuel cs p h
  obtain ⟨y0, y1, y2, n, hx, hl, g0, g1, g2⟩ := trod_struct3 Try.underlying26 h
  rw [cellsRF] at hl
  match cs, hl with
  | [v0, v1, v2, v3], _ =>
    simp only [cellsRI, cellsRP, cellsRS] at g0 g1 g2
    obtain ⟨op, e0, m0, w0⟩ := DataW.trod_int Try.underlying3 g0
    obtain ⟨z0, z1, n1, hx1, hl1, k0, k1⟩ := trod_struct2 Try.underlying23 g1
    simp only [cellsRI] at k0 k1
    obtain ⟨x, e1, m1, w1⟩ := DataW.trod_int Try.underlying3 k0
    obtain ⟨y, e2, m2, w2⟩ := DataW.trod_int Try.underlying3 k1
    simp at e0 e1 e2
    subst e0 e1 e2
    have hd : d = .agg [y0.1, y1.1, y2.1] := (Prod.mk.inj hx).1
    have b0 : y0.1 = .lit (.int .i64 op) := by rw [m0]
    have b1 : y1.1 = .agg [.lit (.int .i64 x), .lit (.int .i64 y)] := by rw [hx1, m1, m2]
    have hbd : Rows.uptoBulk d = 5 + Rows.uptoBulk y2.1 := by
      rw [hd, b0, b1]
      simp only [Rows.uptoBulk, Rows.uptoBulkAll]
      omega
    rcases open_slice Try.underlying24 g2 with ⟨hcs, hy2⟩ | ⟨a, len, cap, m, n2, D, Pl, hcs, _, hlc, hcm, hm, hy2, hel⟩
    · simp at hcs
      subst hcs
      have b2 : Rows.uptoBulk y2.1 = 1 := by rw [hy2]; simp [Rows.uptoBulk]
      refine ⟨op, x, y, .slice none 0 0, [], rfl, ⟨none, 0, rfl, Nat.le_refl _, Or.inl rfl⟩, by simp, by simp, by simp, .mk (r64_wf w1) (r64_wf w2) (by simp), ?_⟩
      rw [szF]
      split <;> simp <;> omega
    · simp at hcs
      subst hcs
      have b2 : Rows.uptoBulk y2.1 = Rows.uptoBulkAll ((List.range len).map D) + Rows.uptoBulkAll ((List.range (m - len)).map fun j => D (len + j)) + 1 := by
        rw [hy2]
        simp only [Rows.uptoBulk]
      have hlm : len ≤ m := by rw [hm]; split <;> omega
      have hspot : 0 < len → a.spot = none := by
        intro h0
        obtain ⟨cs', h1, h2⟩ := hel 0 (by omega)
        rw [cellsRF] at h1
        obtain ⟨_, hlen, hcell⟩ := World.cells?_some h1
        have c0 := hcell 0 (by omega)
        rw [add_add] at c0
        rw [List.getElem?_eq_getElem (show 0 < cs'.length by omega)] at c0
        have := World.cell?_spot c0
        simpa [Addr.add] using this
      have each : ∀ i, i < len → ∃ t : Lf, t.b = a.block ∧ t.o = a.off + i * 4 ∧ LayC W t ∧ Sml t ∧ RF t.er ∧ szF t.er + 5 ≤ Rows.uptoBulk (D i) ∧ a.spot = none := by
        intro i hi
        obtain ⟨cs', h1, h2⟩ := hel i (by omega)
        have hpart : Rows.uptoBulk (D i) ≤ Rows.uptoBulkAll ((List.range len).map D) := bulk_part (List.mem_map.2 ⟨i, List.mem_range.2 hi, rfl⟩)
        obtain ⟨kop, kx, ky, kkv, kks, rfl, f1, f2, f3, f4, f5, f6⟩ := IH (Rows.uptoBulk (D i)) (by omega) (D i) (Nat.le_refl _) (by omega) n2 cs' (Pl i) h2
        rw [cellsRF] at h1
        obtain ⟨_, hlen, hcell⟩ := World.cells?_some h1
        have c0 := hcell 0 (by omega)
        have c1 := hcell 1 (by omega)
        have c2 := hcell 2 (by omega)
        have c3 := hcell 3 (by omega)
        rw [add_add] at c0 c1 c2 c3
        have hsp : a.spot = none := hspot (by omega)
        obtain ⟨ab, ao, asp⟩ := a
        simp only at hsp
        subst hsp
        rw [add_plain] at c0 c1 c2 c3
        refine ⟨.mk ab (ao + i * 4) kop kx ky kkv kks, rfl, rfl, .mk (by simpa using c0) (by simpa [Nat.add_assoc] using c1) (by simpa [Nat.add_assoc] using c2) (by simpa [Nat.add_assoc] using c3) f1 f2, .mk (by omega) f3, by rw [Lf.er]; exact f5, by rw [Lf.er]; exact f6, rfl⟩
      obtain ⟨q, hq⟩ := choose_lt each
      have hsum := bulk_sum q D (List.range len) (fun i hi => (hq i (List.mem_range.1 hi)).2.2.2.2.2.1)
      rw [List.length_range] at hsum
      have mem : ∀ k ∈ (List.range len).map q, ∃ i, i < len ∧ q i = k := by
        intro k hk
        obtain ⟨i, hi, e⟩ := List.mem_map.1 hk
        exact ⟨i, List.mem_range.1 hi, e⟩
      refine ⟨op, x, y, .slice (some a) len cap, (List.range len).map q, rfl, ⟨some a, cap, by simp, by simpa using hlc, ?_⟩, ?_, ?_, ?_, .mk (r64_wf w1) (r64_wf w2) ?_, ?_⟩
      · by_cases h0 : len = 0
        · subst h0; exact Or.inl rfl
        · refine Or.inr ⟨a.block, a.off, ?_, fun j t hj => ?_⟩
          · have := (hq 0 (by omega)).2.2.2.2.2.2
            obtain ⟨ab, ao, asp⟩ := a
            simp only at this
            subst this
            rfl
          · have hj' : j < len := by
              have := (List.getElem?_eq_some_iff.1 hj).1
              simpa using this
            have ht : t = q j := by simp [hj'] at hj; exact hj.symm
            subst ht
            exact ⟨(hq j hj').1, (hq j hj').2.1⟩
      · intro k hk
        obtain ⟨i, hi, rfl⟩ := mem k hk
        exact (hq i hi).2.2.1
      · intro k hk
        obtain ⟨i, hi, rfl⟩ := mem k hk
        exact (hq i hi).2.2.2.1
      · simp
        omega
      · intro k hk
        obtain ⟨t, ht, rfl⟩ := List.mem_map.1 hk
        obtain ⟨i, hi, rfl⟩ := mem t ht
        exact (hq i hi).2.2.2.2.1
      · rw [szF]
        split
        · omega
        · have e : (((List.range len).map q).map Lf.er).map szF = ((List.range len).map q).map fun t => szF t.er := by rw [List.map_map]; rfl
          rw [e]
          simp only [List.length_map, List.length_range]
          omega

end Go.Proofs.Ytinphcnknionmab
