/- A Form that came in (law05). law05: Given, the walk. Package logic: the parser, plainly. -/
import Derived.Test.YtinphcnknionmabRows
import Derived.Test.YtinphcnknionmabP30
import Derived.Test.YtinphcnknionmabP29
import Derived.ProofKit
import Derived.OpenShut
import Derived.Deep.Strs
import Derived.Deep.Slices
import Derived.Test.YtinphcnknionmabP13
namespace Go.Proofs.Ytinphcnknionmab
open Go.ChangeShapes Go.WideShapes Go.ChangeAt Go.RowKit Go.Deep

theorem cellsRF : Try.prog.cellsOf 26 = 4 := by kernel_rfl
theorem cellsRP : Try.prog.cellsOf 23 = 2 := by kernel_rfl
theorem cellsRI : Try.prog.cellsOf 3 = 1 := by kernel_rfl
theorem cellsRS : Try.prog.cellsOf 24 = 1 := by kernel_rfl

instance : Inhabited Lf := ⟨.mk 0 0 0 0 0 (.bool false) []⟩

theorem bulk_part {H : Type} {d : DataW H} {l : List (DataW H)} (h : d ∈ l) : Rows.uptoBulk d ≤ Rows.uptoBulkAll l := by
  induction l with
  | nil => cases h
  | cons x r ih =>
    simp only [Rows.uptoBulkAll]
    rcases List.mem_cons.1 h with e | e
    · subst e; omega
    · have := ih e; omega
theorem bulk_sum {H : Type} (q : Nat → Lf) (D : Nat → DataW H) (l : List Nat) (h : ∀ i ∈ l, szF (q i).er + 5 ≤ Rows.uptoBulk (D i)) : ((l.map q).map fun t => szF t.er).sum + 5 * l.length ≤ Rows.uptoBulkAll (l.map D) := by
  induction l with
  | nil => simp [Rows.uptoBulkAll]
  | cons i l ih =>
    simp only [List.map_cons, List.sum_cons, List.length_cons, Rows.uptoBulkAll]
    have h1 := h i (by simp)
    have h2 := ih (fun j hj => h j (by simp [hj]))
    omega

/-- What one finds of a Form. -/
def FoundF {H : Type} (W : World) (cs : List Value) (d : DataW H) : Prop :=
  ∃ (op x y : Int) (kv : Value) (kids : List Lf), cs = [.int .i64 op, .int .i64 x, .int .i64 y, kv] ∧ KidsIn kv kids ∧ (∀ k ∈ kids, LayC W k) ∧ (∀ k ∈ kids, Sml k) ∧ kids.length ≤ Rows.uptoBulk d ∧ RF (.mk op x y (kids.map Lf.er)) ∧ szF (.mk op x y (kids.map Lf.er)) + 5 ≤ Rows.uptoBulk d

theorem r64_wf {n : Int} (h : (Lit.int .i64 n).wf = true) : R64 n := by
  simp [Lit.wf] at h
  exact h

set_option maxRecDepth 100000 in
theorem formR_at {H : Type} {enc : TypeId × Value → H} {W : World} {base : Nat} {spare : Nat → Bool} {held : Bool} (N : Nat) : ∀ (d : DataW H), Rows.uptoBulk d ≤ N → N ≤ 1048576 → ∀ (fuel : Nat) (cs : List Value) (p : List MemPlace), DataW.trod enc Try.prog W base spare held fuel 26 cs = some (d, p) → FoundF W cs d := by
  induction N using Nat.strongRecOn with
  | _ N IH =>
  intro d hN hM fuel cs p h
  obtain ⟨y0, y1, y2, n, hx, hl, g0, g1, g2⟩ := trod_struct3 Try.underlying26 h
  rw [cellsRF] at hl
  match cs, hl with
  | [v0, v1, v2, v3], _ =>
    simp only [cellsRI, cellsRP, cellsRS] at g0 g1 g2
    obtain ⟨op, e0, m0, w0⟩ := DataW.trod_int Try.underlying3 g0
    obtain ⟨z0, z1, n1, hx1, hl1, k0, k1⟩ := trod_struct2 Try.underlying23 g1
    simp only [cellsRI] at k0 k1
    obtain ⟨x, e1, m1, w1⟩ := DataW.trod_int Try.underlying3 k0
    obtain ⟨y, e2, m2, w2⟩ := DataW.trod_int Try.underlying3 k1
    simp at e0 e1 e2
    subst e0 e1 e2
    have hd : d = .agg [y0.1, y1.1, y2.1] := (Prod.mk.inj hx).1
    have b0 : y0.1 = .lit (.int .i64 op) := by rw [m0]
    have b1 : y1.1 = .agg [.lit (.int .i64 x), .lit (.int .i64 y)] := by rw [hx1, m1, m2]
    have hbd : Rows.uptoBulk d = 5 + Rows.uptoBulk y2.1 := by
      rw [hd, b0, b1]
      simp only [Rows.uptoBulk, Rows.uptoBulkAll]
      omega
    rcases open_slice Try.underlying24 g2 with ⟨hcs, hy2⟩ | ⟨a, len, cap, m, n2, D, Pl, hcs, _, hlc, hcm, hm, hy2, hel⟩
    · simp at hcs
      subst hcs
      have b2 : Rows.uptoBulk y2.1 = 1 := by rw [hy2]; simp [Rows.uptoBulk]
      refine ⟨op, x, y, .slice none 0 0, [], rfl, ⟨none, 0, rfl, Nat.le_refl _, Or.inl rfl⟩, by simp, by simp, by simp, .mk (r64_wf w1) (r64_wf w2) (by simp), ?_⟩
      rw [szF]
      split <;> simp <;> omega
    · simp at hcs
      subst hcs
      have b2 : Rows.uptoBulk y2.1 = Rows.uptoBulkAll ((List.range len).map D) + Rows.uptoBulkAll ((List.range (m - len)).map fun j => D (len + j)) + 1 := by
        rw [hy2]
        simp only [Rows.uptoBulk]
      have hlm : len ≤ m := by rw [hm]; split <;> omega
      have hspot : 0 < len → a.spot = none := by
        intro h0
        obtain ⟨cs', h1, h2⟩ := hel 0 (by omega)
        rw [cellsRF] at h1
        obtain ⟨_, hlen, hcell⟩ := World.cells?_some h1
        have c0 := hcell 0 (by omega)
        rw [add_add] at c0
        rw [List.getElem?_eq_getElem (show 0 < cs'.length by omega)] at c0
        have := World.cell?_spot c0
        simpa [Addr.add] using this
      have each : ∀ i, i < len → ∃ t : Lf, t.b = a.block ∧ t.o = a.off + i * 4 ∧ LayC W t ∧ Sml t ∧ RF t.er ∧ szF t.er + 5 ≤ Rows.uptoBulk (D i) ∧ a.spot = none := by
        intro i hi
        obtain ⟨cs', h1, h2⟩ := hel i (by omega)
        have hpart : Rows.uptoBulk (D i) ≤ Rows.uptoBulkAll ((List.range len).map D) := bulk_part (List.mem_map.2 ⟨i, List.mem_range.2 hi, rfl⟩)
        obtain ⟨kop, kx, ky, kkv, kks, rfl, f1, f2, f3, f4, f5, f6⟩ := IH (Rows.uptoBulk (D i)) (by omega) (D i) (Nat.le_refl _) (by omega) n2 cs' (Pl i) h2
        rw [cellsRF] at h1
        obtain ⟨_, hlen, hcell⟩ := World.cells?_some h1
        have c0 := hcell 0 (by omega)
        have c1 := hcell 1 (by omega)
        have c2 := hcell 2 (by omega)
        have c3 := hcell 3 (by omega)
        rw [add_add] at c0 c1 c2 c3
        have hsp : a.spot = none := hspot (by omega)
        obtain ⟨ab, ao, asp⟩ := a
        simp only at hsp
        subst hsp
        rw [add_plain] at c0 c1 c2 c3
        refine ⟨.mk ab (ao + i * 4) kop kx ky kkv kks, rfl, rfl, .mk (by simpa using c0) (by simpa [Nat.add_assoc] using c1) (by simpa [Nat.add_assoc] using c2) (by simpa [Nat.add_assoc] using c3) f1 f2, .mk (by omega) f3, by rw [Lf.er]; exact f5, by rw [Lf.er]; exact f6, rfl⟩
      obtain ⟨q, hq⟩ := choose_lt each
      have hsum := bulk_sum q D (List.range len) (fun i hi => (hq i (List.mem_range.1 hi)).2.2.2.2.2.1)
      rw [List.length_range] at hsum
      have mem : ∀ k ∈ (List.range len).map q, ∃ i, i < len ∧ q i = k := by
        intro k hk
        obtain ⟨i, hi, e⟩ := List.mem_map.1 hk
        exact ⟨i, List.mem_range.1 hi, e⟩
      refine ⟨op, x, y, .slice (some a) len cap, (List.range len).map q, rfl, ⟨some a, cap, by simp, by simpa using hlc, ?_⟩, ?_, ?_, ?_, .mk (r64_wf w1) (r64_wf w2) ?_, ?_⟩
      · by_cases h0 : len = 0
        · subst h0; exact Or.inl rfl
        · refine Or.inr ⟨a.block, a.off, ?_, fun j t hj => ?_⟩
          · have := (hq 0 (by omega)).2.2.2.2.2.2
            obtain ⟨ab, ao, asp⟩ := a
            simp only at this
            subst this
            rfl
          · have hj' : j < len := by
              have := (List.getElem?_eq_some_iff.1 hj).1
              simpa using this
            have ht : t = q j := by simp [hj'] at hj; exact hj.symm
            subst ht
            exact ⟨(hq j hj').1, (hq j hj').2.1⟩
      · intro k hk
        obtain ⟨i, hi, rfl⟩ := mem k hk
        exact (hq i hi).2.2.1
      · intro k hk
        obtain ⟨i, hi, rfl⟩ := mem k hk
        exact (hq i hi).2.2.2.1
      · simp
        omega
      · intro k hk
        obtain ⟨t, ht, rfl⟩ := List.mem_map.1 hk
        obtain ⟨i, hi, rfl⟩ := mem t ht
        exact (hq i hi).2.2.2.2.1
      · rw [szF]
        split
        · omega
        · have e : (((List.range len).map q).map Lf.er).map szF = ((List.range len).map q).map fun t => szF t.er := by rw [List.map_map]; rfl
          rw [e]
          simp only [List.length_map, List.length_range]
          omega

end Go.Proofs.Ytinphcnknionmab

namespace Go.Proofs.Ytinphcnknionmab
open Go.RowKit Go.Maps

def GvT (t : Lf) : Prop := ∀ (w : World), Sml t → KidsIn t.kv t.kids → (∀ k ∈ t.kids, LayC w k) →
  Calls Try.prog 6 #[.agg #[.int .i64 t.op, .int .i64 t.x, .int .i64 t.y, t.kv]] w fun e w' => ∃ v, e = .returned v ∧ FVal w.heap.size w' v t.er ∧ Below w.heap.size w w'

theorem cell_four (w : World) (a b c d : Value) (ty : TypeId) : ∀ j u, [a, b, c, d][j]? = some u → (w.alloc (.cells #[a, b, c, d] ty)).cell? ((⟨w.heap.size, 0, none⟩ : Addr).add j) = some u := by
  intro j u hj
  have hn := made_row w #[a, b, c, d] ty
  match j, hj with
  | 0, hj => simp at hj; subst hj; exact hn.cell (i := 0) (by simp)
  | 1, hj => simp at hj; subst hj; exact hn.cell (i := 1) (by simp)
  | 2, hj => simp at hj; subst hj; exact hn.cell (i := 2) (by simp)
  | 3, hj => simp at hj; subst hj; exact hn.cell (i := 3) (by simp)

/-- What Given goes round with. -/
structure GvAt (w W : World) (op x y : Int) (kv : Value) (v : Value) (fs : List Fo) : Prop where
  below : Below w.heap.size w W
  c0 : W.cell? ⟨w.heap.size, 0, none⟩ = some (.int .i64 op)
  c1 : W.cell? ⟨w.heap.size, 1, none⟩ = some (.int .i64 x)
  c2 : W.cell? ⟨w.heap.size, 2, none⟩ = some (.int .i64 y)
  c3 : W.cell? ⟨w.heap.size, 3, none⟩ = some kv
  res : W.rowIs (w.heap.size + 1) 31 4 (fun j => if j = 3 then .slice none 0 0 else .int .i64 0)
  row : ∃ cs : List Lf, cs.map Lf.er = fs ∧ KR (w.heap.size + 2) W v cs

theorem GvAt.next {w W w5 w8 : World} {op x y : Int} {kv v v8 : Value} {fs fs' : List Fo} (h : GvAt w W op x y kv v fs) (hB : Below W.heap.size W w5) (hgrow : w5.grownBy w8 v.ownBlock) (hrow : ∃ cs : List Lf, cs.map Lf.er = fs' ∧ KR (w.heap.size + 2) w8 v8 cs) : GvAt w w8 op x y kv v8 fs' := by
  obtain ⟨cs, _, hkr⟩ := h.row
  have hv : ∀ b, v.ownBlock = some b → w.heap.size + 2 ≤ b ∧ b < W.heap.size := fun b hb => ownsRow_at hkr.1 hb
  have nm : ∀ k, k < w.heap.size + 2 → k < W.heap.size → w8.heap[k]? = W.heap[k]? := fun k hk hlt => (hgrow.block k (Nat.lt_of_lt_of_le hlt hB.size) (fun e => by have := (hv k e.symm).1; omega)).trans (hB.block k hlt)
  have hlt := World.block_lt_of_cell? W _ h.c0
  have cc : ∀ i, w8.cell? ⟨w.heap.size, i, none⟩ = W.cell? ⟨w.heap.size, i, none⟩ := fun i => World.cell?_of_block (nm w.heap.size (by omega) hlt)
  refine ⟨?_, (cc 0).trans h.c0, (cc 1).trans h.c1, (cc 2).trans h.c2, (cc 3).trans h.c3, h.res.of_block (nm _ (by omega) h.res.lt), hrow⟩
  have b5 : Below w.heap.size w w5 := h.below.trans (hB.mono h.below.size)
  exact b5.trans ⟨hgrow.os, hgrow.tape, hgrow.output, hgrow.size, fun k hk => hgrow.block k (by have := b5.size; omega) (fun e => by have := (hv k e.symm).1; omega)⟩

set_option maxRecDepth 100000 in
set_option maxHeartbeats 2000000 in
theorem gvt_step (t : Lf) (ih : ∀ k ∈ t.kids, GvT k) : GvT t := by
  intro w hsz hk hks
  obtain ⟨b, o, op, x, y, kv, kids⟩ := t
  simp only [Lf.op, Lf.x, Lf.y, Lf.kv, Lf.kids, Lf.er] at ih hk hks ⊢
  obtain ⟨hnb, hsz2⟩ : kids.length ≤ 1048576 ∧ ∀ k ∈ kids, Sml k := by cases hsz with | mk h1 h2 => exact ⟨h1, h2⟩
  obtain ⟨a, cap, rfl, hcap, hkk⟩ := hk
  have hfl : kids.map Lf.er = (kids.map Lf.er).take kids.length := by rw [List.take_of_length_le (by simp)]
  rw [hfl]
  -- at each place: the cells of the Kid, and what Given says of it
  have KD : Hid (∀ (i : Nat), i < kids.length → ∃ k kb ko sa sn sc, a = some ⟨kb, ko, none⟩ ∧ (kids.map Lf.er).take (i + 1) = (kids.map Lf.er).take i ++ [Lf.er k] ∧ ∀ W, Below w.heap.size w W → W.cell? ⟨kb, ko + i * 4, none⟩ = some (.int .i64 (Lf.op k)) ∧ W.cell? ⟨kb, ko + i * 4 + 1, none⟩ = some (.int .i64 (Lf.x k)) ∧ W.cell? ⟨kb, ko + i * 4 + 2, none⟩ = some (.int .i64 (Lf.y k)) ∧ W.cell? ⟨kb, ko + i * 4 + 3, none⟩ = some (.slice sa sn sc) ∧
      Calls Try.prog 6 #[.agg #[.int .i64 (Lf.op k), .int .i64 (Lf.x k), .int .i64 (Lf.y k), .slice sa sn sc]] W fun e w' => ∃ v, e = .returned v ∧ FVal W.heap.size w' v (Lf.er k) ∧ Below W.heap.size W w') := by
    intro i hi
    have g1 : kids[i]? = some kids[i] := List.getElem?_eq_getElem hi
    obtain ⟨kb, ko, rfl, ha⟩ : ∃ kb ko, a = some ⟨kb, ko, none⟩ ∧ ∀ (j : Nat) (t : Lf), kids[j]? = some t → t.b = kb ∧ t.o = ko + j * 4 := by
      rcases hkk with e | h
      · rw [e] at hi; simp at hi
      · exact h
    have m1 := List.mem_of_getElem? g1
    have htk : (kids.map Lf.er).take (i + 1) = (kids.map Lf.er).take i ++ [Lf.er kids[i]] := by
      rw [List.take_add_one, List.getElem?_map, g1]; rfl
    generalize kids[i] = k at *
    have d1 := ha i k g1
    obtain ⟨kb0, ko0, kop, kx, ky, kkv, kks⟩ := k
    simp only [Lf.b, Lf.o] at d1
    obtain ⟨rfl, rfl⟩ := d1
    have hi1 := ih _ m1
    have hz1 := hsz2 _ m1
    obtain ⟨sa, sc, rfl, s1⟩ : KidsIn kkv kks := by cases hks _ m1 with | mk _ _ _ _ h _ => exact h
    refine ⟨.mk kb0 (ko + i * 4) kop kx ky (.slice sa kks.length sc) kks, _, _, sa, kks.length, sc, rfl, htk, fun W hB => ?_⟩
    cases (hks _ m1).kept hB with
    | mk q0 q1 q2 q3 q4 q5 => exact ⟨q0, q1, q2, q3, hi1 W hz1 q4 q5⟩
  clear hkk hks ih hcap hsz hsz2 hfl
  generalize kids.map Lf.er = fs at *
  generalize kids.length = n at *
  go_enter Try.func6, Try.ntmps6
  go_wp2_with fail
  have G0 : GvAt w ((w.alloc (.cells #[.int .i64 op, .int .i64 x, .int .i64 y, .slice a n cap] 26)).alloc (.cells #[.int .i64 0, .int .i64 0, .int .i64 0, .slice none 0 0] 31)) op x y (.slice a n cap) (.slice none 0 0) (fs.take 0) := by
    have hz1 : (w.alloc (.cells #[.int .i64 op, .int .i64 x, .int .i64 y, .slice a n cap] 26)).heap.size = w.heap.size + 1 := by simp
    have R1 := made_row w #[.int .i64 op, .int .i64 x, .int .i64 y, .slice a n cap] 26
    have R2 := made_row (w.alloc (.cells #[.int .i64 op, .int .i64 x, .int .i64 y, .slice a n cap] 26)) #[.int .i64 0, .int .i64 0, .int .i64 0, .slice none 0 0] 31
    rw [hz1] at R2
    have R1' := R1.of_block (Below.heap_alloc (w.alloc (.cells #[.int .i64 op, .int .i64 x, .int .i64 y, .slice a n cap] 26)) (.cells #[.int .i64 0, .int .i64 0, .int .i64 0, .slice none 0 0] 31) _ R1.lt)
    refine ⟨((Below.refl _ w).alloc (Nat.le_refl _) _).alloc (by simp) _, R1'.cell (i := 0) (by simp), R1'.cell (i := 1) (by simp), R1'.cell (i := 2) (by simp), R1'.cell (i := 3) (by simp), World.rowIs.congr R2 ?_, ⟨[], by simp, KR.nil _ _⟩⟩
    intro j hj
    have hj' : j < 4 := hj
    rcases (by omega : j = 0 ∨ j = 1 ∨ j = 2 ∨ j = 3) with rfl | rfl | rfl | rfl <;> rfl
  generalize (w.alloc (.cells #[.int .i64 op, .int .i64 x, .int .i64 y, .slice a n cap] 26)).alloc (.cells #[.int .i64 0, .int .i64 0, .int .i64 0, .slice none 0 0] 31) = w2 at G0 ⊢
  go_loopw [3, 4, 5] (fun t3 t4 _ W => ∃ k : Nat, k ≤ n ∧ t4 = .int .i64 (k : Int) ∧ ∃ va vl vc, t3 = .slice va vl vc ∧ Hid (GvAt w W op x y (.slice a n cap) (.slice va vl vc) (fs.take k))) (fun _ t4 _ _ => n - (intOf t4).toNat)
  case atStart => exact ⟨0, by omega, rfl, none, 0, 0, rfl, G0⟩
  case round =>
    obtain ⟨k, hk, rfl, va, vl, vc, rfl, GA⟩ := hrel
    have y3 := GA.out.c3
    by_cases hk2 : k < n
    · have dk : decide ((k : Int) < (n : Int)) = true := decide_eq_true (by omega)
      obtain ⟨t, kb, ko, sa, sn, sc, rfl, htk, hh⟩ := KD.out k hk2
      obtain ⟨q0, q1, q2, q3, SM⟩ := hh wr GA.out.below
      have wrp : IntKind.i64.wrap ((k : Int) + 1) = (k : Int) + 1 := by rw [IntKind.wrap_i64]; omega
      obtain ⟨cs, hcs, hkr⟩ := GA.out.row
      obtain ⟨_, _, hform⟩ := hkr.form
      have hvl : vl = cs.length := by simp at hform; exact hform.2.1
      have hcl : cs.length ≤ k := by
        have := congrArg List.length hcs
        simp at this
        omega
      subst hvl
      have HT : Hid (_) := htk
      clear hh KD htk hform
      obtain ⟨i0, hi0, hz0, hz1, hz2⟩ := info_parts infoForm
      generalize hte : t.er = te at *
      clear hte
      generalize t.op = top at *
      generalize t.x = tx at *
      generalize t.y = ty at *
      go_wp2_with (first | (go_at_call 6; refine SM.mono ?_; rintro e w3 ⟨v3, rfl, F3, B3⟩; obtain ⟨op3, x3, y3', a3, n3, c3, rfl⟩ := F3.form) | (at_builtin; refine Aside.out ?_))
      delta Aside
      have BA := ((Below.refl w3.heap.size w3).alloc (Nat.le_refl _) (.cells #[.int .i64 op3, .int .i64 x3, .int .i64 y3', .slice a3 n3 c3] 31)).alloc (by simp) (.cells #[.int .i64 op3, .int .i64 x3, .int .i64 y3', .slice a3 n3 c3] 31)
      have hz3 : (w3.alloc (.cells #[.int .i64 op3, .int .i64 x3, .int .i64 y3', .slice a3 n3 c3] 31)).heap.size = w3.heap.size + 1 := by simp
      have C4 := cell_four (w3.alloc (.cells #[.int .i64 op3, .int .i64 x3, .int .i64 y3', .slice a3 n3 c3] 31)) (.int .i64 op3) (.int .i64 x3) (.int .i64 y3') (.slice a3 n3 c3) 31
      rw [hz3] at C4
      have B5 := B3.trans (BA.mono B3.size)
      have K5 := hkr.below B5
      have hb5 := BA.size
      generalize (w3.alloc (.cells #[.int .i64 op3, .int .i64 x3, .int .i64 y3', .slice a3 n3 c3] 31)).alloc (.cells #[.int .i64 op3, .int .i64 x3, .int .i64 y3', .slice a3 n3 c3] 31) = w5 at BA C4 B5 K5 hb5 ⊢
      have hs3 := B3.size
      have hsw : w.heap.size + 2 ≤ wr.heap.size := by have := GA.out.res.lt; omega
      refine wpList_append_own_at _ rfl _ _ 29 rfl (w.heap.size + 2) 31 i0 _ 4 48 Try.underlying29 hi0 hz0 hz1 hz2 rfl (by decide) _ _ _ rfl K5.1 ⟨_, 0, none⟩ 1 1 [.int .i64 op3, .int .i64 x3, .int .i64 y3', .slice a3 n3 c3] rfl rfl C4 (by simp [Value.oneCell']) (by unfold maxLen; omega) (by omega) (by omega) ?_
      intro v8 w8 hown8 hgrow8 _ hat8
      obtain ⟨va8, vc8, hv8⟩ := row_formG hown8
      subst hv8
      have HT' := HT.out
      obtain ⟨op4, x4, y4, kv4, ks4, e4, h41, h42, h43⟩ := F3
      have hnew : KR (w.heap.size + 2) w8 (.slice va8 (cs.length + 1) vc8) (cs ++ [.mk 0 0 op4 x4 y4 kv4 ks4]) := by
        simp at e4
        obtain ⟨rfl, rfl, rfl, rfl⟩ := e4
        exact hkr.push hsw B5 h41 (fun k hk => (h42 k hk).keep (fun i _ _ _ hi => (BA.block i (Array.getElem?_eq_some_iff.1 hi).1).trans hi)) hown8 hgrow8 hat8
      have G8 : Hid (_) := GA.out.next B5 hgrow8 (fs' := fs.take (k + 1)) ⟨_, by rw [HT', List.map_append, hcs, h43]; simp [Lf.er], hnew⟩
      clear hnew h41 h42 h43 e4 HT' hown8 hgrow8 hat8 K5 C4 BA B5 hkr hcs SM q0 q1 q2 q3
      go_wp2_with fail
      exact ⟨⟨k + 1, hk2, by simp, _, _, _, rfl, G8⟩, by simp [intOf]; omega⟩
    · have dk : decide ((k : Int) < (n : Int)) = false := decide_eq_false (by omega)
      obtain rfl : k = n := by omega
      have y0 := GA.out.c0
      have y1 := GA.out.c1
      have y2 := GA.out.c2
      have r0 := GA.out.res.cell (i := 0) (by omega)
      have r1 := GA.out.res.cell (i := 1) (by omega)
      have r2 := GA.out.res.cell (i := 2) (by omega)
      have r3 := GA.out.res.cell (i := 3) (by omega)
      have f0 := GA.out.res.frozen 0
      have f1 := GA.out.res.frozen 1
      have f2 := GA.out.res.frozen 2
      have f3 := GA.out.res.frozen 3
      simp only [Nat.reduceEqDiff, if_false, if_true] at r0 r1 r2 r3
      clear KD
      go_wp2_with fail
      obtain ⟨cs, hcs, hkr⟩ := GA.out.row
      have D := hkr.done op x y
      rw [hcs] at D
      have b4 := GA.out.below
      have R4 := (((GA.out.res.set 0 (.int .i64 op)).set 1 (.int .i64 x)).set 2 (.int .i64 y)).set 3 (.slice va vl vc)
      have K4 : FKeep (w.heap.size + 2) wr ((((wr.setCell ⟨w.heap.size + 1, 0, none⟩ (.int .i64 op)).setCell ⟨w.heap.size + 1, 1, none⟩ (.int .i64 x)).setCell ⟨w.heap.size + 1, 2, none⟩ (.int .i64 y)).setCell ⟨w.heap.size + 1, 3, none⟩ (.slice va vl vc)) :=
        (((FKeep.setCell wr (by omega) 0 _).trans (FKeep.setCell _ (by omega) 1 _)).trans (FKeep.setCell _ (by omega) 2 _)).trans (FKeep.setCell _ (by omega) 3 _)
      have b5 : Below w.heap.size w ((((wr.setCell ⟨w.heap.size + 1, 0, none⟩ (.int .i64 op)).setCell ⟨w.heap.size + 1, 1, none⟩ (.int .i64 x)).setCell ⟨w.heap.size + 1, 2, none⟩ (.int .i64 y)).setCell ⟨w.heap.size + 1, 3, none⟩ (.slice va vl vc)) :=
        (((b4.setCell (p := ⟨w.heap.size + 1, 0, none⟩) (by show w.heap.size ≤ w.heap.size + 1; omega) _).setCell (p := ⟨w.heap.size + 1, 1, none⟩) (by show w.heap.size ≤ w.heap.size + 1; omega) _).setCell (p := ⟨w.heap.size + 1, 2, none⟩) (by show w.heap.size ≤ w.heap.size + 1; omega) _).setCell (p := ⟨w.heap.size + 1, 3, none⟩) (by show w.heap.size ≤ w.heap.size + 1; omega) _
      have D4 := (FVal.keep K4 D).mono (B' := w.heap.size) (by omega)
      generalize ((((wr.setCell ⟨w.heap.size + 1, 0, none⟩ (.int .i64 op)).setCell ⟨w.heap.size + 1, 1, none⟩ (.int .i64 x)).setCell ⟨w.heap.size + 1, 2, none⟩ (.int .i64 y)).setCell ⟨w.heap.size + 1, 3, none⟩ (.slice va vl vc)) = wz at R4 D4 b5 ⊢
      have z0 : wz.cell? ⟨w.heap.size + 1, 0, none⟩ = some (.int .i64 op) := by simpa using R4.cell (i := 0) (by omega)
      have z1 : wz.cell? ⟨w.heap.size + 1, 1, none⟩ = some (.int .i64 x) := by simpa using R4.cell (i := 1) (by omega)
      have z2 : wz.cell? ⟨w.heap.size + 1, 2, none⟩ = some (.int .i64 y) := by simpa using R4.cell (i := 2) (by omega)
      have z3 : wz.cell? ⟨w.heap.size + 1, 3, none⟩ = some (.slice va vl vc) := by simpa using R4.cell (i := 3) (by omega)
      refine ⟨rfl, .agg #[.int .i64 op, .int .i64 x, .int .i64 y, .slice va vl vc], by simp [results, Try.results6, go_sem, z0, z1, z2, z3], _, rfl, D4, b5⟩

/-- Given makes a Form of the program's. -/
theorem gvt : ∀ t : Lf, GvT t
  | .mk b o op x y kv kids => gvt_step _ fun k hk => by
    have : k ∈ kids := hk
    have := List.sizeOf_lt_of_mem this
    exact gvt k
termination_by t => SizeOf.sizeOf t
decreasing_by simp; omega

end Go.Proofs.Ytinphcnknionmab

namespace Go.Proofs.Ytinphcnknionmab
open Go.RowKit Go.Maps

/-- What reading answers: a value, or an error. -/
def Res.bind {α β : Type} (r : Res α) (g : α → Nat → List Tm → Res β) : Res β := match r with
  | .ok x i l => g x i l
  | .bad e p l => .bad e p l

def gEqu (s : ByteArray) (i : Nat) (l : List Tm) : Res Fo :=
  (lTerm s i l).bind fun a k l1 =>
    if stands s (if byt s k = 33 then k + 1 else k) 61 then
      (lTerm s (bl s ((if byt s k = 33 then k + 1 else k) + 1)) l1).bind fun b k2 l2 => .ok (if byt s k = 33 then .neg (.eq a b) else .eq a b) k2 l2
    else .bad 2 (if byt s k = 33 then k + 1 else k) l1

def sgn (lev : Nat) : Nat := if lev = 1 then 124 else 38
def opn (lev : Nat) : Int := if lev = 1 then 3 else 2

mutual
/-- form, or, and, not: the levels 0 to 3. -/
def gp (s : ByteArray) : Nat → Nat → Nat → Nat → List Tm → Res Fo
  | 0, _, _, _, l => .bad 0 0 l
  | f + 1, lev, d, i, l =>
    if lev = 0 then
      (gp s f 1 d i l).bind fun a k l1 =>
        if byt s k = 45 then
          if stands s (k + 1) 62 then (gp s f 0 d (bl s (k + 1 + 1)) l1).bind fun b k2 l2 => .ok (.two 4 a b) k2 l2
          else .bad 2 (k + 1) l1
        else .ok a k l1
    else if lev = 3 then
      if byt s i = 33 then
        if 20 ≤ d then .bad 4 i l else (gp s f 3 (d + 1) (bl s (i + 1)) l).bind fun a k l1 => .ok (.neg a) k l1
      else if byt s i = 40 then
        if 20 ≤ d then .bad 4 i l else (gp s f 0 (d + 1) (bl s (i + 1)) l).bind fun a k l1 => if stands s k 41 then .ok a (bl s (k + 1)) l1 else .bad 2 k l1
      else gEqu s i l
    else (gp s f (lev + 1) d i l).bind fun a k l1 => gl s f lev d k l1 a
/-- The rest of a row. -/
def gl (s : ByteArray) : Nat → Nat → Nat → Nat → List Tm → Fo → Res Fo
  | 0, _, _, _, l, _ => .bad 0 0 l
  | f + 1, lev, d, k, l, a =>
    if byt s k = sgn lev then (gp s f (lev + 1) d (bl s (k + 1)) l).bind fun b k2 l2 => gl s f lev d k2 l2 (.two (opn lev) a b)
    else .ok a k l
end

theorem byt_in {s : ByteArray} {i c : Nat} (h : byt s i = c) (hc : c ≠ 0) : i < s.size := by
  refine Decidable.byContradiction fun hn => ?_
  simp [byt, hn] at h
  exact hc h.symm
theorem stands_of {s : ByteArray} {i c : Nat} (h : byt s i = c) (hc : c ≠ 0) : stands s i c = true := stands_true (byt_in h hc) h

theorem gEqu_ok {s : ByteArray} {i : Nat} {l : List Tm} (hi : i ≤ s.size) {f : Fo} {k : Nat} {l' : List Tm} (h : gEqu s i l = .ok f k l') : i < k ∧ k ≤ s.size := by
  unfold gEqu at h
  cases h1 : lTerm s i l with
  | bad e p l1 => rw [h1] at h; simp [Res.bind] at h
  | ok a k1 l1 =>
    obtain ⟨b1, b2⟩ := lTerm_ok hi h1
    rw [h1] at h
    simp only [Res.bind] at h
    have hq1 : k1 ≤ (if byt s k1 = 33 then k1 + 1 else k1) := by split <;> omega
    generalize (if byt s k1 = 33 then k1 + 1 else k1) = q at h hq1
    cases hs : stands s q 61 with
    | false => rw [hs] at h; simp at h
    | true =>
      rw [hs, if_pos rfl] at h
      have hk := (of_decide_eq_true hs).1
      have hbl := bl_le (s := s) (i := q + 1) (by omega)
      have hbg := bl_ge s (q + 1)
      cases h2 : lTerm s (bl s (q + 1)) l1 with
      | bad e p l2 => rw [h2] at h; simp at h
      | ok b k2 l2 =>
        obtain ⟨c1, c2⟩ := lTerm_ok hbl h2
        rw [h2] at h
        simp only at h
        injection h with _ e2 _
        omega

/-- Places grow. -/
theorem gp_ok (s : ByteArray) : ∀ f : Nat, (∀ lev d i l a k l', i ≤ s.size → gp s f lev d i l = .ok a k l' → i < k ∧ k ≤ s.size) ∧
    (∀ lev d i l a b k l', i ≤ s.size → gl s f lev d i l a = .ok b k l' → i ≤ k ∧ k ≤ s.size)
  | 0 => ⟨fun _ _ _ _ _ _ _ _ e => (by rw [gp] at e; cases e), fun _ _ _ _ _ _ _ _ _ e => (by rw [gl] at e; cases e)⟩
  | f + 1 => by
    obtain ⟨IP, IL⟩ := gp_ok s f
    constructor
    · intro lev d i l a k l' hi h
      rw [gp] at h
      split at h
      · cases h1 : gp s f 1 d i l with
        | bad e p l1 => rw [h1] at h; simp [Res.bind] at h
        | ok a1 k1 l1 =>
          obtain ⟨b1, b2⟩ := IP _ _ _ _ _ _ _ hi h1
          rw [h1] at h
          simp only [Res.bind] at h
          split at h
          · split at h
            · next hs =>
              have hk := (of_decide_eq_true hs).1
              have hbl := bl_le (s := s) (i := k1 + 1 + 1) (by omega)
              have hbg := bl_ge s (k1 + 1 + 1)
              split at h
              · next b k2 l2 h2 =>
                obtain ⟨c1, c2⟩ := IP _ _ _ _ _ _ _ hbl h2
                injection h with _ e2 _
                omega
              · cases h
            · cases h
          · injection h with _ e2 _
            omega
      · split at h
        · split at h
          · next h33 =>
            have hi2 := byt_in h33 (by omega)
            have hbl := bl_le (s := s) (i := i + 1) (by omega)
            have hbg := bl_ge s (i + 1)
            split at h
            · cases h
            · cases h1 : gp s f 3 (d + 1) (bl s (i + 1)) l with
              | bad e p l1 => rw [h1] at h; simp [Res.bind] at h
              | ok a1 k1 l1 =>
                obtain ⟨b1, b2⟩ := IP _ _ _ _ _ _ _ hbl h1
                rw [h1] at h
                simp only [Res.bind] at h
                injection h with _ e2 _
                omega
          · split at h
            · next h40 =>
              have hi2 := byt_in h40 (by omega)
              have hbl := bl_le (s := s) (i := i + 1) (by omega)
              have hbg := bl_ge s (i + 1)
              split at h
              · cases h
              · cases h1 : gp s f 0 (d + 1) (bl s (i + 1)) l with
                | bad e p l1 => rw [h1] at h; simp [Res.bind] at h
                | ok a1 k1 l1 =>
                  obtain ⟨b1, b2⟩ := IP _ _ _ _ _ _ _ hbl h1
                  rw [h1] at h
                  simp only [Res.bind] at h
                  split at h
                  · next hs =>
                    have hk := (of_decide_eq_true hs).1
                    have hbl2 := bl_le (s := s) (i := k1 + 1) (by omega)
                    have hbg2 := bl_ge s (k1 + 1)
                    injection h with _ e2 _
                    omega
                  · cases h
            · exact gEqu_ok hi h
        · cases h1 : gp s f (lev + 1) d i l with
          | bad e p l1 => rw [h1] at h; simp [Res.bind] at h
          | ok a1 k1 l1 =>
            obtain ⟨b1, b2⟩ := IP _ _ _ _ _ _ _ hi h1
            rw [h1] at h
            simp only [Res.bind] at h
            have := IL _ _ _ _ _ _ _ _ b2 h
            omega
    · intro lev d i l a b k l' hi h
      rw [gl] at h
      split at h
      · next hb =>
        have hi2 := byt_in hb (by unfold sgn; split <;> omega)
        have hbl := bl_le (s := s) (i := i + 1) (by omega)
        have hbg := bl_ge s (i + 1)
        cases h1 : gp s f (lev + 1) d (bl s (i + 1)) l with
        | bad e p l1 => rw [h1] at h; simp [Res.bind] at h
        | ok a1 k1 l1 =>
          obtain ⟨b1, b2⟩ := IP _ _ _ _ _ _ _ hbl h1
          rw [h1] at h
          simp only [Res.bind] at h
          have := IL _ _ _ _ _ _ _ _ b2 h
          omega
      · injection h with _ e2 _
        omega

end Go.Proofs.Ytinphcnknionmab
