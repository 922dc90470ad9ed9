/- Package why: Why, what it keeps to. Package logic: the parser's small functions: next, skipBlanks, must, refuse, isOfName. Package logic: must, isOfName, termEnd. Package logic: termEnd. -/
import Derived.Test.YtlehlgipbhfioaaGreatP24
import Derived.Test.YtlehlgipbhfioaaGreatP11
import Derived.Test.YtlehlgipbhfioaaGreatP03
import Derived.Lib.ConvBytes
import Derived.Deep.RegionWith
namespace Go.Proofs.YtlehlgipbhfioaaGreat
open Go.RowKit Go.Maps

def slLenW : Value → Nat
  | .slice _ n _ => n
  | _ => 0

/-- A closure, and two rows of numbers apart from it. -/
structure Yz (w W : World) (l : List Tm) (c : Ks) (P : List (Nat × Nat)) (needed rest : List Nat) (nv rv : Value) : Prop where
  cq : Cq W w.heap.size l c P
  nrow : W.ownsRow w.heap.size 3 1 nv needed.length (natC needed)
  rrow : W.ownsRow w.heap.size 3 1 rv rest.length (natC rest)
  farN : ∀ j, nv.ownBlock = some j → ¬ c.All j
  farR : ∀ j, rv.ownBlock = some j → ¬ c.All j
  apart : ∀ j, nv.ownBlock = some j → rv.ownBlock ≠ some j
  bel : Kept0 w W

theorem Yz.moved {w W W' : World} {l : List Tm} {c c' : Ks} {P P' : List (Nat × Nat)} {needed rest : List Nat} {nv rv : Value} (h : Yz w W l c P needed rest nv rv) (K : Kept c.All W W') (hc : Cq W' w.heap.size l c' P') (hA : ∀ k, c'.All k → c.All k ∨ W.heap.size ≤ k) : Yz w W' l c' P' needed rest nv rv := by
  refine ⟨hc, ownsRow_blockC h.nrow (fun j hj => K.block j (h.nrow.lt j hj).2 (h.farN j hj)), ownsRow_blockC h.rrow (fun j hj => K.block j (h.rrow.lt j hj).2 (h.farR j hj)), fun j hj hA' => ?_, fun j hj hA' => ?_, h.apart, h.bel.into K (fun i hi => .inr (h.cq.cl.all_ge hi))⟩
  · rcases hA j hA' with e | e
    · exact h.farN j hj e
    · have := (h.nrow.lt j hj).2; omega
  · rcases hA j hA' with e | e
    · exact h.farR j hj e
    · have := (h.rrow.lt j hj).2; omega
theorem Yz.kept0 {w W W' : World} {l : List Tm} {c : Ks} {P : List (Nat × Nat)} {needed rest : List Nat} {nv rv : Value} (h : Yz w W l c P needed rest nv rv) (K : Kept0 W W') : Yz w W' l c P needed rest nv rv :=
  h.moved (Kept.mono K (fun _ _ e => e.elim)) (h.cq.kept0 K) (fun _ hk => .inl hk)
theorem Yz.cut {w W : World} {l : List Tm} {c : Ks} {P : List (Nat × Nat)} {needed rest : List Nat} {nv : Value} {g cap : Nat} (h : Yz w W l c P needed rest nv (.slice (some ⟨g, 0, none⟩) rest.length cap)) (i : Nat) (hi : i ≤ rest.length) : Yz w W l c P needed (rest.take i) nv (.slice (some ⟨g, 0, none⟩) i cap) := by
  have hr := ownsRow_cut h.rrow rfl hi
  rw [Nat.mul_one] at hr
  have e : (rest.take i).length = i := by rw [List.length_take]; omega
  refine ⟨h.cq, h.nrow, ?_, h.farN, h.farR, h.apart, h.bel⟩
  rw [e]
  have e2 : natC (rest.take i) = (natC rest).take i := by simp [natC, List.map_take]
  rw [e2]
  exact hr
theorem Yz.note {w W wa w1 : World} {l : List Tm} {c : Ks} {P : List (Nat × Nat)} {needed rest : List Nat} {nv rv v' : Value} {n : Nat} (h : Yz w W l c P needed rest nv rv) (K0 : Kept0 W wa)
    (hown : w1.ownsRow w.heap.size 3 1 v' (needed.length + 1) (natC needed ++ [.int .i64 (n : Int)])) (hgrow : wa.grownBy w1 nv.ownBlock) (hloc : v'.ownBlock = nv.ownBlock ∨ ∀ k, v'.ownBlock = some k → wa.heap.size ≤ k) : Yz w w1 l c P (needed ++ [n]) rest v' rv := by
  have K1 : Kept (fun j => nv.ownBlock = some j) W w1 := Kept.grown (Kept.mono K0 (fun _ _ e => e.elim)) hgrow (fun _ e => e)
  refine ⟨⟨h.cq.cl.keep K1 (fun j hj e => h.farN j e hj), h.cq.past⟩, ?_, ownsRow_blockC h.rrow (fun j hj => K1.block j (h.rrow.lt j hj).2 (fun e => h.apart j e hj)), fun j hj hA => ?_, h.farR, fun j hj e2 => ?_, h.bel.into K1 (fun i hi => .inr (h.nrow.lt i hi).1)⟩
  · rw [List.length_append, ← natC_app]
    exact hown
  · rcases hloc with e | e
    · exact h.farN j (e ▸ hj) hA
    · have h1 := e j hj
      have h2 := h.cq.cl.all_lt hA
      have h3 := K0.size
      omega
  · rcases hloc with e | e
    · exact h.apart j (e ▸ hj) e2
    · have h1 := e j hj
      have h2 := (h.rrow.lt j e2).2
      have h3 := K0.size
      omega

/-- The pair with the number n is told. -/
theorem Yz.tell {w W : World} {l : List Tm} {ps : List (Int × Int)} {c : Ks} {needed rest : List Nat} {nv rv : Value} (h : Yz w W l c (Wm.prs l.length ps needed) needed rest nv rv) {n : Nat} {p : Int × Int} (hp : ps[n]? = some p) (hin : (inB l.length p.1 && inB l.length p.2) = true) (hb : (needed.length + 1) * 8 ≤ 140737488355328) :
    Calls Tryz.prog 7 #[.pointer (some ⟨c.pc, 0, none⟩), .int .i64 p.1, .int .i64 p.2] W fun e W' => (∃ x, e = .returned (.int .i64 x)) ∧ ∃ c2 : Ks, c2.pc = c.pc ∧ Yz w W' l c2 (Wm.prs l.length ps (needed ++ [n])) needed rest nv rv := by
  have hq : (ps[n]?).bind (Wm.okP l.length) = some (p.1.toNat, p.2.toNat) := by rw [hp]; simp [Wm.okP, hin]
  have hl := Wm.prs_len l.length ps needed
  refine (qMerge_in W w.heap.size l c _ h.cq p.1 p.2 (by omega)).mono ?_
  rintro e W' ⟨rfl, c2, C2, K, hpc, hA⟩
  refine ⟨⟨_, rfl⟩, c2, hpc, h.moved (Kept.mono K (fun _ _ e => e.all)) ?_ hA⟩
  rw [Wm.prs_snoc hq]
  rw [mergeP, hin, if_pos rfl] at C2
  exact C2

/-- Of which Why answers. -/
structure Fits (l : List Tm) (ps : List (Int × Int)) (x y : Int) (ns : List Nat) : Prop where
  up : ns.Pairwise (· < ·)
  lt : ∀ n, n ∈ ns → n < ps.length
  ok : ∀ n, n ∈ ns → ∃ q, (ps[n]?).bind (Wm.okP l.length) = some q
  fol : cgB l (Wm.prs l.length ps ns) x y = true
  less : ∀ m, m ∈ ns → ∀ xs : List Nat, (∀ k, k ∈ xs → k ∈ ns ∧ k ≠ m) → cgB l (Wm.prs l.length ps xs) x y = false

theorem cgB_fol {l : List Tm} {ps : List (Int × Int)} {x y : Int} (hx : inB l.length x = true) (hy : inB l.length y = true) (ns : List Nat) : cgB l (Wm.prs l.length ps ns) x y = true ↔ Wm.Fol l ps x.toNat y.toNat ns := by
  rw [cgB_iff]
  exact ⟨fun h => h.2.2, fun h => ⟨hx, hy, h⟩⟩
theorem cgB_in {l : List Tm} {P : List (Nat × Nat)} {x y : Int} (h : cgB l P x y = true) : inB l.length x = true ∧ inB l.length y = true := ⟨(cgB_iff.1 h).1, (cgB_iff.1 h).2.1⟩

theorem Fits.of {l : List Tm} {ps : List (Int × Int)} {x y : Int} (hx : inB l.length x = true) (hy : inB l.length y = true) {needed rest : List Nat} (h : Wm.Wy (Wm.Fol l ps x.toNat y.toNat) needed rest) (hok : ∀ n, n ∈ needed → ∃ q, (ps[n]?).bind (Wm.okP l.length) = some q) (hf : cgB l (Wm.prs l.length ps needed) x y = true) : Fits l ps x y needed.reverse := by
  obtain ⟨h1, h2, h3⟩ := h.fin (Wm.fol_mon l ps _ _) ((cgB_fol hx hy _).1 hf)
  have hok' : ∀ n, n ∈ needed.reverse → ∃ q, (ps[n]?).bind (Wm.okP l.length) = some q := fun n hn => hok n (List.mem_reverse.1 hn)
  refine ⟨h1, fun n hn => ?_, hok', (cgB_fol hx hy _).2 h2, fun m hm xs hxs => ?_⟩
  · obtain ⟨q, hq⟩ := hok' n hn
    obtain ⟨p, hp, _⟩ := Option.bind_eq_some_iff.1 hq
    exact (List.getElem?_eq_some_iff.1 hp).1
  · rw [Bool.eq_false_iff]
    exact fun e => h3 m hm xs hxs ((cgB_fol hx hy _).1 e)

/-- By all the pairs, or by those that enough has chosen. -/
theorem enough_all {l : List Tm} {ps : List (Int × Int)} {x y : Int} {k : Nat} {ns : List Nat} (h : Wm.En l ps k ns) (hk : k ≤ ps.length) (hn : cgB l (Wm.prs l.length ps ns) x y = false → k = ps.length) : cgB l (Wm.prs l.length ps ns) x y = cgB l (Wm.prs l.length ps (List.range ps.length)) x y := by
  rw [Bool.eq_iff_iff]
  constructor
  · intro e
    obtain ⟨hx, hy⟩ := cgB_in e
    rw [cgB_fol hx hy] at e ⊢
    exact h.some hk e
  · intro e
    obtain ⟨hx, hy⟩ := cgB_in e
    cases hc : cgB l (Wm.prs l.length ps ns) x y
    · obtain rfl := hn hc
      rw [cgB_fol hx hy] at e
      rw [← hc, cgB_fol hx hy]
      exact (h.fin _ _).2 e
    · rfl

end Go.Proofs.YtlehlgipbhfioaaGreat

namespace Go.Proofs.YtlehlgipbhfioaaGreat
open Go.RowKit

def parserC (bp : Value) (s : ByteArray) (i d : Nat) (j : Nat) : Value := if j = 0 then bp else if j = 1 then .string s else if j = 2 then .int .i64 (i : Int) else .int .u64 (d : Int)

/-- A parser at block r: at byte i, within d brackets and signs. -/
structure Lp (w : World) (r : Nat) (bp : Value) (s : ByteArray) (i d : Nat) : Prop where
  row : w.rowIs r 107 4 (parserC bp s i d)
  le : i ≤ s.size
  small : s.size ≤ 400

theorem Lp.c0 {w : World} {r : Nat} {bp : Value} {s : ByteArray} {i d : Nat} (h : Lp w r bp s i d) : w.cell? ⟨r, 0, none⟩ = some bp := h.row.cell (by omega)
theorem Lp.c1 {w : World} {r : Nat} {bp : Value} {s : ByteArray} {i d : Nat} (h : Lp w r bp s i d) : w.cell? ⟨r, 1, none⟩ = some (.string s) := h.row.cell (i := 1) (by omega)
theorem Lp.c2 {w : World} {r : Nat} {bp : Value} {s : ByteArray} {i d : Nat} (h : Lp w r bp s i d) : w.cell? ⟨r, 2, none⟩ = some (.int .i64 (i : Int)) := h.row.cell (i := 2) (by omega)
theorem Lp.c3 {w : World} {r : Nat} {bp : Value} {s : ByteArray} {i d : Nat} (h : Lp w r bp s i d) : w.cell? ⟨r, 3, none⟩ = some (.int .u64 (d : Int)) := h.row.cell (i := 3) (by omega)
theorem Lp.drewN {w : World} {r : Nat} {bp : Value} {s : ByteArray} {i d : Nat} (h : Lp w r bp s i d) (m : Nat) : Lp (w.drewN m) r bp s i d := ⟨h.row, h.le, h.small⟩
theorem Lp.step {w : World} {r : Nat} {bp : Value} {s : ByteArray} {i d : Nat} (h : Lp w r bp s i d) {k : Nat} (hk : k ≤ s.size) : Lp (w.setCell ⟨r, 2, none⟩ (.int .i64 (k : Int))) r bp s k d :=
  ⟨(h.row.set 2 _).congr (fun j hj => by
    rcases (by omega : j = 0 ∨ j = 1 ∨ j = 2 ∨ j = 3) with rfl | rfl | rfl | rfl <;> simp [parserC]), hk, h.small⟩
theorem Lp.deep {w : World} {r : Nat} {bp : Value} {s : ByteArray} {i d : Nat} (h : Lp w r bp s i d) (e : Nat) : Lp (w.setCell ⟨r, 3, none⟩ (.int .u64 (e : Int))) r bp s i e :=
  ⟨(h.row.set 3 _).congr (fun j hj => by
    rcases (by omega : j = 0 ∨ j = 1 ∨ j = 2 ∨ j = 3) with rfl | rfl | rfl | rfl <;> simp [parserC]), h.le, h.small⟩
theorem Lp.of_block {w w' : World} {r : Nat} {bp : Value} {s : ByteArray} {i d : Nat} (h : Lp w r bp s i d) (hb : w'.heap[r]? = w.heap[r]?) : Lp w' r bp s i d := ⟨h.row.of_block hb, h.le, h.small⟩

set_option maxHeartbeats 1000000 in
/-- The byte that stands here; 0 at the end. -/
theorem next_in (w : World) (r : Nat) (bp : Value) (s : ByteArray) (i d : Nat) (h : Lp w r bp s i d) :
    Calls Tryz.prog 110 #[.pointer (some ⟨r, 0, none⟩)] w fun e w' => e = .returned (.int .u8 (byt s i : Int)) ∧ ∃ m, w' = w.drewN m := by
  have hs := h.small
  have c1 := h.c1
  have c2 := h.c2
  have hle := h.le
  clear h
  go_enter Tryz.func110, Tryz.ntmps110
  by_cases h1 : i < s.size
  · have d2 : ((i : Int) == (s.size : Int)) = false := by simp; omega
    have e2 := byt_lt h1
    go_wp2_with fail
    go_quiet (fail)
    go_wp2_with fail
    go_quiet (fail)
    go_wp2_with fail
    go_ret
    refine ⟨?_, _, World.drewN_drewN _ _ _⟩
    rw [← e2]
    rfl
  · have d2 : ((i : Int) == (s.size : Int)) = true := by simp; omega
    have e2 : byt s i = 0 := by simp [byt, h1]
    go_wp2_with fail
    go_quiet (fail)
    go_wp2_with fail
    go_ret
    exact ⟨by rw [e2]; rfl, _, rfl⟩

theorem next_k (w : World) (r : Nat) (bp : Value) (s : ByteArray) (i d : Nat) (h : Lp w r bp s i d) :
    Calls Tryz.prog 110 #[.pointer (some ⟨r, 0, none⟩)] w fun e w' => e = .returned (.int .u8 (byt s i : Int)) ∧ Kept0 w w' :=
  (next_in w r bp s i d h).mono fun _ _ ⟨h1, m, h2⟩ => ⟨h1, h2 ▸ (Kept.refl _ w).drewN m⟩

theorem Lp.kept0 {w w' : World} {r : Nat} {bp : Value} {s : ByteArray} {i d : Nat} (h : Lp w r bp s i d) (K : Kept0 w w') : Lp w' r bp s i d := h.of_block (K.block _ h.row.lt (fun e => e))

set_option maxHeartbeats 1000000 in
theorem gblanks_in (w : World) (r : Nat) (bp : Value) (s : ByteArray) (i d : Nat) (h : Lp w r bp s i d) :
    Calls Tryz.prog 67 #[.pointer (some ⟨r, 0, none⟩)] w fun e w' => e = .returned (.tuple #[]) ∧ Lp w' r bp s (bl s i) d ∧ Kept1 r w w' := by
  go_enter Tryz.func67, Tryz.ntmps67
  go_wp2_with fail
  go_loopw [] (fun W => ∃ k : Nat, Lp W r bp s k d ∧ Hid (bl s k = bl s i) ∧ Hid (Kept1 r w W)) (fun W => s.size - (match W.cell? ⟨r, 2, none⟩ with | some v => (intOf v).toNat | none => 0))
  case atStart => exact ⟨i, h, rfl, Kept.refl _ w⟩
  case round =>
    obtain ⟨k, hR, hb, hK⟩ := hrel
    have NX := next_k wr r bp s k d hR
    have hle := hR.le
    have hsm := hR.small
    have c2r := hR.c2
    by_cases h1 : k < s.size ∧ byt s k = 32
    · rw [h1.2] at NX
      have STP : Hid (∀ W, Kept0 wr W → Lp (W.setCell ⟨r, 2, none⟩ (.int .i64 ((k : Int) + 1))) r bp s (k + 1) d) := fun W K => by
        have := (hR.kept0 K).step (k := k + 1) (by omega)
        simpa using this
      have HC : Hid (∀ W, Kept0 wr W → W.cell? ⟨r, 2, none⟩ = some (.int .i64 (k : Int)) ∧ W.frozen? ⟨r, 2, none⟩ = false) := fun W K => ⟨(hR.kept0 K).c2, (hR.kept0 K).row.frozen 2⟩
      have hb2 : Hid (bl s (k + 1) = bl s i) := (bl_at h1.1 h1.2).symm.trans hb
      have HC2 : Hid (wr.cell? ⟨r, 2, none⟩ = some (.int .i64 (k : Int))) := c2r
      have hk1 : k < s.size := h1.1
      clear hR h1 hb c2r
      go_wp2_with (go_at_call 110; refine NX.mono ?_; rintro e w3 ⟨rfl, K3⟩; obtain ⟨c2, f2⟩ := HC.out w3 K3)
      refine ⟨⟨k + 1, STP.out w3 K3, hb2, Kept1.set (hK.out.trans (Kept.mono K3 (fun _ _ e => e.elim))) _ _⟩, ?_⟩
      rw [(STP.out w3 K3).c2, HC2.out]
      simp only [intOf]
      omega
    · have e : bl s i = k := hb.symm.trans (bl_end h1)
      have hne : ¬ byt s k = 32 := fun e2 => by
        by_cases h2 : k < s.size
        · exact h1 ⟨h2, e2⟩
        · simp [byt, h2] at e2
      have dne : ((byt s k : Int) == 32) = false := by simp; omega
      have HR : Hid (_ ∧ _) := And.intro hR hK.out
      clear hR hb hK h1 c2r
      generalize byt s k = bk at *
      go_wp2_with (go_at_call 110; refine NX.mono ?_; rintro e w3 ⟨rfl, K3⟩)
      go_end0
      exact ⟨rfl, by rw [e]; exact HR.out.1.kept0 K3, HR.out.2.trans (Kept.mono K3 (fun _ _ e => e.elim))⟩

/-- What refuse panics with. -/
def grefusalV (e p : Int) : Value := .iface 155 (.agg #[.int .i64 e, .int .i64 p])

set_option maxHeartbeats 400000 in
theorem grefuse_any (w : World) (e p : Int) :
    Calls Tryz.prog 69 #[.int .i64 e, .int .i64 p] w fun x w' => x = .panicked [{ v := grefusalV e p, recovered := false }] ∧ w = w' := by
  go_enter Tryz.func69, Tryz.ntmps69
  go_wp2
  exact ⟨rfl, rfl, rfl⟩

end Go.Proofs.YtlehlgipbhfioaaGreat

namespace Go.Proofs.YtlehlgipbhfioaaGreat
open Go.RowKit

set_option maxHeartbeats 1000000 in
theorem must_yes (w : World) (r : Nat) (bp : Value) (s : ByteArray) (i d : Nat) (h : Lp w r bp s i d) (c : Nat) (hst : stands s i c = true) :
    Calls Tryz.prog 112 #[.pointer (some ⟨r, 0, none⟩), .int .u8 (c : Int)] w fun e w' => e = .returned (.tuple #[]) ∧ Lp w' r bp s (bl s (i + 1)) d ∧ Kept1 r w w' := by
  have h1 := of_decide_eq_true hst
  have NX := next_k w r bp s i d h
  rw [h1.2] at NX
  have hsm := h.small
  have HC : Hid (∀ W, Kept0 w W → W.cell? ⟨r, 2, none⟩ = some (.int .i64 (i : Int)) ∧ W.frozen? ⟨r, 2, none⟩ = false) := fun W K => ⟨(h.kept0 K).c2, (h.kept0 K).row.frozen 2⟩
  have STP : Hid (∀ W, Kept0 w W → Lp (W.setCell ⟨r, 2, none⟩ (.int .i64 ((i : Int) + 1))) r bp s (i + 1) d) := fun W K => by
    have := (h.kept0 K).step (k := i + 1) (by omega)
    simpa using this
  have hi1 : i < s.size := h1.1
  have dcc : ((c : Int) != (c : Int)) = false := by simp
  clear h h1 hst
  go_enter Tryz.func112, Tryz.ntmps112
  go_wp2_with (first | (go_at_call 110; refine NX.mono ?_; rintro e w3 ⟨rfl, K3⟩; obtain ⟨c2, f2⟩ := HC.out w3 K3; have BL := gblanks_in _ r bp s (i + 1) d (STP.out w3 K3)) | (go_at_call 67; refine BL.mono ?_; rintro e w4 ⟨rfl, L4, K4⟩))
  go_end0
  exact ⟨rfl, L4, Kept.trans (Kept1.set (Kept.mono K3 (fun _ _ e => e.elim)) _ _) K4⟩

set_option maxHeartbeats 1000000 in
theorem must_no (w : World) (r : Nat) (bp : Value) (s : ByteArray) (i d : Nat) (h : Lp w r bp s i d) (c : Nat) (hc : c ≠ 0) (hst : stands s i c = false) :
    Calls Tryz.prog 112 #[.pointer (some ⟨r, 0, none⟩), .int .u8 (c : Int)] w fun e w' => e = .panicked [{ v := grefusalV 2 (i : Int), recovered := false }] ∧ Kept0 w w' := by
  have hne : byt s i ≠ c := fun e => by
    by_cases h2 : i < s.size
    · rw [stands_true h2 e] at hst; cases hst
    · simp [byt, h2] at e; omega
  have NX := next_k w r bp s i d h
  have HC : Hid (∀ W, Kept0 w W → W.cell? ⟨r, 2, none⟩ = some (.int .i64 (i : Int))) := fun W K => (h.kept0 K).c2
  have dne : ((byt s i : Int) != (c : Int)) = true := by simp; omega
  have hle := h.le
  have hsm := h.small
  clear h hst hne
  generalize byt s i = bi at *
  go_enter Tryz.func112, Tryz.ntmps112
  go_wp2_with (first | (go_at_call 110; refine NX.mono ?_; rintro e w3 ⟨rfl, K3⟩; have c2 := HC.out w3 K3) | (go_at_call 69; refine (grefuse_any _ _ _).mono ?_; rintro e w4 ⟨rfl, rfl⟩))
  exact ⟨rfl, rfl, K3⟩

/-- Is it a byte of a name? -/
def ofNm (c : Nat) : Bool := isLet c || isDig c

set_option maxHeartbeats 1000000 in
theorem ofName_any (w : World) (c : Nat) :
    Calls Tryz.prog 259 #[.int .u8 (c : Int)] w fun e w' => e = .returned (.bool (ofNm c)) ∧ w = w' := by
  go_enter Tryz.func259, Tryz.ntmps259
  by_cases h1 : 97 ≤ c
  · have d1 : decide ((97 : Int) ≤ (c : Int)) = true := decide_eq_true (by omega)
    by_cases h2 : c ≤ 122
    · have d2 : decide ((c : Int) ≤ 122) = true := decide_eq_true (by omega)
      have e : ofNm c = true := by simp [ofNm, isLet, isDig]; omega
      go_wp2_with fail
      go_ret
      exact ⟨ret_bool e.symm, rfl⟩
    · have d2 : decide ((c : Int) ≤ 122) = false := decide_eq_false (by omega)
      have d3 : decide ((48 : Int) ≤ (c : Int)) = true := decide_eq_true (by omega)
      have d4 : decide ((c : Int) ≤ 57) = false := decide_eq_false (by omega)
      have e : ofNm c = false := by simp [ofNm, isLet, isDig]; omega
      go_wp2_with fail
      go_ret
      exact ⟨ret_bool e.symm, rfl⟩
  · have d1 : decide ((97 : Int) ≤ (c : Int)) = false := decide_eq_false (by omega)
    by_cases h3 : 48 ≤ c
    · have d3 : decide ((48 : Int) ≤ (c : Int)) = true := decide_eq_true (by omega)
      by_cases h4 : c ≤ 57
      · have d4 : decide ((c : Int) ≤ 57) = true := decide_eq_true (by omega)
        have e : ofNm c = true := by simp [ofNm, isLet, isDig]; omega
        go_wp2_with fail
        go_ret
        exact ⟨ret_bool e.symm, rfl⟩
      · have d4 : decide ((c : Int) ≤ 57) = false := decide_eq_false (by omega)
        have e : ofNm c = false := by simp [ofNm, isLet, isDig]; omega
        go_wp2_with fail
        go_ret
        exact ⟨ret_bool e.symm, rfl⟩
    · have d3 : decide ((48 : Int) ≤ (c : Int)) = false := decide_eq_false (by omega)
      have e : ofNm c = false := by simp [ofNm, isLet, isDig]; omega
      go_wp2_with fail
      go_ret
      exact ⟨ret_bool e.symm, rfl⟩

end Go.Proofs.YtlehlgipbhfioaaGreat

namespace Go.Proofs.YtlehlgipbhfioaaGreat
open Go.RowKit

/-- Where the bracket closes, with so many open ones. -/
def clo (s : ByteArray) (k o : Nat) : Nat :=
  if k < s.size then
    if (if byt s k = 40 then o + 1 else if byt s k = 41 then o - 1 else o) = 0 then k + 1 else clo s (k + 1) (if byt s k = 40 then o + 1 else if byt s k = 41 then o - 1 else o)
  else s.size
termination_by s.size - k
decreasing_by omega

theorem clo_in {s : ByteArray} {k o : Nat} (h : k < s.size) : clo s k o = if (if byt s k = 40 then o + 1 else if byt s k = 41 then o - 1 else o) = 0 then k + 1 else clo s (k + 1) (if byt s k = 40 then o + 1 else if byt s k = 41 then o - 1 else o) := by
  rw [clo, if_pos h]
theorem clo_out {s : ByteArray} {k o : Nat} (h : ¬ k < s.size) : clo s k o = s.size := by rw [clo, if_neg h]

/-- Where the term ends that begins at i. -/
def tEnd (s : ByteArray) (i : Nat) : Nat := if byt s (bl s (nmE s i)) = 40 then clo s (bl s (nmE s i)) 0 else nmE s i

theorem ofNm_eq (c : Nat) : ofNm c = isNm c := rfl

theorem made_parser (w : World) (bp : Value) (s : ByteArray) (i d : Nat) (hi : i ≤ s.size) (hs : s.size ≤ 400) :
    Lp (w.alloc (.cells #[bp, .string s, .int .i64 (i : Int), .int .u64 (d : Int)] 107)) w.heap.size bp s i d := by
  refine ⟨World.rowIs.congr (made_row w #[bp, .string s, .int .i64 (i : Int), .int .u64 (d : Int)] 107) ?_, hi, hs⟩
  intro j hj
  have hj' : j < 4 := hj
  rcases (by omega : j = 0 ∨ j = 1 ∨ j = 2 ∨ j = 3) with rfl | rfl | rfl | rfl <;> rfl


theorem Lp.fresh0 {w w' : World} {x : Nat} (K : Kept1 x w w') {w0 : World} (K0 : Kept0 w0 w) (hx : w0.heap.size ≤ x) : Kept0 w0 w' :=
  ⟨K.os.trans K0.os, K.tape.trans K0.tape, K.output.trans K0.output, Nat.le_trans K0.size K.size, fun k hk _ => (K.block k (Nat.lt_of_lt_of_le hk K0.size) (by omega)).trans (K0.block k hk (fun e => e))⟩

theorem bytes_at (w : World) (e : TypeId) (s : ByteArray) (b : Nat) (j : Nat) (hj : j < s.size - b) : (Lib.bytesWorld w e (s.extract b s.size)).cell? ⟨w.heap.size, j, none⟩ = some (.int .u8 (byt s (b + j) : Int)) := by
  have hz : (s.extract b s.size).size = s.size - b := by simp [ByteArray.size_extract]
  rw [Lib.bytesWorld_cell w e _ j (by omega)]
  have h1 : b + j < s.size := by omega
  have h2 : j < (s.extract b s.size).size := by omega
  have h3 : ((s.extract b s.size).data.toList.getD j 0) = s[b + j] := by
    rw [List.getD_eq_getElem?_getD, Array.getElem?_toList]
    have : (s.extract b s.size).data[j]? = some ((s.extract b s.size)[j]) := by
      rw [Array.getElem?_eq_getElem (by simpa using h2)]; rfl
    rw [this, ByteArray.getElem_extract]
    rfl
  rw [h3, byt_lt h1]
theorem bytes_kept {w0 w : World} (K : Kept0 w0 w) (e : TypeId) (S : ByteArray) : Kept0 w0 (Lib.bytesWorld w.drew e S) :=
  Kept.trans K ⟨rfl, rfl, rfl, by rw [Lib.bytesWorld_size]; exact Nat.le_succ _, fun k hk _ => Lib.bytesWorld_at_old w.drew e S k hk⟩

set_option maxRecDepth 100000 in
set_option maxHeartbeats 2000000 in
theorem termEnd_in (w : World) (r p : Nat) (s : ByteArray) (i d : Nat) (h : Lp w r (.pointer (some ⟨p, 0, none⟩)) s i d) :
    Calls Tryz.prog 256 #[.pointer (some ⟨r, 0, none⟩)] w fun e w' => e = .returned (.int .i64 (tEnd s i : Int)) ∧ Kept0 w w' := by
  have c0 := h.c0
  have c1 := h.c1
  have c2 := h.c2
  have c3 := h.c3
  have M := made_parser w (.pointer (some ⟨p, 0, none⟩)) s i d h.le h.small
  have K0 : Kept0 w (w.alloc (.cells #[.pointer (some ⟨p, 0, none⟩), .string s, .int .i64 (i : Int), .int .u64 (d : Int)] 107)) := Kept.alloc (Kept.refl _ w) _
  go_enter Tryz.func256, Tryz.ntmps256
  go_wp2_with fail
  generalize w.alloc (.cells #[.pointer (some ⟨p, 0, none⟩), .string s, .int .i64 (i : Int), .int .u64 (d : Int)] 107) = w1 at M K0 ⊢
  have hx : w.heap.size ≤ w.heap.size := Nat.le_refl _
  have CR : Hid (∀ W, Kept1 w.heap.size w1 W → W.cell? ⟨r, 1, none⟩ = some (.string s) ∧ Kept0 w W) := fun W K => ⟨(h.kept0 (Lp.fresh0 K K0 (Nat.le_refl _))).c1, Lp.fresh0 K K0 (Nat.le_refl _)⟩
  generalize hxx : w.heap.size = x at M hx CR ⊢
  go_loopw [] (fun W => ∃ k : Nat, Lp W x (.pointer (some ⟨p, 0, none⟩)) s k d ∧ Hid (nmE s k = nmE s i) ∧ Hid (Kept1 x w1 W)) (fun W => s.size - (match W.cell? ⟨x, 2, none⟩ with | some v => (intOf v).toNat | none => 0))
  case atStart => exact ⟨i, M, rfl, Kept.refl _ w1⟩
  case round =>
    obtain ⟨k, hR, hb, hK⟩ := hrel
    have NX := next_k wr x (.pointer (some ⟨p, 0, none⟩)) s k d hR
    have hle := hR.le
    have hsm := hR.small
    have c2r := hR.c2
    clear c0 c1 c2 c3
    cases hnm : ofNm (byt s k) with
    | true =>
      have hk1 : k < s.size := by
        refine Decidable.byContradiction fun hh => ?_
        simp [byt, hh, ofNm, isLet, isDig] at hnm
      have NM := fun W => ofName_any W (byt s k)
      rw [hnm] at NM
      have STP : Hid (∀ W, Kept0 wr W → Lp (W.setCell ⟨x, 2, none⟩ (.int .i64 ((k : Int) + 1))) x (.pointer (some ⟨p, 0, none⟩)) s (k + 1) d) := fun W K => by
        have := (hR.kept0 K).step (k := k + 1) (by omega)
        simpa using this
      have HC : Hid (∀ W, Kept0 wr W → W.cell? ⟨x, 2, none⟩ = some (.int .i64 (k : Int)) ∧ W.frozen? ⟨x, 2, none⟩ = false) := fun W K => ⟨(hR.kept0 K).c2, (hR.kept0 K).row.frozen 2⟩
      have hb2 : Hid (nmE s (k + 1) = nmE s i) := (nmE_at hk1 hnm).symm.trans hb
      have HC2 : Hid (wr.cell? ⟨x, 2, none⟩ = some (.int .i64 (k : Int))) := c2r
      clear hR hb c2r hnm
      generalize byt s k = bk at *
      go_wp2_with (first | (go_at_call 110; refine NX.mono ?_; rintro e w3 ⟨rfl, K3⟩; obtain ⟨c2, f2⟩ := HC.out w3 K3) | (go_at_call 259; refine (NM _).mono ?_; rintro e w4 ⟨rfl, rfl⟩))
      refine ⟨⟨k + 1, STP.out w3 K3, hb2, Kept1.set (hK.out.trans (Kept.mono K3 (fun _ _ e => e.elim))) _ _⟩, ?_⟩
      rw [(STP.out w3 K3).c2, HC2.out]
      simp only [intOf]
      omega
    | false =>
      have NM := fun W => ofName_any W (byt s k)
      rw [hnm] at NM
      have e : nmE s i = k := hb.symm.trans (nmE_end (fun hh => by rw [← ofNm_eq, hnm] at hh; cases hh.2))
      have HR : Hid (_ ∧ _) := And.intro hR hK.out
      have HE : Hid (nmE s i = k) := e
      have HB : Hid (∀ W, Kept0 wr W → Lp W x (.pointer (some ⟨p, 0, none⟩)) s k d) := fun W K => hR.kept0 K
      have HC : Hid (∀ W, Kept0 wr W → W.cell? ⟨x, 2, none⟩ = some (.int .i64 (k : Int))) := fun W K => (hR.kept0 K).c2
      clear hb hK c2r hnm e
      clear hR
      generalize byt s k = bk at *
      have NXT : Hid (∀ W, Lp W x (.pointer (some ⟨p, 0, none⟩)) s (bl s k) d → _) := fun W L => next_k W x _ s (bl s k) d L
      have hblk := bl_le hle
      have HT : Hid (tEnd s i = if byt s (bl s k) = 40 then clo s (bl s k) 0 else k) := by show tEnd s i = _; rw [tEnd, HE.out]
      by_cases h40 : byt s (bl s k) = 40
      · rw [h40] at NXT
        go_wp2_with (first | (go_at_call 110; refine NX2.mono ?_; rintro e w5 ⟨rfl, K5⟩; have c52 := (L4.kept0 K5).c2; have CR5 := (CR.out w5 ((HR.out.2.trans (Kept.mono K3 (fun _ _ e => e.elim))).trans (K4.trans (Kept.mono K5 (fun _ _ e => e.elim))))).1) | (go_at_call 110; refine NX.mono ?_; rintro e w3 ⟨rfl, K3⟩; have c2 := HC.out w3 K3; clear NX; have BL := gblanks_in w3 x _ s k d (HB.out w3 K3)) | (go_at_call 259; refine (NM _).mono ?_; rintro e w4 ⟨rfl, rfl⟩) | (go_at_call 67; refine BL.mono ?_; rintro e w4 ⟨rfl, L4, K4⟩; have NX2 := NXT.out w4 L4))
        have HW5 : Hid (Kept0 w w5) := (CR.out w5 ((HR.out.2.trans (Kept.mono K3 (fun _ _ e => e.elim))).trans (K4.trans (Kept.mono K5 (fun _ _ e => e.elim))))).2
        have hbk : ((bl s k : Nat) : Int) ≤ s.size := by omega
        have CV := Lib.run_convert_string_bytes (P := Tryz.prog) w5.drew 9 330 5 (s.extract (bl s k) s.size) Tryz.underlying9 Tryz.underlying330 Tryz.underlying5
        have hz := ext_size hblk (Nat.le_refl s.size)
        have hlx : x < w5.heap.size := (L4.kept0 K5).row.lt
        clear CR HR HB HC HE K3 K4 K5 L4 BL NX2 NM NXT M K0 hx
        generalize bl s k = b at *
        have CB : Hid (∀ j, j < s.size - b → (Lib.bytesWorld w5.drew 5 (s.extract b s.size)).cell? ⟨w5.heap.size, j, none⟩ = some (.int .u8 (byt s (b + j) : Int))) := bytes_at w5.drew 5 s b
        have KB : Hid (Kept0 w (Lib.bytesWorld w5.drew 5 (s.extract b s.size))) := bytes_kept HW5.out 5 (s.extract b s.size)
        have CX : Hid ((Lib.bytesWorld w5.drew 5 (s.extract b s.size)).cell? ⟨x, 2, none⟩ = some (.int .i64 (b : Int))) := (Lib.bytesWorld_old w5.drew 5 _ ⟨x, 2, none⟩ hlx).trans c52
        clear hlx
        go_region_with fail
        all_goals
          clear CV c52 CR5
          generalize Lib.bytesWorld w5.drew 5 (s.extract b s.size) = w6 at CB KB CX ⊢
          have HL6 : Hid (Lp w6 r (.pointer (some ⟨p, 0, none⟩)) s i d) := h.kept0 KB.out
          have HT2 : Hid (tEnd s i = clo s b 0) := by have := HT.out; rw [if_pos h40] at this; exact this
          have H40 : Hid (byt s b = 40) := h40
          clear HT h h40
          simp only [Act.put, List.getElem_toArray, List.getElem_cons_succ, List.getElem_cons_zero, List.setIfInBounds_toArray, List.set_cons_succ, List.set_cons_zero]
          go_wp2_with fail
          generalize hS : s.extract b s.size = S
          generalize grownCap w5.drew (s.size - b) 0 5 = cp
          generalize w5.heap.size = y at *
          clear hS hz
          go_loopw [5, 32] (fun t5 t32 W => ∃ (j o : Nat), t5 = .int .i64 (o : Int) ∧ t32 = .int .i64 (j : Int) ∧ j ≤ s.size - b ∧ o ≤ j ∧ Hid (clo s b 0 = clo s (b + j) o ∧ (j = 0 ∨ 1 ≤ o)) ∧ Hid (W = w6)) (fun _ t32 _ => s.size - b - (intOf t32).toNat)
          case atStart => exact ⟨0, 0, rfl, rfl, Nat.zero_le _, Nat.le_refl _, ⟨rfl, Or.inl rfl⟩, rfl⟩
          case round =>
            obtain ⟨j, o, rfl, rfl, hj, hoj, HJ, hw⟩ := hrel
            obtain rfl := hw.out
            clear hw
            by_cases hlt : j < s.size - b
            · have cb := CB.out j hlt
              have hlt' : ((j : Nat) : Int) < ((s.size - b : Nat) : Int) := by omega
              have hE := HJ.out.1
              rw [clo_in (o := o) (by omega : b + j < s.size)] at hE
              have ho1 := HJ.out.2
              by_cases e40 : byt s (b + j) = 40
              · rw [e40] at cb
                rw [if_pos e40, if_neg (by omega)] at hE
                have HE2 : Hid (clo s b 0 = clo s (b + (j + 1)) (o + 1)) := hE
                clear hE HJ e40 ho1
                have dno : ((o : Int) + 1 == 0) = false := by simp; omega
                have dno' : ¬ (o : Int) + 1 = 0 := by omega
                go_wp2_with fail
                go_roundw
                case rel => exact ⟨j + 1, o + 1, by simp, by simp, by omega, by omega, ⟨HE2.out, Or.inr (by omega)⟩, by first | exact rfl | exact trivial⟩
                case measure => simp only [intOf]; omega
              · rw [if_neg e40] at hE
                have hj0 : j ≠ 0 := fun e => e40 (by rw [e]; exact H40.out)
                have d40 : ((byt s (b + j) : Int) == 40) = false := by simp; omega
                by_cases e41 : byt s (b + j) = 41
                · rw [e41] at cb
                  rw [if_pos e41] at hE
                  clear d40
                  by_cases o1 : o = 1
                  · rw [if_pos (by omega)] at hE
                    have HE2 : Hid (clo s b 0 = b + j + 1) := hE
                    clear hE HJ e40 e41 ho1
                    subst o1
                    have cx := CX.out
                    go_wp2_with fail
                    go_ret
                    refine ⟨?_, KB.out⟩
                    rw [HT2.out, HE2.out]
                    simp
                  · rw [if_neg (by omega)] at hE
                    have HE2 : Hid (clo s b 0 = clo s (b + (j + 1)) (o - 1)) := hE
                    clear hE HJ e40 e41
                    have dno : ((o : Int) - 1 == 0) = false := by simp; omega
                    have dno' : ¬ (o : Int) - 1 = 0 := by omega
                    go_wp2_with fail
                    go_roundw
                    case rel => exact ⟨j + 1, o - 1, by simp; omega, by simp, by omega, by omega, ⟨HE2.out, Or.inr (by omega)⟩, by first | exact rfl | exact trivial⟩
                    case measure => simp only [intOf]; omega
                · rw [if_neg e41] at hE
                  rw [if_neg (by omega)] at hE
                  have d41 : ((byt s (b + j) : Int) == 41) = false := by simp; omega
                  have HE2 : Hid (clo s b 0 = clo s (b + (j + 1)) o) := hE
                  clear hE HJ e40 e41
                  have dno : ((o : Int) == 0) = false := by simp; omega
                  have dno' : ¬ (o : Int) = 0 := by omega
                  generalize byt s (b + j) = bj at *
                  go_wp2_with fail
                  go_roundw
                  case rel => exact ⟨j + 1, o, rfl, by simp, by omega, by omega, ⟨HE2.out, Or.inr (by omega)⟩, by first | exact rfl | exact trivial⟩
                  case measure => simp only [intOf]; omega
            · have hlt' : ¬ ((j : Nat) : Int) < ((s.size - b : Nat) : Int) := by omega
              have HE2 : Hid (clo s b 0 = s.size) := by
                have := HJ.out.1
                rw [clo_out (o := o) (by omega : ¬ b + j < s.size)] at this
                exact this
              have c1r := HL6.out.c1
              go_wp2_with fail
              go_ret
              refine ⟨?_, KB.out⟩
              rw [HT2.out, HE2.out]
              rfl
      · have dne : ((byt s (bl s k) : Int) != 40) = true := by simp; omega
        generalize byt s (bl s k) = bb at *
        go_wp2_with (first | (go_at_call 110; refine NX2.mono ?_; rintro e w5 ⟨rfl, K5⟩) | (go_at_call 110; refine NX.mono ?_; rintro e w3 ⟨rfl, K3⟩; have c2 := HC.out w3 K3; clear NX; have BL := gblanks_in w3 x _ s k d (HB.out w3 K3)) | (go_at_call 259; refine (NM _).mono ?_; rintro e w4 ⟨rfl, rfl⟩) | (go_at_call 67; refine BL.mono ?_; rintro e w4 ⟨rfl, L4, K4⟩; have NX2 := NXT.out w4 L4))
        go_ret
        refine ⟨?_, (CR.out w5 ((HR.out.2.trans (Kept.mono K3 (fun _ _ e => e.elim))).trans (K4.trans (Kept.mono K5 (fun _ _ e => e.elim))))).2⟩
        rw [HT.out, if_neg h40]
        rfl

end Go.Proofs.YtlehlgipbhfioaaGreat
