/- Package decide: a problem in memory: its maps. Package decide: steps as keys. Package decide: sets of steps and of pairs. slices.Concat of rows of clauses. Package decide: a problem in memory: say, variable. slices.Concat of Forms (made of DeM by a script). -/
import Derived.Test.YtlehlgipbhfioaaGreatDdL
import Derived.Test.YtlehlgipbhfioaaGreatP12
import Derived.Test.YtlehlgipbhfioaaGreatP05
import Derived.Maps.OwnSet
namespace Go.Proofs.YtlehlgipbhfioaaGreat
open Go.RowKit Go.Maps Go.MapKept

def prI (p : Pr) : Int × Int := ((p.1 : Int), (p.2 : Int))
/-- A pair of small numbers. -/
def PrOk (p : Pr) : Prop := p.1 ≤ 1048576 ∧ p.2 ≤ 1048576
theorem PrOk.p64 {p : Pr} (h : PrOk p) : P64 (prI p) := by
  unfold P64 R64 prI
  obtain ⟨h1, h2⟩ := h
  simp only
  omega
theorem prI_inj {p q : Pr} (h : prI p = prI q) : p = q := by
  obtain ⟨a, b⟩ := p
  obtain ⟨c, d⟩ := q
  simp only [prI, Prod.mk.injEq] at h
  exact Prod.ext (by simp only; omega) (by simp only; omega)

/-- The numbers of the pairs. -/
def numV (vs : List (Pr × Nat)) (a : Pr) : Option Nat := (vs.find? fun e => decide (e.1 = a)).map (·.2)
def VrIs (W : World) (vb : Nat) (vs : List (Pr × Nat)) : Prop := ∃ D, mapIs W 34 vb D ∧ Maps.size D ≤ vs.length ∧ ∀ p, PrOk p → Says D (pkey (prI p)) (numV vs p)
theorem VrIs.keep {W W' : World} {mb : Nat} {vs : List (Pr × Nat)} (h : VrIs W mb vs) (hb : W'.heap[mb]? = W.heap[mb]?) : VrIs W' mb vs := by
  obtain ⟨D, h1, h2, h3⟩ := h
  obtain ⟨es, clock, e1, e2⟩ := h1
  exact ⟨D, ⟨es, clock, hb.trans e1, e2⟩, h2, h3⟩
theorem VrIs.lt {W : World} {mb : Nat} {vs : List (Pr × Nat)} (h : VrIs W mb vs) : ∃ es clock, W.heap[mb]? = some (Obj.map es clock) := by
  obtain ⟨D, ⟨es, clock, e1, _⟩, _⟩ := h
  exact ⟨es, clock, e1⟩
theorem VrIs.new (W : World) : VrIs (W.alloc (.map #[] 0)) W.heap.size [] := by
  have m1 := World.ownsMap_made (H := Unit) W Tryz.prog 34 (plainElem Tryz.prog 3)
  exact ⟨.map [], mapIs_of m1, Nat.zero_le _, fun p _ => ⟨rfl, rfl⟩⟩
theorem VrIs.look {W : World} {mb : Nat} {vs : List (Pr × Nat)} (h : VrIs W mb vs) {p : Pr} (hp : PrOk p) : (Instr.lookup 113 (.map (some mb)) (.agg #[.int .i64 (p.1 : Int), .int .i64 (p.2 : Int)]) true).run Tryz.prog W = .ok (.tuple #[.int .i64 (((numV vs p).getD 0 : Nat) : Int), .bool (numV vs p).isSome]) W := by
  obtain ⟨D, d1, d2, d3⟩ := h
  have := (d3 p hp).look d1 pLaw Tryz.underlying113 (pkey_of hp.p64)
  simp only [pairV, prI] at this
  exact this
theorem VrIs.look1 {W : World} {mb : Nat} {vs : List (Pr × Nat)} (h : VrIs W mb vs) {p : Pr} (hp : PrOk p) : (Instr.lookup 113 (.map (some mb)) (.agg #[.int .i64 (p.1 : Int), .int .i64 (p.2 : Int)]) false).run Tryz.prog W = .ok (.int .i64 (((numV vs p).getD 0 : Nat) : Int)) W := by
  obtain ⟨D, d1, d2, d3⟩ := h
  have := Says.look1 d1 (d3 p hp) pLaw Tryz.underlying113 (pkey_of hp.p64)
  simp only [pairV, prI] at this
  exact this
theorem numV_snoc (vs : List (Pr × Nat)) (k k' : Pr) (n : Nat) (h : numV vs k = none) : numV (vs ++ [(k, n)]) k' = if k' = k then some n else numV vs k' := by
  unfold numV at *
  rw [List.find?_append]
  by_cases e : k' = k
  · subst e
    rw [if_pos rfl]
    have : vs.find? (fun e => decide (e.1 = k')) = none := by simpa using h
    rw [this]
    simp
  · rw [if_neg e]
    have : ([(k, n)] : List (Pr × Nat)).find? (fun e => decide (e.1 = k')) = none := by simp; exact fun x => e x.symm
    rw [this]
    simp
theorem VrIs.store {W : World} {mb : Nat} {vs : List (Pr × Nat)} (h : VrIs W mb vs) {p : Pr} (hp : PrOk p) (hno : numV vs p = none) {n : Nat} (hn : n ≤ 1048576) (hfm : vs.length < 1000000) :
    ∃ W2, (Instr.mapUpdate 113 (.map (some mb)) (.agg #[.int .i64 (p.1 : Int), .int .i64 (p.2 : Int)]) (.int .i64 (n : Int))).run Tryz.prog W = .ok () W2 ∧ VrIs W2 mb (vs ++ [(p, n)]) ∧ Kept1 mb W W2 := by
  obtain ⟨D, d1, d2, d3⟩ := h
  obtain ⟨w', hr, ho, hturn⟩ := World.ownsMap.store d1 pLaw Tryz.underlying113 (by unfold maxLen; omega) (pkey_of hp.p64) (plainElem_int (H := Unit) Tryz.underlying3 (WalkArith.wf_i64 (n := (n : Int)) (by omega)))
  have tidy := World.ownsMap.tidy d1 pLaw
  simp only [pairV, prI] at hr
  refine ⟨w', hr, ⟨_, mapIs_of ho, ?_, fun u hu => ?_⟩, Kept1.of_grown hturn.grown⟩
  · rw [size_put tidy]
    simp only [List.length_append, List.length_singleton]
    split <;> omega
  · rw [numV_snoc vs _ _ n hno]
    by_cases e : u = p
    · subst e
      rw [if_pos rfl]
      obtain ⟨kk, e, hk⟩ := pkey_lit hu.p64
      rw [e]
      exact Says.put_same tidy.isMap hk n
    · rw [if_neg e]
      exact (d3 u hu).put_other (fun x => e (prI_inj (pkey_inj hu.p64 hp.p64 x))) _

end Go.Proofs.YtlehlgipbhfioaaGreat

namespace Go.Proofs.YtlehlgipbhfioaaGreat
open Go.RowKit Go.Maps Go.MapKept

theorem skRow : (206 : TypeId) < Tryz.prog.types.size := of_decide_eq_true (by kernel_rfl)
theorem skCells : Tryz.prog.cellsOf 206 = 10 := by kernel_rfl
theorem skCells4 : Tryz.prog.cellsOf 204 = 8 := by kernel_rfl
theorem skKeyType : Tryz.prog.keyType 206 = true := by kernel_rfl
theorem skKeyAt : Tryz.prog.keyTypeAt 5 206 = true := by kernel_rfl
theorem skLaw : Keyed Tryz.prog 206 := Keyed.of_law (deep_law_laid tLaid (m := 5) (by omega) skRow skKeyAt (by rw [Tryz.underlying206]))

def nV (l : List Nat) : Value := .agg (l.map (fun n : Nat => Value.int .i64 (n : Int))).toArray
def flat4 (c : Pr) (ps : List Pr) : List Nat := [c.1, c.2] ++ (pad4c ps).flatMap fun p => [p.1, p.2]
theorem stpV_flat (c : Pr) (ps : List Pr) : stpV c ps = (flat4 c ps).map (fun n : Nat => Value.int .i64 (n : Int)) := by
  simp only [stpV, flat4, enP, rowP, List.map_append, List.map_flatMap, List.map_cons, List.map_nil]
  rfl
theorem pad4c_ex (ps : List Pr) : ∃ a b c d, pad4c ps = [a, b, c, d] := by
  match ps with
  | [] => exact ⟨_, _, _, _, rfl⟩
  | [a] => exact ⟨_, _, _, _, rfl⟩
  | [a, b] => exact ⟨_, _, _, _, rfl⟩
  | [a, b, c] => exact ⟨_, _, _, _, rfl⟩
  | a :: b :: c :: d :: r => exact ⟨a, b, c, d, by simp [pad4c]⟩
theorem flat4_ex (c : Pr) (ps : List Pr) : ∃ x0 x1 x2 x3 x4 x5 x6 x7 x8 x9, flat4 c ps = [x0, x1, x2, x3, x4, x5, x6, x7, x8, x9] := by
  obtain ⟨a, b, d, e, h⟩ := pad4c_ex ps
  exact ⟨_, _, _, _, _, _, _, _, _, _, by rw [flat4, h]; rfl⟩
theorem flat4_inj {c c' : Pr} {ps ps' : List Pr} (h : flat4 c ps = flat4 c' ps') : c = c' ∧ pad4c ps = pad4c ps' := by
  obtain ⟨a, b, d, e, h1⟩ := pad4c_ex ps
  obtain ⟨a', b', d', e', h2⟩ := pad4c_ex ps'
  simp only [flat4, h1, h2, List.flatMap_cons, List.flatMap_nil, List.cons_append, List.nil_append, List.append_nil, List.cons.injEq, and_true] at h
  obtain ⟨q0, q1, q2, q3, q4, q5, q6, q7, q8, q9⟩ := h
  rw [h1, h2, Prod.ext q0 q1, Prod.ext q2 q3, Prod.ext q4 q5, Prod.ext q6 q7, Prod.ext q8 q9]
  exact ⟨rfl, rfl⟩

theorem wf20 {n : Nat} (h : n ≤ 1048576) : (Lit.int .i64 (n : Int)).wf = true := WalkArith.wf_i64 (by omega)
set_option maxRecDepth 100000 in
theorem step_key (x0 x1 x2 x3 x4 x5 x6 x7 x8 x9 : Nat) (h : ∀ x ∈ [x0, x1, x2, x3, x4, x5, x6, x7, x8, x9], x ≤ 1048576) : ∃ kl, keyOf Tryz.prog 206 (nV [x0, x1, x2, x3, x4, x5, x6, x7, x8, x9]) = some kl := by
  have g0 := wf20 (h x0 (by simp))
  have g1 := wf20 (h x1 (by simp))
  have g2 := wf20 (h x2 (by simp))
  have g3 := wf20 (h x3 (by simp))
  have g4 := wf20 (h x4 (by simp))
  have g5 := wf20 (h x5 (by simp))
  have g6 := wf20 (h x6 (by simp))
  have g7 := wf20 (h x7 (by simp))
  have g8 := wf20 (h x8 (by simp))
  have g9 := wf20 (h x9 (by simp))
  have hf : (nV [x0, x1, x2, x3, x4, x5, x6, x7, x8, x9]).formed Tryz.prog 206 = true := by simp [nV, Value.formed, Tryz.underlying206, skCells]
  unfold keyOf
  rw [Tryz.underlying206]
  simp only [skKeyType, hf]
  obtain ⟨m, hm⟩ : ∃ m, Tryz.prog.types.size + 1 = m + 5 := ⟨Tryz.prog.types.size - 4, by have h9 := skRow; generalize Tryz.prog.types.size = z at h9 ⊢; exact (by have h8 : 5 ≤ z := Nat.le_trans (by decide) (Nat.le_of_lt h9); omega)⟩
  rw [hm]
  have hr : List.range 4 = [0, 1, 2, 3] := rfl
  simp [Program.keyLits, Tryz.underlying206, Tryz.underlying204, Tryz.underlying34, Tryz.underlying3, skCells, skCells4, pCells, tCellsI, nV, Value.cells, hr, g0, g1, g2, g3, g4, g5, g6, g7, g8, g9]
  repeat rw [if_pos (by intro i x; rcases (by omega : i = 0 ∨ i = 1) with rfl | rfl <;> simp)]
  exact ⟨_, rfl⟩

/-- A step of small numbers. -/
def SkOk (k : Pr × List Pr) : Prop := PrOk k.1 ∧ ∀ q ∈ k.2, PrOk q
def skV (k : Pr × List Pr) : Value := .agg (stpV k.1 k.2).toArray
theorem skV_key {k : Pr × List Pr} (h : SkOk k) : ∃ kl, keyOf Tryz.prog 206 (skV k) = some kl := by
  obtain ⟨x0, x1, x2, x3, x4, x5, x6, x7, x8, x9, e⟩ := flat4_ex k.1 k.2
  have hs : ∀ x ∈ flat4 k.1 k.2, x ≤ 1048576 := fun x hx => by
    simp only [flat4, List.mem_append, List.mem_flatMap] at hx
    rcases hx with hx | ⟨p, hp, hx⟩
    · simp at hx
      rcases hx with rfl | rfl
      · exact h.1.1
      · exact h.1.2
    · have hp2 : PrOk p := by
        unfold pad4c at hp
        rcases List.mem_append.1 (List.mem_of_mem_take hp) with hp | hp
        · exact h.2 p hp
        · rw [List.eq_of_mem_replicate hp]
          exact ⟨by simp, by simp⟩
      simp at hx
      rcases hx with rfl | rfl
      · exact hp2.1
      · exact hp2.2
  rw [e] at hs
  have := step_key x0 x1 x2 x3 x4 x5 x6 x7 x8 x9 hs
  unfold skV
  rw [stpV_flat, e]
  exact this
noncomputable def stkey (k : Pr × List Pr) : Lit := (keyOf Tryz.prog 206 (skV k)).getD (.bool false)
theorem stkey_of {k : Pr × List Pr} (h : SkOk k) : keyOf Tryz.prog 206 (skV k) = some (stkey k) := by
  obtain ⟨kl, hk⟩ := skV_key h
  simp [stkey, hk]
theorem skV_inj {k j : Pr × List Pr} (h : skV k = skV j) : k.1 = j.1 ∧ pad4c k.2 = pad4c j.2 := by
  unfold skV at h
  rw [stpV_flat, stpV_flat] at h
  obtain ⟨x0, x1, x2, x3, x4, x5, x6, x7, x8, x9, e⟩ := flat4_ex k.1 k.2
  obtain ⟨y0, y1, y2, y3, y4, y5, y6, y7, y8, y9, e'⟩ := flat4_ex j.1 j.2
  refine flat4_inj ?_
  rw [e, e'] at h ⊢
  simp at h
  obtain ⟨q0, q1, q2, q3, q4, q5, q6, q7, q8, q9⟩ := h
  rw [Int.ofNat_inj.1 q0, Int.ofNat_inj.1 q1, Int.ofNat_inj.1 q2, Int.ofNat_inj.1 q3, Int.ofNat_inj.1 q4, Int.ofNat_inj.1 q5, Int.ofNat_inj.1 q6, Int.ofNat_inj.1 q7, Int.ofNat_inj.1 q8, Int.ofNat_inj.1 q9]
theorem stkey_inj {k j : Pr × List Pr} (hk : SkOk k) (hj : SkOk j) (h : stkey k = stkey j) : k.1 = j.1 ∧ pad4c k.2 = pad4c j.2 :=
  skV_inj (skLaw.inj (stkey_of hk) (by rw [h]; exact stkey_of hj))
theorem stkey_lit {k : Pr × List Pr} (hk : SkOk k) : ∃ l, stkey k = l ∧ WideAt.IsKeyLit l := by
  have h := stkey_of hk
  generalize stkey k = l at h
  exact ⟨l, rfl, skLaw.key h⟩

end Go.Proofs.YtlehlgipbhfioaaGreat

namespace Go.Proofs.YtlehlgipbhfioaaGreat
open Go.RowKit Go.Maps Go.MapKept

def setIs (w : World) (k : TypeId) (b : Nat) (D : DataW Unit) : Prop := w.ownsMap Tryz.prog k unitElem b (Maps.size D) D
theorem setIs_of {w : World} {k : TypeId} {b n : Nat} {D : DataW Unit} (h : w.ownsMap Tryz.prog k unitElem b n D) : setIs w k b D := by
  obtain ⟨es, clock, hb, F, hs, rfl⟩ := h
  exact ⟨es, clock, hb, F, by simp [Maps.size, length_sorted], rfl⟩
theorem zeroU (w : World) : (zeroValue 162).run Tryz.prog w = .ok (.agg #[]) w := Tryz.zeroValue162 w
theorem setIs.look {w : World} {k t : TypeId} {b : Nat} {D : DataW Unit} (h : setIs w k b D) (K : Keyed Tryz.prog k) (ht : Tryz.prog.underlying t = some (.map k 162)) {key : Value} {kl : Lit} (hkey : keyOf Tryz.prog k key = some kl) :
    (Instr.lookup t (.map (some b)) key true).run Tryz.prog w = .ok (.tuple #[.agg #[], .bool (Maps.has D kl)]) w := by
  obtain ⟨v, ps, hrun, hv⟩ := World.ownsMap.look_ok h K ht (zeroU w) unitElem_mk hkey
  obtain ⟨rfl, _⟩ := unitElem_inv hv
  exact hrun
theorem setIs.store {w : World} {k t : TypeId} {b : Nat} {D : DataW Unit} (h : setIs w k b D) (K : Keyed Tryz.prog k) (ht : Tryz.prog.underlying t = some (.map k 162)) (hn : Maps.size D < maxLen) {key : Value} {kl : Lit} (hkey : keyOf Tryz.prog k key = some kl) :
    ∃ w', (Instr.mapUpdate t (.map (some b)) key (.agg #[])).run Tryz.prog w = .ok () w' ∧ setIs w' k b (D.put kl (.agg [])) ∧ Kept1 b w w' := by
  obtain ⟨w', hr, ho, hturn⟩ := World.ownsMap.store h K ht hn hkey (unitElem_mk (H := Unit))
  exact ⟨w', hr, setIs_of ho, Kept1.of_grown hturn.grown⟩

/-- The steps that are known. -/
def KnIs (W : World) (kb : Nat) (ks : List (Pr × List Pr)) : Prop := ∃ D, setIs W 206 kb D ∧ Maps.size D ≤ ks.length ∧ ∀ k, SkOk k → Maps.has D (stkey k) = decide ((k.1, pad4c k.2) ∈ ks)
theorem KnIs.keep {W W' : World} {mb : Nat} {ks : List (Pr × List Pr)} (h : KnIs W mb ks) (hb : W'.heap[mb]? = W.heap[mb]?) : KnIs W' mb ks := by
  obtain ⟨D, h1, h2, h3⟩ := h
  obtain ⟨es, clock, e1, e2⟩ := h1
  exact ⟨D, ⟨es, clock, hb.trans e1, e2⟩, h2, h3⟩
theorem KnIs.lt {W : World} {mb : Nat} {ks : List (Pr × List Pr)} (h : KnIs W mb ks) : ∃ es clock, W.heap[mb]? = some (Obj.map es clock) := by
  obtain ⟨D, ⟨es, clock, e1, _⟩, _⟩ := h
  exact ⟨es, clock, e1⟩
theorem KnIs.new (W : World) : KnIs (W.alloc (.map #[] 0)) W.heap.size [] := by
  have m1 := World.ownsMap_made (H := Unit) W Tryz.prog 206 unitElem
  exact ⟨.map [], setIs_of m1, Nat.zero_le _, fun k _ => rfl⟩
theorem KnIs.look {W : World} {mb : Nat} {ks : List (Pr × List Pr)} (h : KnIs W mb ks) {k : Pr × List Pr} (hk : SkOk k) : (Instr.lookup 114 (.map (some mb)) (skV k) true).run Tryz.prog W = .ok (.tuple #[.agg #[], .bool (decide ((k.1, pad4c k.2) ∈ ks))]) W := by
  obtain ⟨D, d1, d2, d3⟩ := h
  have := d1.look skLaw Tryz.underlying114 (stkey_of hk)
  rw [d3 k hk] at this
  exact this
theorem KnIs.store {W : World} {mb : Nat} {ks : List (Pr × List Pr)} (h : KnIs W mb ks) {k : Pr × List Pr} (hk : SkOk k) (hfm : ks.length < 1000000000000) :
    ∃ W2, (Instr.mapUpdate 114 (.map (some mb)) (skV k) (.agg #[])).run Tryz.prog W = .ok () W2 ∧ KnIs W2 mb (ks ++ [(k.1, pad4c k.2)]) ∧ Kept1 mb W W2 := by
  obtain ⟨D, d1, d2, d3⟩ := h
  obtain ⟨w', hr, ho, hK⟩ := d1.store skLaw Tryz.underlying114 (by unfold maxLen; omega) (stkey_of hk)
  have tidy := World.ownsMap.tidy d1 skLaw
  refine ⟨w', hr, ⟨_, ho, ?_, fun u hu => ?_⟩, hK⟩
  · rw [size_put tidy]
    simp only [List.length_append, List.length_singleton]
    split <;> omega
  · by_cases e : stkey u = stkey k
    · obtain ⟨e1, e2⟩ := stkey_inj hu hk e
      rw [e1, e2, decide_eq_true (by simp), e]
      obtain ⟨kk, e3, hkl⟩ := stkey_lit hk
      rw [e3]
      exact has_put_same tidy.isMap hkl _
    · rw [has_put_other e, d3 u hu]
      have hne : ¬ (u.1, pad4c u.2) = (k.1, pad4c k.2) := fun e2 => e (by
        unfold stkey
        have : skV u = skV k := by
          unfold skV
          rw [stpV_flat, stpV_flat, flat4, flat4]
          simp only [Prod.mk.injEq] at e2
          rw [e2.1, e2.2]
        rw [this])
      by_cases h2 : (u.1, pad4c u.2) ∈ ks
      · rw [decide_eq_true h2, decide_eq_true (by simp [h2])]
      · rw [decide_eq_false h2, decide_eq_false]
        simp only [List.mem_append, List.mem_singleton, not_or]
        exact ⟨h2, hne⟩

/-- A set of pairs. -/
def MsIs (W : World) (mb : Nat) (ms : List Pr) : Prop := ∃ D, setIs W 34 mb D ∧ Maps.size D = ms.length ∧ ∀ p, PrOk p → Maps.has D (pkey (prI p)) = decide (p ∈ ms)
theorem MsIs.new (W : World) : MsIs (W.alloc (.map #[] 0)) W.heap.size [] := by
  have m1 := World.ownsMap_made (H := Unit) W Tryz.prog 34 unitElem
  exact ⟨.map [], setIs_of m1, rfl, fun k _ => rfl⟩
theorem MsIs.keep {W W' : World} {mb : Nat} {ms : List Pr} (h : MsIs W mb ms) (hb : W'.heap[mb]? = W.heap[mb]?) : MsIs W' mb ms := by
  obtain ⟨D, h1, h2, h3⟩ := h
  obtain ⟨es, clock, e1, e2⟩ := h1
  exact ⟨D, ⟨es, clock, hb.trans e1, e2⟩, h2, h3⟩
theorem MsIs.lt {W : World} {mb : Nat} {ms : List Pr} (h : MsIs W mb ms) : ∃ es clock, W.heap[mb]? = some (Obj.map es clock) := by
  obtain ⟨D, ⟨es, clock, e1, _⟩, _⟩ := h
  exact ⟨es, clock, e1⟩
theorem MsIs.len {W : World} {mb : Nat} {ms : List Pr} (h : MsIs W mb ms) (ty : TypeId) : (Builtin.len_ #[250] ty #[.map (some mb)]).run Tryz.prog W = .ok (.int .i64 (ms.length : Int)) W := by
  obtain ⟨D, d1, d2, d3⟩ := h
  have := World.ownsMap.len d1 Tryz.underlying250 ty
  rw [d2] at this
  exact this
theorem MsIs.store {W : World} {mb : Nat} {ms : List Pr} (h : MsIs W mb ms) {p : Pr} (hp : PrOk p) (hfm : ms.length < 1000000000000) :
    ∃ W2, (Instr.mapUpdate 250 (.map (some mb)) (.agg #[.int .i64 (p.1 : Int), .int .i64 (p.2 : Int)]) (.agg #[])).run Tryz.prog W = .ok () W2 ∧ MsIs W2 mb (addP ms [p]) ∧ Kept1 mb W W2 := by
  obtain ⟨D, d1, d2, d3⟩ := h
  obtain ⟨w', hr, ho, hK⟩ := d1.store pLaw Tryz.underlying250 (by unfold maxLen; omega) (pkey_of hp.p64)
  have tidy := World.ownsMap.tidy d1 pLaw
  simp only [pairV, prI] at hr
  obtain ⟨kk, e3, hkl⟩ := pkey_lit hp.p64
  refine ⟨w', hr, ⟨_, ho, ?_, fun u hu => ?_⟩, hK⟩
  · rw [size_put tidy, d3 p hp]
    by_cases hm : p ∈ ms
    · simp [addP, hm, d2]
    · simp [addP, hm, d2]
  · by_cases e : u = p
    · subst e
      have : u ∈ addP ms [u] := by by_cases hm : u ∈ ms <;> simp [addP, hm]
      rw [decide_eq_true this, e3]
      exact has_put_same tidy.isMap hkl _
    · rw [has_put_other (fun x => e (prI_inj (pkey_inj hu.p64 hp.p64 x))), d3 u hu]
      by_cases hm : p ∈ ms
      · simp [addP, hm]
      · simp [addP, hm, e]

end Go.Proofs.YtlehlgipbhfioaaGreat

namespace Go.Proofs.YtlehlgipbhfioaaGreat
open Go.RowKit Go.Maps

/-- A slice in memory, of so many cells an element. -/
def PartAt (sz : Nat) (W : World) (u : Value) (n : Nat) (xs : List Value) : Prop := ∃ a c, u = .slice a n c ∧ xs.length = n * sz ∧ (∀ v ∈ xs, v.oneCell' = true) ∧ (n = 0 ∨ ∃ b off, a = some ⟨b, off, none⟩ ∧ ∀ (j : Nat) (v : Value), xs[j]? = some v → W.cell? ⟨b, off + j, none⟩ = some v)
theorem PartAt.below {sz : Nat} {W W' : World} {u : Value} {n : Nat} {xs : List Value} (h : PartAt sz W u n xs) (hB : Below W.heap.size W W') : PartAt sz W' u n xs := by
  obtain ⟨a, c, h1, h2, h3, h4⟩ := h
  refine ⟨a, c, h1, h2, h3, h4.imp id ?_⟩
  rintro ⟨b, off, e, h5⟩
  exact ⟨b, off, e, fun j v hj => (hB.cell (World.block_lt_of_cell? W _ (h5 j v hj))).trans (h5 j v hj)⟩

set_option maxRecDepth 100000 in
set_option maxHeartbeats 1000000 in
theorem growC_in (w : World) (n : Nat) (hn : n ≤ 1000000000) :
    Calls Tryz.prog 132 #[.slice none 0 0, .int .i64 (n : Int)] w fun e w' => ∃ v, e = .returned v ∧ w'.ownsRow w.heap.size 39 1 v 0 [] ∧ Below w.heap.size w w' := by
  by_cases h0 : n = 0
  · subst h0
    go_enter Tryz.func132, Tryz.ntmps132
    go_wp2_with fail
    go_ret
    exact ⟨_, rfl, World.ownsRow_nil _ _ _ _, Below.refl _ _⟩
  · have hby : Tryz.t39.bytes = 24 := rfl
    have hk1 : ¬ (281474976710656 < (n : Int) * (Tryz.t39.bytes : Int)) := by rw [hby]; omega
    have hnx : Builtin.nextslicecap n 0 = n := by
      unfold Builtin.nextslicecap
      simp
      omega
    have hk2 : ¬ (281474976710656 < Builtin.nextslicecap n 0 * Tryz.t39.bytes) := by rw [hnx, hby]; omega
    clear hby hnx
    go_enter Tryz.func132, Tryz.ntmps132
    go_wp2_with fail
    obtain ⟨cap, hcap⟩ : ∃ c, (Question.appendCap n 0 39).cut (w.tape w.drawn (Question.appendCap n 0 39)) = c := ⟨_, rfl⟩
    have h1 : n ≤ cap ∧ cap ≤ maxLen := by
      rw [← hcap]
      simp only [Question.cut]
      have := Nat.mod_lt (w.tape w.drawn (Question.appendCap n 0 39)) (show 0 < 2 ^ 63 - n by omega)
      unfold maxLen
      omega
    simp only [hcap]
    clear hcap
    go_ret
    refine ⟨_, rfl, ⟨rfl, Or.inr ⟨w.heap.size, cap, _, rfl, Nat.le_refl _, heap_alloc_new _ _, Nat.zero_le _, h1.2, ?_, rfl⟩⟩, ((Below.refl w.heap.size w).alloc (Nat.le_refl _) _).trans ⟨rfl, rfl, rfl, Nat.le_refl _, fun _ _ => rfl⟩⟩
    rw [Array.size_append, size_zeroCells, size_zeroCells]
    simp
    omega

theorem run_app0 {P : Program} (w : World) (t ty e : TypeId) (i : TypeInfo) (ht : P.underlying t = some (.slice e)) (hi : P.info? e = some i) (base : Option Addr) (n c : Nat) (hle : n ≤ c) (xa : Option Addr) (xc : Nat) :
    (Builtin.append_ #[t, t] ty #[.slice base n c, .slice xa 0 xc]).run P w = .ok (.slice base n c) w := by
  cases base <;> cases xa <;> simp [Builtin.append_, run_underlying ht, sizeOf, typeInfo, hi, Builtin.lenOf, Builtin.firstCells, hle, storeCells, loadCells, loadCellsFrom]
theorem wpList_app0 {P : Program} {w : World} {ops : Array Oper} {rest : List Oper} {o : Oper} {a : Act} {Q : Exit → Act → World → Prop} (hgd : o.guard = none) (s x : Operand) (t : TypeId)
    (ho : o.op = .call { callee := .builtin .append, args := #[s, x], argTypes := #[t, t] }) (e : TypeId) (i : TypeInfo) (ht : P.underlying t = some (.slice e)) (hi : P.info? e = some i)
    (base : Option Addr) (n c : Nat) (hs : a.eval s = .slice base n c) (hle : n ≤ c) (xa : Option Addr) (xc : Nat) (hx : a.eval x = .slice xa 0 xc) (h : wpList P ops Q rest (a.put o.dst (.slice base n c)) w) : wpList P ops Q (o :: rest) a w := by
  refine wpList_plain hgd fun K hK => ?_
  have hr := run_app0 w t o.type e i ht hi base n c hle xa xc
  unfold Oper.wp execOp
  simp only [ho, resolve, invoke, builtin, Sem.run_bind, Sem.run_pure, Result.andThen_ok, List.map_toArray, List.map_cons, List.map_nil, hs, hx, hr]
  exact hK _ _ h
/-- What Concat answers. -/
def catV (ps : List (Nat × List Value)) : List Value := ps.flatMap (·.2)
def catN (ps : List (Nat × List Value)) : Nat := (ps.map (·.1)).sum
theorem catN_le {ps : List (Nat × List Value)} (i : Nat) : catN (ps.take i) ≤ catN ps := by
  unfold catN
  conv => rhs; rw [← List.take_append_drop i ps, List.map_append, List.sum_append]
  omega
theorem cat_succ {ps : List (Nat × List Value)} {i : Nat} {q : Nat × List Value} (h : ps[i]? = some q) : catN (ps.take (i + 1)) = catN (ps.take i) + q.1 ∧ catV (ps.take (i + 1)) = catV (ps.take i) ++ q.2 := by
  rw [List.take_add_one, h]
  simp [catN, catV]

set_option maxRecDepth 100000 in
set_option maxHeartbeats 1000000 in
theorem catC_in (w : World) (pa : Option Addr) (pc : Nat) (ps : List (Nat × List Value)) (hp : ∀ (i : Nat) (q : Nat × List Value), ps[i]? = some q → ∃ b off u, pa = some ⟨b, off, none⟩ ∧ w.cell? ⟨b, off + i, none⟩ = some u ∧ PartAt 1 w u q.1 q.2) (hN : catN ps ≤ 1000000000) (hl : ps.length ≤ 1000000) :
    Calls Tryz.prog 88 #[.slice pa ps.length pc] w fun e w' => ∃ v, e = .returned v ∧ w'.ownsRow w.heap.size 39 1 v (catN ps) (catV ps) ∧ Below w.heap.size w w' := by
  obtain ⟨n, hn⟩ : ∃ n, ps.length = n := ⟨_, rfl⟩
  have HN : Hid _ := hn
  have HP : Hid _ := hp
  have HC : Hid _ := hN
  rw [hn] at hl ⊢
  clear hp hN hn
  go_enter Tryz.func88, Tryz.ntmps88
  go_wp2_with fail
  go_loopw [3, 11] (fun t3 t11 W => ∃ i : Nat, i ≤ n ∧ t11 = .int .i64 (i : Int) ∧ t3 = .int .i64 (catN (ps.take i) : Int) ∧ W = w) (fun _ t11 _ => n - (intOf t11).toNat)
  case atStart => exact ⟨0, Nat.zero_le _, rfl, by simp [catN], rfl⟩
  case round =>
    obtain ⟨i, hi, rfl, rfl, rfl⟩ := hrel
    have hle := Nat.le_trans (catN_le (ps := ps) i) HC.out
    by_cases hlt : i < n
    · have di : decide ((i : Int) < (n : Int)) = true := decide_eq_true (by omega)
      have hwi : IntKind.i64.wrap ((i : Int) + 1) = (i : Int) + 1 := wrap_nat1 (by omega)
      have hil : i < ps.length := by rw [HN.out]; exact hlt
      have hge := List.getElem?_eq_getElem hil
      obtain ⟨b, off, u, rfl, cu, a, c, rfl, _⟩ := HP.out i _ hge
      have hs := cat_succ hge
      have hle2 := Nat.le_trans (catN_le (ps := ps) (i + 1)) HC.out
      generalize ps[i] = q at *
      obtain ⟨qn, qx⟩ := q
      simp only at cu hs
      have HS : Hid _ := hs.1
      rw [hs.1] at hle2
      clear hge hs
      generalize catN (ps.take i) = t at *
      have hwt : IntKind.i64.wrap ((t : Int) + (qn : Int)) = (t : Int) + (qn : Int) := by rw [IntKind.wrap_i64]; omega
      have dn : decide ((t : Int) + (qn : Int) < 0) = false := decide_eq_false (by omega)
      go_wp2_with fail
      exact ⟨⟨i + 1, hlt, by simp, by rw [HS.out]; simp, by trivial⟩, by simp [intOf]; omega⟩
    · have di : decide ((i : Int) < (n : Int)) = false := decide_eq_false (by omega)
      obtain rfl : i = n := by omega
      have hta : ps.take i = ps := List.take_of_length_le (by rw [HN.out]; exact Nat.le_refl _)
      rw [hta] at hle ⊢
      have GR := growC_in wr (catN ps) hle
      clear hta
      obtain ⟨tot, htot⟩ : ∃ t, t = catN ps := ⟨_, rfl⟩
      rw [← htot] at GR hle ⊢
      have HTO : Hid _ := htot
      clear htot
      go_wp2_with (first | (go_at_call 132; refine GR.mono ?_; rintro e w1 ⟨v1, rfl, R1, B1⟩))
      have HI0 : Hid (w1.ownsRow wr.heap.size 39 1 v1 (catN (ps.take 0)) (catV (ps.take 0)) ∧ Below wr.heap.size wr w1) := ⟨R1, B1⟩
      clear R1 B1 GR
      obtain ⟨w0, hw0⟩ : ∃ x, x = wr := ⟨_, rfl⟩
      rw [← hw0] at HI0 HP
      have HW0 : Hid _ := hw0
      clear hw0
      obtain ⟨i0, hi0, hz0, hz1, hz2⟩ := info_parts infoInts
      go_loopw [6, 27] (fun t6 t27 W => ∃ j : Nat, j ≤ i ∧ t27 = .int .i64 (j : Int) ∧ Hid (W.ownsRow w0.heap.size 39 1 t6 (catN (ps.take j)) (catV (ps.take j)) ∧ Below w0.heap.size w0 W)) (fun _ t27 _ => i - (intOf t27).toNat)
      case atStart => exact ⟨0, Nat.zero_le _, rfl, HI0⟩
      case round =>
        obtain ⟨j, hj, rfl, HJ⟩ := hrel
        clear HI0
        obtain ⟨va, vc, hva⟩ := ownsRow_form HJ.out.1
        subst hva
        by_cases hlt : j < i
        · have dj : decide ((j : Int) < (i : Int)) = true := decide_eq_true (by omega)
          have hwj : IntKind.i64.wrap ((j : Int) + 1) = (j : Int) + 1 := wrap_nat1 (by omega)
          have hjl : j < ps.length := by rw [HN.out]; exact hlt
          have hge := List.getElem?_eq_getElem hjl
          obtain ⟨b, off, u, rfl, cu, a, c, rfl, hxl, hx1, hx⟩ := HP.out j _ hge
          have hs := cat_succ hge
          have hle2 := Nat.le_trans (catN_le (ps := ps) (j + 1)) HC.out
          generalize ps[j] = q at *
          obtain ⟨qn, qx⟩ := q
          simp only at cu hs hxl hx1 hx
          have HS : Hid _ := hs
          rw [hs.1] at hle2
          have cu2 := (HJ.out.2.cell (World.block_lt_of_cell? w0 _ cu)).trans cu
          have hrow := HJ.out.1
          have hbw := HJ.out.2.size
          have HB : Hid _ := HJ.out.2
          clear hge hs HJ cu
          generalize catN (ps.take j) = t at *
          generalize catV (ps.take j) = xs at *
          by_cases hq0 : qn = 0
          · subst hq0
            have hqx : qx = [] := List.eq_nil_of_length_eq_zero (by simpa using hxl)
            subst hqx
            have htv : t ≤ vc := by
              rcases hrow.2 with ⟨e, h0⟩ | ⟨g, cap, cur, e, _, _, h3, _⟩
              · omega
              · cases e; exact h3
            have HF : Hid (wr.ownsRow w0.heap.size 39 1 (.slice va t vc) (catN (ps.take (j + 1))) (catV (ps.take (j + 1))) ∧ Below w0.heap.size w0 wr) := by
              rw [HS.out.1, HS.out.2, List.append_nil]
              exact ⟨hrow, HB.out⟩
            clear hrow HB HS
            go_wp2_with (first | (at_builtin; refine Aside.out ?_))
            delta Aside
            refine wpList_app0 rfl _ _ 116 rfl 39 i0 Tryz.underlying116 hi0 va t vc rfl htv a c rfl ?_
            clear cu2
            go_wp2_with fail
            exact ⟨⟨j + 1, hlt, by simp, HF⟩, by simp [intOf]; omega⟩
          · obtain ⟨sb, so, rfl, hcs⟩ := hx.resolve_left hq0
            go_wp2_with (first | (at_builtin; refine Aside.out ?_))
            delta Aside
            refine wpList_append_own_at _ rfl _ _ 116 rfl w0.heap.size 39 i0 _ 1 24 Tryz.underlying116 hi0 hz0 hz1 hz2 rfl (by decide) _ _ _ rfl hrow ⟨_, _, none⟩ qn c qx rfl hxl (fun k z hk => by rw [Addr.add_lit]; exact (HB.out.cell (World.block_lt_of_cell? w0 _ (hcs k z hk))).trans (hcs k z hk)) hx1 (by unfold maxLen; omega) (by omega) hbw ?_
            intro v8 w8 hown8 hgrow8 _ hat8
            have K8 : Kept (fun k => (Value.slice va t vc).ownBlock = some k) wr w8 := Kept.grown (Kept.refl _ wr) hgrow8 (fun k e => e)
            have HF : Hid (w8.ownsRow w0.heap.size 39 1 v8 (catN (ps.take (j + 1))) (catV (ps.take (j + 1))) ∧ Below w0.heap.size w0 w8) := by
              rw [HS.out.1, HS.out.2]
              exact ⟨hown8, HB.out.trans (K8.below hbw (fun q hq => (ownsRow_lt hrow hq).1))⟩
            clear hown8 hgrow8 hat8 K8 hrow cu2 hcs
            go_wp2_with fail
            exact ⟨⟨j + 1, hlt, by simp, HF⟩, by simp [intOf]; omega⟩
        · have dj : decide ((j : Int) < (i : Int)) = false := decide_eq_false (by omega)
          obtain rfl : j = i := by omega
          have HF : Hid (wr.ownsRow w0.heap.size 39 1 (.slice va (catN (ps.take j)) vc) (catN ps) (catV ps) ∧ Below w0.heap.size w0 wr) := by
            have := HJ.out
            rw [List.take_of_length_le (by rw [HN.out]; exact Nat.le_refl _)] at this ⊢
            exact this
          clear HJ
          generalize catN (ps.take j) = t at *
          go_wp2_with fail
          go_ret
          have := HF.out
          rw [HW0.out] at this
          exact ⟨_, rfl, this⟩
end Go.Proofs.YtlehlgipbhfioaaGreat

namespace Go.Proofs.YtlehlgipbhfioaaGreat
open Go.RowKit Go.Maps

def pmC (bk tv fv : Value) (vb n : Nat) (lv : Value) (kb : Nat) : Nat → Value := fun j => if j = 0 then bk else if j = 1 then tv else if j = 2 then fv else if j = 3 then .map (some vb) else if j = 4 then .int .i64 (n : Int) else if j = 5 then lv else .map (some kb)
/-- A problem. -/
structure Pm (S : Nat → Prop) (W : World) (pb vb kb : Nat) (bk tv fv lv : Value) (P : Pb) : Prop where
  cells : W.rowIs pb 118 7 (pmC bk tv fv vb P.count lv kb)
  vars : VrIs W vb P.vars
  known : KnIs W kb P.known
  vk : vb ≠ kb
  lt : ∀ k, S k → k < W.heap.size
  rows : ∃ rs : List Value, W.ownsRow 0 39 1 lv rs.length rs ∧ rs.length = P.lemmas.length ∧ ∀ (i : Nat) (c : List Int), P.lemmas[i]? = some c → ∃ g cap, rs[i]? = some (.slice (some ⟨g, 0, none⟩) c.length cap) ∧ S g ∧ Rw W g c
def PD (pb vb kb : Nat) (lv : Value) (k : Nat) : Prop := k = pb ∨ k = vb ∨ k = kb ∨ lv.ownBlock = some k
/-- What a step of a problem leaves. -/
structure PmX (S : Nat → Prop) (w : World) (S' : Nat → Prop) (W : World) (pb vb kb : Nat) (bk tv fv lv lv' : Value) (P' : Pb) : Prop where
  is : Pm S' W pb vb kb bk tv fv lv' P'
  new : ∀ k, S' k → S k ∨ w.heap.size ≤ k
  kept : Kept (PD pb vb kb lv) w W
  at_ : lv'.ownBlock = lv.ownBlock ∨ ∀ k, lv'.ownBlock = some k → w.heap.size ≤ k
theorem PmX.start {S : Nat → Prop} {w : World} {pb vb kb : Nat} {bk tv fv lv : Value} {P : Pb} (h : Pm S w pb vb kb bk tv fv lv P) : PmX S w S w pb vb kb bk tv fv lv lv P := ⟨h, fun _ => Or.inl, Kept.refl _ _, Or.inl rfl⟩
theorem PmX.trans {S S1 S2 : Nat → Prop} {w w1 w2 : World} {pb vb kb : Nat} {bk tv fv lv lv1 lv2 : Value} {P1 P2 : Pb} (h1 : PmX S w S1 w1 pb vb kb bk tv fv lv lv1 P1) (h2 : PmX S1 w1 S2 w2 pb vb kb bk tv fv lv1 lv2 P2) : PmX S w S2 w2 pb vb kb bk tv fv lv lv2 P2 := by
  have z1 := h1.kept.size
  refine ⟨h2.is, fun k hk => (h2.new k hk).elim (fun e => h1.new k e) (fun e => Or.inr (Nat.le_trans z1 e)), ⟨h2.kept.os.trans h1.kept.os, h2.kept.tape.trans h1.kept.tape, h2.kept.output.trans h1.kept.output, Nat.le_trans z1 h2.kept.size, fun k hk hn => ?_⟩, ?_⟩
  · refine (h2.kept.block k (Nat.lt_of_lt_of_le hk z1) ?_).trans (h1.kept.block k hk hn)
    rintro (e | e | e | e)
    · exact hn (Or.inl e)
    · exact hn (Or.inr (Or.inl e))
    · exact hn (Or.inr (Or.inr (Or.inl e)))
    · rcases h1.at_ with e1 | e1
      · exact hn (Or.inr (Or.inr (Or.inr (by rw [← e1]; exact e))))
      · have := e1 k e; omega
  · rcases h2.at_ with e | e
    · rw [e]; exact h1.at_
    · exact Or.inr (fun k hk => Nat.le_trans z1 (e k hk))
theorem Rw.nemap {W : World} {g : Nat} {c : List Int} (h : Rw W g c) {k : Nat} {es : _} {ck : _} (hk : W.heap[k]? = some (Obj.map es ck)) : g ≠ k := by
  obtain ⟨N, F, _, h2, _⟩ := h
  exact fun e => drow_map h2 hk e.symm
theorem Rw.nerow {W : World} {g : Nat} {c : List Int} (h : Rw W g c) {b n : Nat} {t : TypeId} {f : Nat → Value} (hr : W.rowIs b t n f) (ht : t ≠ 3) : g ≠ b := by
  obtain ⟨N, F, _, h2, _⟩ := h
  exact rowIs_neD h2 hr ht.symm
theorem Rw.neown {W : World} {g : Nat} {c : List Int} (h : Rw W g c) {base size n : Nat} {t : TypeId} {v : Value} {xs : List Value} (hr : W.ownsRow base t size v n xs) (ht : t ≠ 3) : v.ownBlock ≠ some g := by
  obtain ⟨N, F, _, h2, _⟩ := h
  exact rowIs_type h2 ht.symm hr
theorem Pm.keep {S : Nat → Prop} {W W' : World} {pb vb kb : Nat} {bk tv fv lv : Value} {P : Pb} (h : Pm S W pb vb kb bk tv fv lv P) (hs : W.heap.size ≤ W'.heap.size) (h1 : W'.heap[pb]? = W.heap[pb]?) (h2 : W'.heap[vb]? = W.heap[vb]?) (h3 : W'.heap[kb]? = W.heap[kb]?) (h4 : ∀ b, lv.ownBlock = some b → W'.heap[b]? = W.heap[b]?) (h5 : ∀ g c, S g → Rw W g c → W'.heap[g]? = W.heap[g]?) : Pm S W' pb vb kb bk tv fv lv P := by
  obtain ⟨rs, r1, r2, r3⟩ := h.rows
  refine ⟨h.cells.of_block h1, h.vars.keep h2, h.known.keep h3, h.vk, fun k hk => Nat.lt_of_lt_of_le (h.lt k hk) hs, rs, ownsRow_blk r1 h4, r2, fun i c hi => ?_⟩
  obtain ⟨g, cap, q1, q0, q2⟩ := r3 i c hi
  exact ⟨g, cap, q1, q0, q2.block (h5 g c q0 q2)⟩
theorem Pm.below {S : Nat → Prop} {W W' : World} {pb vb kb : Nat} {bk tv fv lv : Value} {P : Pb} (h : Pm S W pb vb kb bk tv fv lv P) (hB : Below W.heap.size W W') : Pm S W' pb vb kb bk tv fv lv P := by
  obtain ⟨es, ck, e1⟩ := h.vars.lt
  obtain ⟨es', ck', e2⟩ := h.known.lt
  obtain ⟨rs, r1, _⟩ := h.rows
  exact h.keep hB.size (hB.block _ h.cells.lt) (hB.block _ (Array.getElem?_eq_some_iff.1 e1).1) (hB.block _ (Array.getElem?_eq_some_iff.1 e2).1) (fun b hb => hB.block b (ownsRow_lt r1 hb).2) (fun g c _ hr => hB.block g hr.lt)
theorem PmX.below {S S' : Nat → Prop} {w W W' : World} {pb vb kb : Nat} {bk tv fv lv lv' : Value} {P : Pb} (h : PmX S w S' W pb vb kb bk tv fv lv lv' P) (hB : Below W.heap.size W W') : PmX S w S' W' pb vb kb bk tv fv lv lv' P := ⟨h.is.below hB, h.new, h.kept.under hB, h.at_⟩

theorem PmX.wider {S S' S2 : Nat → Prop} {w W : World} {pb vb kb : Nat} {bk tv fv lv lv' : Value} {P : Pb} (h : PmX S w S' W pb vb kb bk tv fv lv lv' P) (h1 : ∀ k, S' k → S2 k) (h2 : ∀ k, S2 k → S k ∨ w.heap.size ≤ k) (h3 : ∀ k, S2 k → k < W.heap.size) : PmX S w S2 W pb vb kb bk tv fv lv lv' P := by
  obtain ⟨rs, r1, r2, r3⟩ := h.is.rows
  refine ⟨⟨h.is.cells, h.is.vars, h.is.known, h.is.vk, h3, rs, r1, r2, fun i c hi => ?_⟩, h2, h.kept, h.at_⟩
  obtain ⟨g, cap, q1, q0, q2⟩ := r3 i c hi
  exact ⟨g, cap, q1, h1 g q0, q2⟩
/-- A lemma more. -/
theorem Pm.said {S : Nat → Prop} {w W1 w8 : World} {pb vb kb : Nat} {bk tv fv lv v8 : Value} {P : Pb} (h : Pm S w pb vb kb bk tv fv lv P) {rs : List Value} {g cap : Nat} {c : List Int} (hrs : rs.length = P.lemmas.length ∧ ∀ (i : Nat) (c : List Int), P.lemmas[i]? = some c → ∃ g cap, rs[i]? = some (.slice (some ⟨g, 0, none⟩) c.length cap) ∧ S g ∧ Rw w g c)
    (hg : Rw w g c) (hrow : w.ownsRow 0 39 1 lv rs.length rs) (hB : Below w.heap.size w W1) (hown : w8.ownsRow 0 39 1 v8 (rs.length + 1) (rs ++ [.slice (some ⟨g, 0, none⟩) c.length cap])) (hgrow : W1.grownBy w8 lv.ownBlock) (hat : v8.ownBlock = lv.ownBlock ∨ ∀ k, v8.ownBlock = some k → W1.heap.size ≤ k) :
    w8.cell? ⟨pb, 5, none⟩ = some lv ∧ w8.frozen? ⟨pb, 5, none⟩ = false ∧ Pm (fun k => S k ∨ k = g) (w8.setCell ⟨pb, 5, none⟩ v8) pb vb kb bk tv fv v8 { P with lemmas := P.lemmas ++ [c] } ∧ Kept (PD pb vb kb lv) w (w8.setCell ⟨pb, 5, none⟩ v8) ∧ (v8.ownBlock = lv.ownBlock ∨ ∀ k, v8.ownBlock = some k → w.heap.size ≤ k) := by
  have h1 := h.below hB
  have row1 := ownsRow_below hrow hB
  obtain ⟨es, ck, e1⟩ := h1.vars.lt
  obtain ⟨es', ck', e2⟩ := h1.known.lt
  have nb8 : ∀ k, k < W1.heap.size → lv.ownBlock ≠ some k → w8.heap[k]? = W1.heap[k]? := fun k hk hne => hgrow.block k hk (fun e => hne e.symm)
  have hp : lv.ownBlock ≠ some pb := rowIs_type h1.cells (by decide) row1
  have c8 : w8.rowIs pb 118 7 (pmC bk tv fv vb P.count lv kb) := h1.cells.of_block (nb8 _ h1.cells.lt hp)
  have v8e := nb8 vb (Array.getElem?_eq_some_iff.1 e1).1 (down_map row1 e1)
  have k8e := nb8 kb (Array.getElem?_eq_some_iff.1 e2).1 (down_map row1 e2)
  have K9 : Kept (fun k => k = pb) w8 (w8.setCell ⟨pb, 5, none⟩ v8) := Kept.setCell (S := fun k => k = pb) (Kept.refl _ w8) (p := ⟨pb, 5, none⟩) rfl v8
  have nb9 : ∀ k, k < w8.heap.size → k ≠ pb → (w8.setCell ⟨pb, 5, none⟩ v8).heap[k]? = w8.heap[k]? := fun k hk hne => K9.block k hk hne
  have e1' : w8.heap[vb]? = some (Obj.map es ck) := v8e.trans e1
  have e2' : w8.heap[kb]? = some (Obj.map es' ck') := k8e.trans e2
  have hp8 : v8.ownBlock ≠ some pb := rowIs_type c8 (by decide) hown
  have rwk : ∀ {g : Nat} {c : List Int}, Rw w g c → Rw (w8.setCell ⟨pb, 5, none⟩ v8) g c := fun {g c} hr => by
    have hr1 : Rw W1 g c := hr.block (hB.block g hr.lt)
    have hr8 : Rw w8 g c := hr1.block (nb8 g hr1.lt (hr1.neown row1 (by decide)))
    exact hr8.block (nb9 g hr8.lt (hr8.nerow c8 (by decide)))
  refine ⟨c8.cell (i := 5) (by omega), c8.frozen 5, ⟨?_, ?_, ?_, h.vk, fun k hk => ?_, rs ++ [.slice (some ⟨g, 0, none⟩) c.length cap], ?_, by simp [hrs.1], fun i c' hi => ?_⟩, ?_, ?_⟩
  · refine (c8.set 5 v8).congr (fun j hj => ?_)
    unfold pmC
    by_cases e : j = 5
    · subst e; simp
    · rw [if_neg e]
      have : j = 0 ∨ j = 1 ∨ j = 2 ∨ j = 3 ∨ j = 4 ∨ j = 6 := by omega
      rcases this with rfl | rfl | rfl | rfl | rfl | rfl <;> rfl
  · exact (h1.vars.keep v8e).keep (nb9 vb (Array.getElem?_eq_some_iff.1 e1').1 (drow_map c8 e1'))
  · exact (h1.known.keep k8e).keep (nb9 kb (Array.getElem?_eq_some_iff.1 e2').1 (drow_map c8 e2'))
  · have hz : w.heap.size ≤ (w8.setCell ⟨pb, 5, none⟩ v8).heap.size := Nat.le_trans hB.size (Nat.le_trans hgrow.size K9.size)
    rcases hk with hk | hk
    · exact Nat.lt_of_lt_of_le (h.lt k hk) hz
    · rw [hk]
      exact Nat.lt_of_lt_of_le hg.lt hz
  · have := ownsRow_blk hown (W' := w8.setCell ⟨pb, 5, none⟩ v8) (fun b hb => nb9 b (ownsRow_lt hown hb).2 (fun e => hp8 (e ▸ hb)))
    simpa using this
  · by_cases hil : i < P.lemmas.length
    · simp only at hi
      rw [List.getElem?_append_left hil] at hi
      obtain ⟨g', cap', q1, q0, q2⟩ := hrs.2 i c' hi
      exact ⟨g', cap', by rw [List.getElem?_append_left (by omega)]; exact q1, Or.inl q0, rwk q2⟩
    · simp only at hi
      rw [List.getElem?_append_right (by omega)] at hi
      have hi0 : i - P.lemmas.length = 0 := by
        have := (List.getElem?_eq_some_iff.1 hi).1
        simp at this
        omega
      rw [hi0] at hi
      simp at hi
      subst hi
      exact ⟨g, cap, by rw [List.getElem?_append_right (by omega), hrs.1, hi0]; rfl, Or.inr rfl, rwk hg⟩
  · refine ⟨K9.os.trans (hgrow.os.trans hB.os), K9.tape.trans (hgrow.tape.trans hB.tape), K9.output.trans (hgrow.output.trans hB.output), Nat.le_trans hB.size (Nat.le_trans hgrow.size K9.size), fun k hk hn => ?_⟩
    have hk1 : k < W1.heap.size := Nat.lt_of_lt_of_le hk hB.size
    rw [nb9 k (Nat.lt_of_lt_of_le hk1 hgrow.size) (fun e => hn (Or.inl e)), nb8 k hk1 (fun e => hn (Or.inr (Or.inr (Or.inr e)))), hB.block k hk]
  · exact hat.imp id (fun e k hk => Nat.le_trans hB.size (e k hk))

set_option maxRecDepth 100000 in
set_option maxHeartbeats 1000000 in
theorem dsay_in (S : Nat → Prop) (w : World) (pb vb kb : Nat) (bk tv fv lv : Value) (P : Pb) (h : Pm S w pb vb kb bk tv fv lv P) (hl : P.lemmas.length ≤ 1000000000) (g cap : Nat) (c : List Int) (hg : Rw w g c) :
    Calls Tryz.prog 122 #[.pointer (some ⟨pb, 0, none⟩), .slice (some ⟨g, 0, none⟩) c.length cap] w fun e w' => e = .returned (.tuple #[]) ∧ ∃ lv', Pm (fun k => S k ∨ k = g) w' pb vb kb bk tv fv lv' { P with lemmas := P.lemmas ++ [c] } ∧ Kept (PD pb vb kb lv) w w' ∧ (lv'.ownBlock = lv.ownBlock ∨ ∀ k, lv'.ownBlock = some k → w.heap.size ≤ k) := by
  obtain ⟨rs, r1, r2, r3⟩ := h.rows
  obtain ⟨la, lc, hlv⟩ := ownsRow_form r1
  subst hlv
  have c5 : w.cell? ⟨pb, 5, none⟩ = some (.slice la rs.length lc) := h.cells.cell (i := 5) (by omega)
  obtain ⟨i0, hi0, hz0, hz1, hz2⟩ := info_parts infoIntsq
  have HM : Hid (_ ∧ _ ∧ _ ∧ _) := And.intro h (And.intro (And.intro r2 r3) (And.intro hg r1))
  have zp := h.cells.lt
  have c5a : ∀ O, (w.alloc O).cell? ⟨pb, 5, none⟩ = some (.slice la rs.length lc) := fun O => Lib.cell?_alloc_some _ c5
  have hrl : rs.length ≤ 1000000000 := by omega
  clear h r2 r3 hg hl
  go_enter Tryz.func122, Tryz.ntmps122
  go_wp2_with (first | (at_builtin; refine Aside.out ?_))
  delta Aside
  refine wpList_append_own_at _ rfl _ _ 116 rfl 0 39 i0 _ 1 24 Tryz.underlying116 hi0 hz0 hz1 hz2 rfl (by decide) _ _ _ rfl (r1.alloc _) ⟨_, 0, none⟩ 1 1 [.slice (some ⟨g, 0, none⟩) c.length cap] rfl rfl (cell_oneV w _ _) (by simp [Value.oneCell']) (by unfold maxLen; omega) (by omega) (by simp) ?_
  intro v8 w8 hown8 hgrow8 _ hat8
  obtain ⟨d1, d2, d3⟩ := HM.out.1.said HM.out.2.1 HM.out.2.2.1 r1 ((Below.refl _ _).alloc (Nat.le_refl _) _) hown8 hgrow8 (hat8.imp id (fun e k hk => by rw [e] at hk; cases hk; exact Nat.le_refl _))
  obtain ⟨g8, cap8, hv8⟩ := ownsRow_succ hown8
  have HF : Hid _ := d3
  subst hv8
  clear hown8 hgrow8 hat8 HM r1 d3
  go_wp2_with fail
  refine ⟨rfl, .tuple #[], by simp [results, Tryz.results122], rfl, ?_⟩
  exact ⟨_, HF.out⟩

theorem Pm.count {S : Nat → Prop} {W : World} {pb vb kb : Nat} {bk tv fv lv : Value} {P : Pb} (h : Pm S W pb vb kb bk tv fv lv P) (n : Nat) : PmX S W S (W.setCell ⟨pb, 4, none⟩ (.int .i64 (n : Int))) pb vb kb bk tv fv lv lv { P with count := n } := by
  have K9 : Kept (fun k => k = pb) W (W.setCell ⟨pb, 4, none⟩ (.int .i64 (n : Int))) := Kept.setCell (S := fun k => k = pb) (Kept.refl _ W) (p := ⟨pb, 4, none⟩) rfl _
  obtain ⟨es, ck, e1⟩ := h.vars.lt
  obtain ⟨es', ck', e2⟩ := h.known.lt
  obtain ⟨rs, r1, r2, r3⟩ := h.rows
  refine ⟨⟨?_, h.vars.keep (K9.block _ (Array.getElem?_eq_some_iff.1 e1).1 (drow_map h.cells e1)), h.known.keep (K9.block _ (Array.getElem?_eq_some_iff.1 e2).1 (drow_map h.cells e2)), h.vk, fun k hk => Nat.lt_of_lt_of_le (h.lt k hk) K9.size, rs, ownsRow_blk r1 (fun b hb => K9.block b (ownsRow_lt r1 hb).2 (fun e => rowIs_type h.cells (by decide) r1 (e ▸ hb))), r2, fun i c hi => ?_⟩, fun _ => Or.inl, K9.mono (fun _ _ e => Or.inl e), Or.inl rfl⟩
  · refine (h.cells.set 4 _).congr (fun j hj => ?_)
    unfold pmC
    by_cases e : j = 4
    · subst e; simp
    · rw [if_neg e]
      have : j = 0 ∨ j = 1 ∨ j = 2 ∨ j = 3 ∨ j = 5 ∨ j = 6 := by omega
      rcases this with rfl | rfl | rfl | rfl | rfl | rfl <;> rfl
  · obtain ⟨g, cap, q1, q0, q2⟩ := r3 i c hi
    exact ⟨g, cap, q1, q0, q2.block (K9.block g q2.lt (q2.nerow h.cells (by decide)))⟩
theorem Pm.put {S : Nat → Prop} {W W2 : World} {pb vb kb : Nat} {bk tv fv lv : Value} {P : Pb} (h : Pm S W pb vb kb bk tv fv lv P) {vs : List (Pr × Nat)} (hv : VrIs W2 vb vs) (K9 : Kept1 vb W W2) : PmX S W S W2 pb vb kb bk tv fv lv lv { P with vars := vs } := by
  obtain ⟨es, ck, e1⟩ := h.vars.lt
  obtain ⟨es', ck', e2⟩ := h.known.lt
  obtain ⟨rs, r1, r2, r3⟩ := h.rows
  refine ⟨⟨h.cells.of_block (K9.block _ h.cells.lt (fun e => drow_map h.cells e1 e.symm)), hv, h.known.keep (K9.block _ (Array.getElem?_eq_some_iff.1 e2).1 (fun e => h.vk e.symm)), h.vk, fun k hk => Nat.lt_of_lt_of_le (h.lt k hk) K9.size, rs, ownsRow_blk r1 (fun b hb => K9.block b (ownsRow_lt r1 hb).2 (fun e => down_map r1 e1 (e ▸ hb))), r2, fun i c hi => ?_⟩, fun _ => Or.inl, K9.mono (fun _ _ e => Or.inr (Or.inl e)), Or.inl rfl⟩
  obtain ⟨g, cap, q1, q0, q2⟩ := r3 i c hi
  exact ⟨g, cap, q1, q0, q2.block (K9.block g q2.lt (q2.nemap e1))⟩
theorem Pm.learn {S : Nat → Prop} {W W2 : World} {pb vb kb : Nat} {bk tv fv lv : Value} {P : Pb} (h : Pm S W pb vb kb bk tv fv lv P) {ks : List (Pr × List Pr)} (hv : KnIs W2 kb ks) (K9 : Kept1 kb W W2) : PmX S W S W2 pb vb kb bk tv fv lv lv { P with known := ks } := by
  obtain ⟨es, ck, e1⟩ := h.vars.lt
  obtain ⟨es', ck', e2⟩ := h.known.lt
  obtain ⟨rs, r1, r2, r3⟩ := h.rows
  refine ⟨⟨h.cells.of_block (K9.block _ h.cells.lt (fun e => drow_map h.cells e2 e.symm)), h.vars.keep (K9.block _ (Array.getElem?_eq_some_iff.1 e1).1 h.vk), hv, h.vk, fun k hk => Nat.lt_of_lt_of_le (h.lt k hk) K9.size, rs, ownsRow_blk r1 (fun b hb => K9.block b (ownsRow_lt r1 hb).2 (fun e => down_map r1 e2 (e ▸ hb))), r2, fun i c hi => ?_⟩, fun _ => Or.inl, K9.mono (fun _ _ e => Or.inr (Or.inr (Or.inl e))), Or.inl rfl⟩
  obtain ⟨g, cap, q1, q0, q2⟩ := r3 i c hi
  exact ⟨g, cap, q1, q0, q2.block (K9.block g q2.lt (q2.nemap e2))⟩

set_option maxRecDepth 100000 in
set_option maxHeartbeats 1000000 in
theorem dvar_in (S : Nat → Prop) (w : World) (pb vb kb : Nat) (bk tv fv lv : Value) (P : Pb) (h : Pm S w pb vb kb bk tv fv lv P) (hl : P.lemmas.length ≤ 100000000) (hc : P.count < 1000000) (hv : P.vars.length < 1000000) (a : Pr) (ha : PrOk a) :
    Calls Tryz.prog 80 #[.pointer (some ⟨pb, 0, none⟩), .agg #[.int .i64 (a.1 : Int), .int .i64 (a.2 : Int)]] w fun e w' => e = .returned (.int .i64 ((P.vari a).1 : Int)) ∧ ∃ S' lv', PmX S w S' w' pb vb kb bk tv fv lv lv' (P.vari a).2 := by
  have h0 := h.below ((Below.refl _ _).alloc (Nat.le_refl _) (.cells #[.int .i64 (a.1 : Int), .int .i64 (a.2 : Int)] 34))
  have x0 : PmX S w S (w.alloc (.cells #[.int .i64 (a.1 : Int), .int .i64 (a.2 : Int)] 34)) pb vb kb bk tv fv lv lv P := (PmX.start h).below ((Below.refl _ _).alloc (Nat.le_refl _) _)
  have A1 := made_row w #[.int .i64 (a.1 : Int), .int .i64 (a.2 : Int)] 34
  have y1 := A1.cell (i := 0) (by simp)
  have y2 := A1.cell (i := 1) (by simp)
  have c3 : (w.alloc (.cells #[.int .i64 (a.1 : Int), .int .i64 (a.2 : Int)] 34)).cell? ⟨pb, 3, none⟩ = some (.map (some vb)) := h0.cells.cell (i := 3) (by omega)
  have LK : ∀ m, _ := fun m => (show VrIs ((w.alloc (.cells #[.int .i64 (a.1 : Int), .int .i64 (a.2 : Int)] 34)).drewN m) vb P.vars from h0.vars.keep rfl).look ha
  have hnum : P.num a = numV P.vars a := rfl
  cases hn : numV P.vars a with
  | some x =>
    rw [hn] at LK
    have e1 : P.vari a = (x, P) := by unfold Pb.vari; rw [hnum, hn]
    rw [e1]
    have HX : Hid _ := x0
    simp only [Option.getD_some, Option.isSome_some] at LK
    clear x0 h0 h A1 hn hnum e1
    go_enter Tryz.func80, Tryz.ntmps80
    go_wp2_with fail
    go_quiet (fail)
    go_wp2_with fail
    go_ret
    exact ⟨rfl, S, lv, HX.out.below ⟨rfl, rfl, rfl, Nat.le_refl _, fun _ _ => rfl⟩⟩
  | none =>
    rw [hn] at LK
    have e1 : P.vari a = (P.count + 1, { P with count := P.count + 1, vars := P.vars ++ [(a, P.count + 1)], lemmas := if a.1 = a.2 then P.lemmas ++ [[((P.count + 1 : Nat) : Int)]] else P.lemmas }) := by unfold Pb.vari; rw [hnum, hn]
    have HE : Hid _ := e1
    have HN : Hid _ := hn
    have HX : Hid _ := x0
    simp only [Option.getD_none, Option.isSome_none] at LK
    have c4 : (w.alloc (.cells #[.int .i64 (a.1 : Int), .int .i64 (a.2 : Int)] 34)).cell? ⟨pb, 4, none⟩ = some (.int .i64 (P.count : Int)) := h0.cells.cell (i := 4) (by omega)
    have f4 := h0.cells.frozen 4
    have hwc : IntKind.i64.wrap ((P.count : Int) + 1) = (P.count : Int) + 1 := wrap_nat1 (by omega)
    clear x0 h0 h A1 hn hnum e1
    go_enter Tryz.func80, Tryz.ntmps80
    go_wp2_with fail
    go_quiet (fail)
    go_wp2_with fail
    have X1 : PmX S w S ((w.alloc (.cells #[.int .i64 (a.1 : Int), .int .i64 (a.2 : Int)] 34)).drewN nq) pb vb kb bk tv fv lv lv P := HX.out.below ⟨rfl, rfl, rfl, Nat.le_refl _, fun _ _ => rfl⟩
    have X2 := X1.trans (X1.is.count (P.count + 1))
    have ecast : ((P.count + 1 : Nat) : Int) = (P.count : Int) + 1 := by simp
    rw [ecast] at X2
    have hbne : ¬ pb = w.heap.size := by
      obtain ⟨c, hc, _⟩ := HX.out.is.cells
      have := (HX.out.kept.size)
      intro e
      rw [e, heap_alloc_new] at hc
      cases hc
    have b1 : (((w.alloc (.cells #[.int .i64 (a.1 : Int), .int .i64 (a.2 : Int)] 34)).drewN nq).setCell ⟨pb, 4, none⟩ (.int .i64 ((P.count : Int) + 1))).rowIs w.heap.size 34 2 (fun j => if j = 0 then .int .i64 (a.1 : Int) else .int .i64 (a.2 : Int)) := by
      have R : ((w.alloc (.cells #[.int .i64 (a.1 : Int), .int .i64 (a.2 : Int)] 34)).drewN nq).rowIs w.heap.size 34 2 (fun j => if j = 0 then .int .i64 (a.1 : Int) else .int .i64 (a.2 : Int)) := by
        refine World.rowIs.congr (made_row w #[.int .i64 (a.1 : Int), .int .i64 (a.2 : Int)] 34) (fun j hj => ?_)
        have : j = 0 ∨ j = 1 := by omega
        rcases this with rfl | rfl <;> rfl
      refine R.of_block ?_
      simp only [World.setCell]
      rw [Array.getElem?_modify, if_neg hbne]
    generalize (((w.alloc (.cells #[.int .i64 (a.1 : Int), .int .i64 (a.2 : Int)] 34)).drewN nq).setCell ⟨pb, 4, none⟩ (.int .i64 ((P.count : Int) + 1))) = w2 at *
    have c3' : w2.cell? ⟨pb, 3, none⟩ = some (.map (some vb)) := X2.is.cells.cell (i := 3) (by omega)
    have c4' : w2.cell? ⟨pb, 4, none⟩ = some (.int .i64 ((P.count : Int) + 1)) := by
      have := X2.is.cells.cell (i := 4) (by omega)
      rw [this]
      simp [pmC]
    have z1 : w2.cell? ⟨w.heap.size, 0, none⟩ = some (.int .i64 (a.1 : Int)) := b1.cell (i := 0) (by omega)
    have z2 : w2.cell? ⟨w.heap.size, 1, none⟩ = some (.int .i64 (a.2 : Int)) := b1.cell (i := 1) (by omega)
    obtain ⟨W3, hr3, hv3, hk3⟩ := (show VrIs w2.drew vb P.vars from X2.is.vars.keep rfl).store ha HN.out (n := P.count + 1) (by omega) hv
    rw [ecast] at hr3
    have X3 := X2.trans ((X2.is.below (below_drw w2)).put hv3 hk3 |> fun q => (⟨q.is, q.new, ⟨q.kept.os, q.kept.tape, q.kept.output, q.kept.size, q.kept.block⟩, q.at_⟩ : PmX S w2 S W3 pb vb kb bk tv fv lv lv _))
    obtain ⟨es, ck, hes⟩ := X2.is.vars.lt
    have b3 : W3.rowIs w.heap.size 34 2 (fun j => if j = 0 then .int .i64 (a.1 : Int) else .int .i64 (a.2 : Int)) := b1.of_block (hk3.block _ b1.lt (fun e => drow_map b1 hes e.symm))
    have z3 : W3.cell? ⟨w.heap.size, 0, none⟩ = some (.int .i64 (a.1 : Int)) := b3.cell (i := 0) (by omega)
    have z4 : W3.cell? ⟨w.heap.size, 1, none⟩ = some (.int .i64 (a.2 : Int)) := b3.cell (i := 1) (by omega)
    have c4w : W3.cell? ⟨pb, 4, none⟩ = some (.int .i64 ((P.count : Int) + 1)) := by
      have := X3.is.cells.cell (i := 4) (by omega)
      rw [this]
      simp [pmC]
    have HX3 : Hid _ := X3
    clear X1 X2 X3 HX LK y1 y2 c3 c4 f4 hv3 hk3 hes b1 b3
    go_cut [25] from 26 to 33 (fun _ wx => wx = W3)
    case first =>
      go_region_law (fail)
      all_goals
        try simp only [Act.put, List.getElem_toArray, List.getElem_cons_succ, List.getElem_cons_zero, List.setIfInBounds_toArray, List.set_cons_succ, List.set_cons_zero]
        go_wp2_with fail
        go_meet
        case rel => rfl
    case rest =>
      subst hcut
      apply_assumption
      by_cases hab : a.1 = a.2
      · have dab : ((a.1 : Int) == (a.2 : Int)) = true := by rw [hab]; simp
        have HL : Hid ((P.vari a) = (P.count + 1, { P with count := P.count + 1, vars := P.vars ++ [(a, P.count + 1)], lemmas := P.lemmas ++ [[(P.count : Int) + 1]] })) := by show _ = _; rw [HE.out, if_pos hab, ecast]
        have HY : Hid (PmX S w (fun k => S k ∨ k = wc.heap.size) (wc.alloc (.cells #[.int .i64 ((P.count : Int) + 1)] 3)) pb vb kb bk tv fv lv lv _) := (HX3.out.below ((Below.refl _ _).alloc (Nat.le_refl _) (.cells #[.int .i64 ((P.count : Int) + 1)] 3))).wider (fun _ => Or.inl) (fun k hk => hk.imp id (fun e => by rw [e]; exact HX3.out.kept.size)) (fun k hk => by
          simp only [World.alloc, Array.size_push]
          rcases hk with hk | hk
          · exact Nat.lt_succ_of_lt (HX3.out.is.lt k hk)
          · rw [hk]; exact Nat.lt_succ_self _)
        have SAY := dsay_in _ (wc.alloc (.cells #[.int .i64 ((P.count : Int) + 1)] 3)) pb vb kb bk tv fv lv _ HY.out.is (by simp only; omega) wc.heap.size 1 [(P.count : Int) + 1] (rw_new wc [(P.count : Int) + 1] _ rfl)
        clear hab HE HX3 HN
        go_wp2_with (first | (go_at_call 122; refine SAY.mono ?_; rintro e w9 ⟨rfl, lv9, X9, X9k, X9a⟩; refine Aside.out ?_))
        delta Aside
        have Y9 := HY.out.trans (⟨X9, fun k hk => Or.inl (hk.elim id Or.inr), X9k, X9a⟩ : PmX (fun k => S k ∨ k = wc.heap.size) _ _ w9 pb vb kb bk tv fv lv lv9 _)
        have c9 : w9.cell? ⟨pb, 4, none⟩ = some (.int .i64 ((P.count : Int) + 1)) := by
          have := Y9.is.cells.cell (i := 4) (by omega)
          rw [this]
          simp [pmC]
        have HZ : Hid _ := Y9
        clear X9 X9k X9a Y9 SAY HY c4w c4' z1 z2 z3 z4
        apply_assumption
        go_wp2_with fail
        go_ret
        rw [HL.out]
        exact ⟨by simp, _, lv9, HZ.out⟩
      · have dab : ((a.1 : Int) == (a.2 : Int)) = false := by simp; omega
        have HL : Hid ((P.vari a) = (P.count + 1, { P with count := P.count + 1, vars := P.vars ++ [(a, P.count + 1)], lemmas := P.lemmas })) := by show _ = _; rw [HE.out, if_neg hab]
        clear hab HE HN
        go_wp2_with fail
        go_ret
        rw [HL.out]
        exact ⟨by simp, _, lv, HX3.out⟩
end Go.Proofs.YtlehlgipbhfioaaGreat

namespace Go.Proofs.YtlehlgipbhfioaaGreat
open Go.RowKit Go.Maps

theorem infoFormD : (Tryz.prog.info? 36).map (fun i => (i.zero, i.size, i.bytes)) = some (some (.agg #[.int .i64 0, .int .i64 0, .int .i64 0, .slice none 0 0]), 4, 48) := by kernel_rfl

set_option maxRecDepth 100000 in
set_option maxHeartbeats 1000000 in
theorem growF_in (w : World) (n : Nat) (hn : n ≤ 1000000000) :
    Calls Tryz.prog 53 #[.slice none 0 0, .int .i64 (n : Int)] w fun e w' => ∃ v, e = .returned v ∧ w'.ownsRow w.heap.size 36 4 v 0 [] ∧ Below w.heap.size w w' := by
  by_cases h0 : n = 0
  · subst h0
    go_enter Tryz.func53, Tryz.ntmps53
    go_wp2_with fail
    go_ret
    exact ⟨_, rfl, World.ownsRow_nil _ _ _ _, Below.refl _ _⟩
  · have hby : Tryz.t36.bytes = 48 := rfl
    have hk1 : ¬ (281474976710656 < (n : Int) * (Tryz.t36.bytes : Int)) := by rw [hby]; omega
    have hnx : Builtin.nextslicecap n 0 = n := by
      unfold Builtin.nextslicecap
      simp
      omega
    have hk2 : ¬ (281474976710656 < Builtin.nextslicecap n 0 * Tryz.t36.bytes) := by rw [hnx, hby]; omega
    clear hby hnx
    go_enter Tryz.func53, Tryz.ntmps53
    go_wp2_with fail
    obtain ⟨cap, hcap⟩ : ∃ c, (Question.appendCap n 0 36).cut (w.tape w.drawn (Question.appendCap n 0 36)) = c := ⟨_, rfl⟩
    have h1 : n ≤ cap ∧ cap ≤ maxLen := by
      rw [← hcap]
      simp only [Question.cut]
      have := Nat.mod_lt (w.tape w.drawn (Question.appendCap n 0 36)) (show 0 < 2 ^ 63 - n by omega)
      unfold maxLen
      omega
    simp only [hcap]
    clear hcap
    go_ret
    refine ⟨_, rfl, ⟨rfl, Or.inr ⟨w.heap.size, cap, _, rfl, Nat.le_refl _, heap_alloc_new _ _, Nat.zero_le _, h1.2, ?_, rfl⟩⟩, ((Below.refl w.heap.size w).alloc (Nat.le_refl _) _).trans ⟨rfl, rfl, rfl, Nat.le_refl _, fun _ _ => rfl⟩⟩
    rw [Array.size_append, size_zeroCells, size_zeroCells]
    simp
    omega

set_option maxRecDepth 100000 in
set_option maxHeartbeats 1000000 in
theorem catF_in (w : World) (pa : Option Addr) (pc : Nat) (ps : List (Nat × List Value)) (hp : ∀ (i : Nat) (q : Nat × List Value), ps[i]? = some q → ∃ b off u, pa = some ⟨b, off, none⟩ ∧ w.cell? ⟨b, off + i, none⟩ = some u ∧ PartAt 4 w u q.1 q.2) (hN : catN ps ≤ 1000000000) (hl : ps.length ≤ 1000000) :
    Calls Tryz.prog 25 #[.slice pa ps.length pc] w fun e w' => ∃ v, e = .returned v ∧ w'.ownsRow w.heap.size 36 4 v (catN ps) (catV ps) ∧ Below w.heap.size w w' := by
  obtain ⟨n, hn⟩ : ∃ n, ps.length = n := ⟨_, rfl⟩
  have HN : Hid _ := hn
  have HP : Hid _ := hp
  have HC : Hid _ := hN
  rw [hn] at hl ⊢
  clear hp hN hn
  go_enter Tryz.func25, Tryz.ntmps25
  go_wp2_with fail
  go_loopw [3, 11] (fun t3 t11 W => ∃ i : Nat, i ≤ n ∧ t11 = .int .i64 (i : Int) ∧ t3 = .int .i64 (catN (ps.take i) : Int) ∧ W = w) (fun _ t11 _ => n - (intOf t11).toNat)
  case atStart => exact ⟨0, Nat.zero_le _, rfl, by simp [catN], rfl⟩
  case round =>
    obtain ⟨i, hi, rfl, rfl, rfl⟩ := hrel
    have hle := Nat.le_trans (catN_le (ps := ps) i) HC.out
    by_cases hlt : i < n
    · have di : decide ((i : Int) < (n : Int)) = true := decide_eq_true (by omega)
      have hwi : IntKind.i64.wrap ((i : Int) + 1) = (i : Int) + 1 := wrap_nat1 (by omega)
      have hil : i < ps.length := by rw [HN.out]; exact hlt
      have hge := List.getElem?_eq_getElem hil
      obtain ⟨b, off, u, rfl, cu, a, c, rfl, _⟩ := HP.out i _ hge
      have hs := cat_succ hge
      have hle2 := Nat.le_trans (catN_le (ps := ps) (i + 1)) HC.out
      generalize ps[i] = q at *
      obtain ⟨qn, qx⟩ := q
      simp only at cu hs
      have HS : Hid _ := hs.1
      rw [hs.1] at hle2
      clear hge hs
      generalize catN (ps.take i) = t at *
      have hwt : IntKind.i64.wrap ((t : Int) + (qn : Int)) = (t : Int) + (qn : Int) := by rw [IntKind.wrap_i64]; omega
      have dn : decide ((t : Int) + (qn : Int) < 0) = false := decide_eq_false (by omega)
      go_wp2_with fail
      exact ⟨⟨i + 1, hlt, by simp, by rw [HS.out]; simp, by trivial⟩, by simp [intOf]; omega⟩
    · have di : decide ((i : Int) < (n : Int)) = false := decide_eq_false (by omega)
      obtain rfl : i = n := by omega
      have hta : ps.take i = ps := List.take_of_length_le (by rw [HN.out]; exact Nat.le_refl _)
      rw [hta] at hle ⊢
      have GR := growF_in wr (catN ps) hle
      clear hta
      obtain ⟨tot, htot⟩ : ∃ t, t = catN ps := ⟨_, rfl⟩
      rw [← htot] at GR hle ⊢
      have HTO : Hid _ := htot
      clear htot
      go_wp2_with (first | (go_at_call 53; refine GR.mono ?_; rintro e w1 ⟨v1, rfl, R1, B1⟩))
      have HI0 : Hid (w1.ownsRow wr.heap.size 36 4 v1 (catN (ps.take 0)) (catV (ps.take 0)) ∧ Below wr.heap.size wr w1) := ⟨R1, B1⟩
      clear R1 B1 GR
      obtain ⟨w0, hw0⟩ : ∃ x, x = wr := ⟨_, rfl⟩
      rw [← hw0] at HI0 HP
      have HW0 : Hid _ := hw0
      clear hw0
      obtain ⟨i0, hi0, hz0, hz1, hz2⟩ := info_parts infoFormD
      go_loopw [6, 27] (fun t6 t27 W => ∃ j : Nat, j ≤ i ∧ t27 = .int .i64 (j : Int) ∧ Hid (W.ownsRow w0.heap.size 36 4 t6 (catN (ps.take j)) (catV (ps.take j)) ∧ Below w0.heap.size w0 W)) (fun _ t27 _ => i - (intOf t27).toNat)
      case atStart => exact ⟨0, Nat.zero_le _, rfl, HI0⟩
      case round =>
        obtain ⟨j, hj, rfl, HJ⟩ := hrel
        clear HI0
        obtain ⟨va, vc, hva⟩ := ownsRow_form HJ.out.1
        subst hva
        by_cases hlt : j < i
        · have dj : decide ((j : Int) < (i : Int)) = true := decide_eq_true (by omega)
          have hwj : IntKind.i64.wrap ((j : Int) + 1) = (j : Int) + 1 := wrap_nat1 (by omega)
          have hjl : j < ps.length := by rw [HN.out]; exact hlt
          have hge := List.getElem?_eq_getElem hjl
          obtain ⟨b, off, u, rfl, cu, a, c, rfl, hxl, hx1, hx⟩ := HP.out j _ hge
          have hs := cat_succ hge
          have hle2 := Nat.le_trans (catN_le (ps := ps) (j + 1)) HC.out
          generalize ps[j] = q at *
          obtain ⟨qn, qx⟩ := q
          simp only at cu hs hxl hx1 hx
          have HS : Hid _ := hs
          rw [hs.1] at hle2
          have cu2 := (HJ.out.2.cell (World.block_lt_of_cell? w0 _ cu)).trans cu
          have hrow := HJ.out.1
          have hbw := HJ.out.2.size
          have HB : Hid _ := HJ.out.2
          clear hge hs HJ cu
          generalize catN (ps.take j) = t at *
          generalize catV (ps.take j) = xs at *
          by_cases hq0 : qn = 0
          · subst hq0
            have hqx : qx = [] := List.eq_nil_of_length_eq_zero (by simpa using hxl)
            subst hqx
            have htv : t ≤ vc := by
              rcases hrow.2 with ⟨e, h0⟩ | ⟨g, cap, cur, e, _, _, h3, _⟩
              · omega
              · cases e; exact h3
            have HF : Hid (wr.ownsRow w0.heap.size 36 4 (.slice va t vc) (catN (ps.take (j + 1))) (catV (ps.take (j + 1))) ∧ Below w0.heap.size w0 wr) := by
              rw [HS.out.1, HS.out.2, List.append_nil]
              exact ⟨hrow, HB.out⟩
            clear hrow HB HS
            go_wp2_with (first | (at_builtin; refine Aside.out ?_))
            delta Aside
            refine wpList_app0 rfl _ _ 30 rfl 36 i0 Tryz.underlying30 hi0 va t vc rfl htv a c rfl ?_
            clear cu2
            go_wp2_with fail
            exact ⟨⟨j + 1, hlt, by simp, HF⟩, by simp [intOf]; omega⟩
          · obtain ⟨sb, so, rfl, hcs⟩ := hx.resolve_left hq0
            go_wp2_with (first | (at_builtin; refine Aside.out ?_))
            delta Aside
            refine wpList_append_own_at _ rfl _ _ 30 rfl w0.heap.size 36 i0 _ 4 48 Tryz.underlying30 hi0 hz0 hz1 hz2 rfl (by decide) _ _ _ rfl hrow ⟨_, _, none⟩ qn c qx rfl hxl (fun k z hk => by rw [Addr.add_lit]; exact (HB.out.cell (World.block_lt_of_cell? w0 _ (hcs k z hk))).trans (hcs k z hk)) hx1 (by unfold maxLen; omega) (by omega) hbw ?_
            intro v8 w8 hown8 hgrow8 _ hat8
            have K8 : Kept (fun k => (Value.slice va t vc).ownBlock = some k) wr w8 := Kept.grown (Kept.refl _ wr) hgrow8 (fun k e => e)
            have HF : Hid (w8.ownsRow w0.heap.size 36 4 v8 (catN (ps.take (j + 1))) (catV (ps.take (j + 1))) ∧ Below w0.heap.size w0 w8) := by
              rw [HS.out.1, HS.out.2]
              exact ⟨hown8, HB.out.trans (K8.below hbw (fun q hq => (ownsRow_lt hrow hq).1))⟩
            clear hown8 hgrow8 hat8 K8 hrow cu2 hcs
            go_wp2_with fail
            exact ⟨⟨j + 1, hlt, by simp, HF⟩, by simp [intOf]; omega⟩
        · have dj : decide ((j : Int) < (i : Int)) = false := decide_eq_false (by omega)
          obtain rfl : j = i := by omega
          have HF : Hid (wr.ownsRow w0.heap.size 36 4 (.slice va (catN (ps.take j)) vc) (catN ps) (catV ps) ∧ Below w0.heap.size w0 wr) := by
            have := HJ.out
            rw [List.take_of_length_le (by rw [HN.out]; exact Nat.le_refl _)] at this ⊢
            exact this
          clear HJ
          generalize catN (ps.take j) = t at *
          go_wp2_with fail
          go_ret
          have := HF.out
          rw [HW0.out] at this
          exact ⟨_, rfl, this⟩
end Go.Proofs.YtlehlgipbhfioaaGreat
