/- Package logic: Eval, up to its call of fold. Package logic: Eval. Package logic: what a formula comes to, by what it is alone. Package logic: Show, Eval, Atoms of a Form, by what it is. law05: alive. -/
import Derived.Test.YtinphcnknionmaaP44
import Derived.Test.YtinphcnknionmaaLoU
import Derived.Test.YtinphcnknionmaaP37
import Derived.Test.YtinphcnknionmaaShC
import Derived.Test.YtinphcnknionmaaLoYb
import Derived.Test.YtinphcnknionmaaP40
namespace Go.Proofs.Ytinphcnknionmaa
open Go.RowKit Go.Shelf

theorem store_func (P : Program) (W : World) (a : Addr) (m : Mode) (fn : Fn) (first cap : Array Value) : (store a (.func fn first cap) m).run P W = stored P W a (.func fn first cap) m := run_store P W a _ m rfl
attribute [local go_sem] store_func

/-- What Eval makes before it calls fold. -/
def evW (w : World) (op x y : Int) (kv : Value) (ca : Option Addr) (cn cc : Nat) : World :=
  (((w.alloc (.cells #[.int .i64 op, .int .i64 x, .int .i64 y, kv] 89)).alloc (.cells #[.slice ca cn cc] 40)).alloc (.cells #[.int .u64 (cn : Int)] 159)).alloc (.cells #[.func (.func 135) #[] #[.pointer (some ⟨w.heap.size + 2, 0, none⟩), .pointer (some ⟨w.heap.size + 1, 0, none⟩)]] 214)

set_option maxRecDepth 100000 in
set_option maxHeartbeats 2000000 in
theorem eval_w (w : World) (op x y : Int) (a : Option Addr) (n cap : Nat) (ca : Option Addr) (cn cc : Nat) (hcn : cn ≤ 9223372036854775807) (b : Bool) (B : Nat)
    (HF : Calls Try.prog 136 #[.pointer (some ⟨w.heap.size, 0, none⟩), .func (.func 137) #[] #[.pointer (some ⟨w.heap.size + 3, 0, none⟩)]] (evW w op x y (.slice a n cap) ca cn cc) fun e w' => e = .returned (.bool b) ∧ Below B w w') :
    Calls Try.prog 106 #[.agg #[.int .i64 op, .int .i64 x, .int .i64 y, .slice a n cap], .slice ca cn cc] w fun e w' => e = .returned (.bool b) ∧ Below B w w' := by
  have hwr : IntKind.u64.wrap (cn : Int) = (cn : Int) := by rw [IntKind.wrap_u64]; omega
  unfold evW at HF
  go_enter Try.func106, Try.ntmps106
  go_wp2_with (first | (go_at_call 136; refine HF.mono ?_; rintro e w2 ⟨rfl, B2⟩))
  go_ret
  exact ⟨rfl, B2⟩

theorem one_row (w : World) (v : Value) (ty : TypeId) : (w.alloc (.cells #[v] ty)).rowIs w.heap.size ty 1 (fun _ => v) := World.rowIs.congr (made_row w #[v] ty) (fun j hj => by
  have : j = 0 := by simp at hj; omega
  subst this; rfl)
theorem row_alloc {w : World} {b n : Nat} {f : Nat → Value} {ty : TypeId} (o : Obj) (h : w.rowIs b ty n f) : (w.alloc o).rowIs b ty n f := h.of_block (Below.heap_alloc w o b (World.rowIs.lt h))

/-- What lies in that world. -/
theorem evW_at (w : World) (op x y : Int) (kv : Value) (kids : List Lf) (hk : KidsIn kv kids) (hks : ∀ k ∈ kids, Here w k) (ca : Option Addr) (cn cc : Nat) (cls : List Int) (hl : cls.length = cn) (hc : cls = [] ∨ ∃ g off, ca = some ⟨g, off, none⟩ ∧ ∀ (j : Nat) (c : Int), cls[j]? = some c → w.cell? ⟨g, off + j, none⟩ = some (.int .i64 c)) (hs : cn ≤ 9223372036854775807) :
    Here (evW w op x y kv ca cn cc) (.mk w.heap.size 0 op x y kv kids) ∧ Cls (evW w op x y kv ca cn cc) (w.heap.size + 2) (w.heap.size + 1) ca cn cc cls ∧
    (evW w op x y kv ca cn cc).rowIs (w.heap.size + 3) 214 1 (fun _ => .func (.func 135) #[] #[.pointer (some ⟨w.heap.size + 2, 0, none⟩), .pointer (some ⟨w.heap.size + 1, 0, none⟩)]) ∧
    Below w.heap.size w (evW w op x y kv ca cn cc) ∧ (evW w op x y kv ca cn cc).heap.size = w.heap.size + 4 := by
  have hz1 : (w.alloc (.cells #[.int .i64 op, .int .i64 x, .int .i64 y, kv] 89)).heap.size = w.heap.size + 1 := by simp
  have hz2 : ((w.alloc (.cells #[.int .i64 op, .int .i64 x, .int .i64 y, kv] 89)).alloc (.cells #[.slice ca cn cc] 40)).heap.size = w.heap.size + 2 := by simp
  have hz3 : (((w.alloc (.cells #[.int .i64 op, .int .i64 x, .int .i64 y, kv] 89)).alloc (.cells #[.slice ca cn cc] 40)).alloc (.cells #[.int .u64 (cn : Int)] 159)).heap.size = w.heap.size + 3 := by simp
  have hB : Below w.heap.size w (evW w op x y kv ca cn cc) := ((((Below.refl _ w).alloc (Nat.le_refl _) _).alloc (by simp) _).alloc (by simp; omega) _).alloc (by simp; omega) _
  have K : FKeepA (fun k => k < w.heap.size) w (evW w op x y kv ca cn cc) := fun k _ _ hlt hk => (hB.block k hlt).trans hk
  refine ⟨LayA.mk trivial ?_ hk (fun k hkk => ?_), ⟨?_, ?_, hl, ?_, hs⟩, ?_, hB, by simp [evW]⟩
  · refine ⟨#[.int .i64 op, .int .i64 x, .int .i64 y, kv], (0, 0), ?_, rfl, rfl, rfl, rfl⟩
    unfold evW
    rw [Below.heap_alloc _ _ _ (by simp; omega), Below.heap_alloc _ _ _ (by simp; omega), Below.heap_alloc _ _ _ (by simp)]
    exact World.alloc_heap_new w _
  · exact ((hks k hkk).lt.mono (fun _ h => h.2)).keep K |>.mono (fun _ _ => trivial)
  · exact row_alloc _ (hz2 ▸ one_row _ (.int .u64 (cn : Int)) 159)
  · exact row_alloc _ (row_alloc _ (hz1 ▸ one_row _ (.slice ca cn cc) 40))
  · rcases hc with h | ⟨g, off, h1, h2⟩
    · exact Or.inl h
    · refine Or.inr ⟨g, off, h1, fun j c hj => ?_⟩
      have := h2 j c hj
      exact (hB.cell (World.block_lt_of_cell? w _ this)).trans this
  · exact hz3 ▸ one_row _ _ 214

end Go.Proofs.Ytinphcnknionmaa

namespace Go.Proofs.Ytinphcnknionmaa
open Go.RowKit Go.Shelf

theorem Cls.below {W W' : World} {bb cb : Nat} {ca : Option Addr} {cn cc : Nat} {cls : List Int} {B : Nat} (h : Cls W bb cb ca cn cc cls) (hB : Below B W W') (hz : W.heap.size ≤ B) : Cls W' bb cb ca cn cc cls := by
  refine ⟨h.bnd.of_block (hB.block _ (Nat.lt_of_lt_of_le h.bnd.lt hz)), h.cbx.of_block (hB.block _ (Nat.lt_of_lt_of_le h.cbx.lt hz)), h.len, ?_, h.small⟩
  rcases h.cells with e | ⟨g, off, h1, h2⟩
  · exact Or.inl e
  · refine Or.inr ⟨g, off, h1, fun j c hj => ?_⟩
    have := h2 j c hj
    exact (hB.cell (Nat.lt_of_lt_of_le (World.block_lt_of_cell? W _ this) hz)).trans this

/-- Eval. -/
theorem eval_in (w : World) (op x y : Int) (kv : Value) (kids : List Lf) (hk : KidsIn kv kids) (hks : ∀ k ∈ kids, Here w k) (ca : Option Addr) (cn cc : Nat) (cls : List Int) (hl : cls.length = cn) (hc : cls = [] ∨ ∃ g off, ca = some ⟨g, off, none⟩ ∧ ∀ (j : Nat) (c : Int), cls[j]? = some c → w.cell? ⟨g, off + j, none⟩ = some (.int .i64 c)) (hs : cn ≤ 9223372036854775807)
    (hN : (wk (.mk w.heap.size 0 op x y kv kids) 0).length * 16 ≤ 140737488355328) (hR : ∀ z ∈ es (.mk w.heap.size 0 op x y kv kids), R64 z.x ∧ R64 z.y) :
    Calls Try.prog 106 #[.agg #[.int .i64 op, .int .i64 x, .int .i64 y, kv], .slice ca cn cc] w fun e w' => e = .returned (.bool (fo (evG cls) (.mk w.heap.size 0 op x y kv kids))) ∧ Below w.heap.size w w' := by
  obtain ⟨h1, h2, h3, h4, h5⟩ := evW_at w op x y kv kids hk hks ca cn cc cls hl hc hs
  obtain ⟨a, cap, rfl, _⟩ := hk
  refine eval_w w op x y a _ cap ca cn cc hs _ _ ?_
  have F := fold_in (evW w op x y (.slice a kids.length cap) ca cn cc) (.mk w.heap.size 0 op x y (.slice a kids.length cap) kids) (w.heap.size + 3) (evG cls) h1 hN (fun W z args sv hz hB hH hA hal =>
    eval2_in W (w.heap.size + 3) (w.heap.size + 2) (w.heap.size + 1) ca cn cc cls (h3.of_block (hB.block _ (World.rowIs.lt h3))) (h2.below hB (Nat.le_refl _)) z hH (hR z hz).1 (hR z hz).2 sv args hA hal)
  refine F.mono ?_
  rintro e w' ⟨rfl, hB⟩
  exact ⟨rfl, h4.trans (hB.mono (by omega))⟩

end Go.Proofs.Ytinphcnknionmaa

namespace Go.Proofs.Ytinphcnknionmaa
open Go.RowKit Go.Shelf

theorem evG_N (cls : List Int) (t : Lf) (args args' : List Bool) (h : t.op ≠ 0 → args = args') : evG cls t args = evN cls t.op t.x t.y t.kids.length args' := by
  unfold evG evN whl
  generalize t.kids.length = n
  generalize t.op = op at h ⊢
  by_cases h0 : op = 0
  · by_cases hn : n = 0 <;> simp [h0, hn]
  · rw [h h0]
    by_cases h1 : op = 1
    · by_cases hn : n = 1 <;> simp [h1, hn]
    · by_cases h2 : op = 2
      · by_cases hn : n = 2 <;> simp [h2, hn]
      · by_cases h3 : op = 3
        · by_cases hn : n = 2 <;> simp [h3, hn]
        · by_cases h4 : op = 4
          · by_cases hn : n = 2 <;> simp [h4, hn]
          · simp [h0, h1, h2, h3, h4]

theorem fo_ev (cls : List Int) (t : Lf) : fo (evG cls) t = evF cls t.er := by
  rw [fo_eq, evG_N cls t _ (t.kids.map fun k => evF cls k.er)]
  · cases t with
    | mk b o op x y kv kids =>
      simp only [Lf.er, evF, Lf.op, Lf.x, Lf.y, Lf.kids, List.length_map, List.map_map]
      rfl
  · intro h0
    have e : t.ks = t.kids := by simp [Lf.ks, h0]
    refine (List.map_congr_left fun k hk => ?_).trans (congrArg (List.map fun k => evF cls k.er) e)
    exact fo_ev cls k
termination_by SizeOf.sizeOf t
decreasing_by exact ks_lt hk

end Go.Proofs.Ytinphcnknionmaa

namespace Go.Proofs.Ytinphcnknionmaa
open Go.RowKit Go.Shelf

/-- All its numbers are numbers of the program. -/
inductive RF : Fo → Prop where
  | mk {op x y : Int} {kids : List Fo} (hx : R64 x) (hy : R64 y) (h : ∀ k ∈ kids, RF k) : RF (.mk op x y kids)
theorem RF.kid {t k : Lf} (h : RF t.er) (hk : k ∈ t.kids) : RF k.er := by
  cases t
  rw [Lf.er] at h
  cases h with
  | mk hx hy h => exact h _ (List.mem_map.2 ⟨k, hk, rfl⟩)
theorem RF.here {t : Lf} (h : RF t.er) : R64 t.x ∧ R64 t.y := by
  cases t
  rw [Lf.er] at h
  cases h with
  | mk hx hy h => exact ⟨hx, hy⟩
theorem wk_R (t : Lf) (d : Nat) (ht : RF t.er) : ∀ y ∈ wk t d, RF y.1.er := by
  intro y hy
  cases h : t.ks[d]? with
  | none =>
    rw [wk_end h] at hy
    obtain rfl := List.mem_singleton.1 hy
    exact ht
  | some k =>
    have hlt := (List.getElem?_eq_some_iff.1 h).1
    rw [wk_step h] at hy
    rcases List.mem_cons.1 hy with rfl | hy
    · exact ht
    · rcases List.mem_append.1 hy with hy | hy
      · exact wk_R k 0 (ht.kid (ks_sub (List.mem_of_getElem? h))) y hy
      · exact wk_R t (d + 1) ht y hy
termination_by (SizeOf.sizeOf t, t.ks.length - d)
decreasing_by
  · exact Prod.Lex.left _ _ (ks_lt (List.mem_of_getElem? h))
  · exact Prod.Lex.right _ (by omega)
theorem es_R {t : Lf} (ht : RF t.er) : ∀ z ∈ es t, R64 z.x ∧ R64 z.y := by
  intro z hz
  unfold es at hz
  obtain ⟨⟨y, d⟩, h1, h2⟩ := List.mem_filterMap.1 hz
  unfold isEnd at h2
  split at h2
  · cases h2
    exact (wk_R t 0 ht _ h1).here
  · cases h2
theorem eqs_R {t : Lf} (ht : RF t.er) : ∀ p ∈ eqs t, P64 p := by
  intro p hp
  unfold eqs at hp
  obtain ⟨z, h1, h2⟩ := List.mem_filterMap.1 hp
  unfold isEq at h2
  split at h2
  · cases h2
    exact es_R ht z h1
  · cases h2

/-- The value v is the Form f, wherever its Kids lie. -/
def FIs (W : World) (v : Value) (f : Fo) : Prop := FValA (fun _ => True) W v f
theorem FVal.is {B : Nat} {W : World} {v : Value} {f : Fo} (h : FVal B W v f) : FIs W v f := FValA.mono (fun _ _ => trivial) h
theorem FIs.keep {W W' : World} {v : Value} {f : Fo} (h : FIs W v f) (hB : Below W.heap.size W W') : FIs W' v f := FValA.keep (fun k _ _ _ hk => (hB.block k (Array.getElem?_eq_some_iff.1 hk).1).trans hk) h

theorem showF_in (w : World) (base p : Nat) (ev : Value) (nb fb : Nat) (l : List Tm) (hbk : Bk w base p ev nb fb l) (hs : Hs l) (v : Value) (f : Fo) (hv : FIs w v f) (hw : WfF f) (hN : szF f * 16 ≤ 140737488355328) (hL : (shF l [61] f).length ≤ 140737488355328) :
    Calls Try.prog 62 #[.pointer (some ⟨p, 0, none⟩), v] w fun e w' => e = .returned (.string (ofB (shF l [61] f))) ∧ Below w.heap.size w w' := by
  obtain ⟨op, x, y, kv, kids, rfl, hk, hks, rfl⟩ := hv
  have he : (Lf.mk (w.heap.size + 1) 0 op x y kv kids).er = .mk op x y (kids.map Lf.er) := by rw [Lf.er]
  have hz := shG_er l (t := .mk (w.heap.size + 1) 0 op x y kv kids) (by rw [he]; exact hw)
  have h := lshow_in w base p ev nb fb l hbk hs op x y kv kids hk hks (by rw [len_wk, he]; exact hN) (fun i => Nat.le_trans (shG_take l _ i) (by rw [hz, he]; exact hL))
  rw [hz, he] at h
  exact h

theorem evalF_in (w : World) (v : Value) (f : Fo) (hv : FIs w v f) (ca : Option Addr) (cn cc : Nat) (cls : List Int) (hl : cls.length = cn) (hc : cls = [] ∨ ∃ g off, ca = some ⟨g, off, none⟩ ∧ ∀ (j : Nat) (c : Int), cls[j]? = some c → w.cell? ⟨g, off + j, none⟩ = some (.int .i64 c)) (hs : cn ≤ 9223372036854775807) (hN : szF f * 16 ≤ 140737488355328) (hR : RF f) :
    Calls Try.prog 106 #[v, .slice ca cn cc] w fun e w' => e = .returned (.bool (evF cls f)) ∧ Below w.heap.size w w' := by
  obtain ⟨op, x, y, kv, kids, rfl, hk, hks, rfl⟩ := hv
  have he : (Lf.mk w.heap.size 0 op x y kv kids).er = .mk op x y (kids.map Lf.er) := by rw [Lf.er]
  have h := eval_in w op x y kv kids hk hks ca cn cc cls hl hc hs (by rw [len_wk, he]; exact hN) (es_R (by rw [he]; exact hR))
  rw [fo_ev, he] at h
  exact h

theorem atomsF_in (w : World) (v : Value) (f : Fo) (hv : FIs w v f) (hN : szF f * 16 ≤ 140737488355328) (hR : RF f) :
    Calls Try.prog 107 #[v] w fun e w' => ∃ u, e = .returned u ∧ w'.ownsRow w.heap.size 86 2 u (ats (eqF f)).length (pairC (ats (eqF f))) ∧ Below w.heap.size w w' := by
  obtain ⟨op, x, y, kv, kids, rfl, hk, hks, rfl⟩ := hv
  have he : (Lf.mk w.heap.size 0 op x y kv kids).er = .mk op x y (kids.map Lf.er) := by rw [Lf.er]
  have h := atoms_in w op x y kv kids hk hks (by rw [len_wk, he]; exact hN) (eqs_R (by rw [he]; exact hR))
  rw [eqs_er, he] at h
  exact h

end Go.Proofs.Ytinphcnknionmaa

namespace Go.Proofs.Ytinphcnknionmaa
open Go.RowKit Go.Shelf

theorem f24_wf : WfF f24 := .two _ _ _ (Or.inr (Or.inr rfl)) (.two _ _ _ (Or.inl rfl) (.eq _ _) (.neg _ (.eq _ _))) (.neg _ (.eq _ _))
theorem r64n {n : Nat} (h : n < 1000000) : R64 (n : Int) := ⟨by omega, by omega⟩
theorem wf_RF {f : Fo} (h : WfF f) (hp : ∀ p ∈ eqF f, P64 p) : RF f := by
  induction h with
  | eq x y =>
    have := hp (x, y) (by simp [eqF])
    exact .mk this.1 this.2 (by simp)
  | neg f _ ih =>
    refine .mk (r64n (n := 0) (by omega)) (r64n (n := 0) (by omega)) ?_
    intro k hk
    obtain rfl := List.mem_singleton.1 hk
    exact ih (fun p hm => hp p (by simp [eqF]; exact hm))
  | two o f g ho _ _ ih1 ih2 =>
    have ho' : ¬ o = 0 := by rcases ho with rfl | rfl | rfl <;> decide
    refine .mk (r64n (n := 0) (by omega)) (r64n (n := 0) (by omega)) ?_
    intro k hk
    simp at hk
    rcases hk with rfl | rfl
    · exact ih1 (fun p hm => hp p (by simp [eqF, ho']; exact Or.inl hm))
    · exact ih2 (fun p hm => hp p (by simp [eqF, ho']; exact Or.inr hm))
theorem f24_eqs : eqF f24 = [(0, 1), (0, 2), (1, 2)] := by simp [f24, Fo.two, Fo.neg, Fo.eq, eqF]
theorem f24_sz : szF f24 = 13 := by simp [f24, Fo.two, Fo.neg, Fo.eq, szF]
theorem f24_R : RF f24 := wf_RF f24_wf (by
  rw [f24_eqs]
  intro p hp
  simp at hp
  rcases hp with rfl | rfl | rfl <;> exact ⟨⟨by decide, by decide⟩, ⟨by decide, by decide⟩⟩)
theorem f24_sh : shF [aA, aB, aC] [61] f24 = [40, 40, 97, 61, 98, 38, 97, 33, 61, 99, 41, 45, 62, 98, 33, 61, 99, 41] := by
  have h0 : shwB [aA, aB, aC] 0 = ⟨#[97]⟩ := by rfl
  have h1 : shwB [aA, aB, aC] 1 = ⟨#[98]⟩ := by rfl
  have h2 : shwB [aA, aB, aC] 2 = ⟨#[99]⟩ := by rfl
  simp [f24, Fo.two, Fo.neg, Fo.eq, shF, Fo.op, opS, h0, h1, h2]
theorem f24_ev1 : evF [0, 0, 2] f24 = true := by simp [f24, Fo.two, Fo.neg, Fo.eq, evF, evN, sameC, inC]
theorem f24_ev2 : evF [0, 0, 0] f24 = true := by simp [f24, Fo.two, Fo.neg, Fo.eq, evF, evN, sameC, inC]
theorem f24_ats : (ats (eqF f24)).length = 3 := by rw [f24_eqs]; decide
theorem aABC_Hs : Hs [aA, aB, aC] := by
  intro n hn
  have : n = 0 ∨ n = 1 ∨ n = 2 := by simp at hn; omega
  rcases this with rfl | rfl | rfl <;> exact ⟨_, rfl, by simp [aA, aB, aC]⟩

set_option maxHeartbeats 400000 in
theorem num5_any (w : World) (a : Int) : Calls Try.prog 61 #[.int .i64 a] w fun e w' => e = .returned (.int .i64 a) ∧ w = w' := by
  go_enter Try.func61, Try.ntmps61
  go_wp2
  go_ret
  exact ⟨rfl, rfl⟩

theorem cls3_at (w : World) (a b c : Int) : ∀ (j : Nat) (x : Int), [a, b, c][j]? = some x → (w.alloc (.cells #[.int .i64 a, .int .i64 b, .int .i64 c] 3)).cell? ⟨w.heap.size, 0 + j, none⟩ = some (.int .i64 x) := by
  intro j x hj
  have hn := made_row w #[.int .i64 a, .int .i64 b, .int .i64 c] 3
  match j, hj with
  | 0, hj => simp at hj; subst hj; exact hn.cell (i := 0) (by simp)
  | 1, hj => simp at hj; subst hj; exact hn.cell (i := 1) (by simp)
  | 2, hj => simp at hj; subst hj; exact hn.cell (i := 2) (by simp)

/-- A Form's cells in its box. -/
def FB (W : World) (b : Nat) (op x y : Int) (kv : Value) : Prop := W.cell? ⟨b, 0, none⟩ = some (.int .i64 op) ∧ W.cell? ⟨b, 1, none⟩ = some (.int .i64 x) ∧ W.cell? ⟨b, 2, none⟩ = some (.int .i64 y) ∧ W.cell? ⟨b, 3, none⟩ = some kv
theorem FB.keep {W W' : World} {b : Nat} {op x y : Int} {kv : Value} (h : FB W b op x y kv) (hB : Below W.heap.size W W') : FB W' b op x y kv := by
  have hb := World.block_lt_of_cell? W _ h.1
  exact ⟨(hB.cell hb).trans h.1, (hB.cell (p := ⟨b, 1, none⟩) hb).trans h.2.1, (hB.cell (p := ⟨b, 2, none⟩) hb).trans h.2.2.1, (hB.cell (p := ⟨b, 3, none⟩) hb).trans h.2.2.2⟩
theorem FB.new (W : World) (op x y : Int) (kv : Value) : FB (W.alloc (.cells #[.int .i64 op, .int .i64 x, .int .i64 y, kv] 89)) W.heap.size op x y kv := by
  have hn := made_row W #[.int .i64 op, .int .i64 x, .int .i64 y, kv] 89
  exact ⟨hn.cell (i := 0) (by simp), hn.cell (i := 1) (by simp), hn.cell (i := 2) (by simp), hn.cell (i := 3) (by simp)⟩
theorem Below.new (W : World) (o : Obj) : Below W.heap.size W (W.alloc o) := (Below.refl _ W).alloc (Nat.le_refl _) o

set_option maxHeartbeats 4000000 in
set_option maxRecDepth 100000 in
theorem alive5_any (w : World) : Calls Try.prog 64 #[] w fun e w' => e = .returned (.bool true) ∧ Below w.heap.size w w' := by
  have NEW := tNew_any w
  have hsh := f24_sh
  go_enter Try.func64, Try.ntmps64
  go_wp2_with (first | (go_at_call 15; refine NEW.mono ?_; rintro e w1 ⟨p, nb, fb, rfl, H1, B1⟩; have PA := gParse_in w1 w.heap.size p _ nb fb [] H1 (by simp) B1.size tx24; rw [tx24_parse] at PA; unfold tx24 at PA) | (go_at_call 58; refine PA.mono ?_; rintro e w2 ⟨v, rfl, FV, ev2, H2, K2, _, _⟩; obtain ⟨op, x, y, ka, kn, kc, rfl⟩ := FV.form; have FV0 := FV.is; clear FV))
  have B3 := Below.new w2 (.cells #[.int .i64 op, .int .i64 x, .int .i64 y, .slice ka kn kc] 89)
  have Y3 := FB.new w2 op x y (.slice ka kn kc)
  have b2 : Below w.heap.size w1 w2 := Kept.below K2 B1.size (fun k e => by
    rcases e with e | e | e | e
    · rw [e]; exact H1.bp
    · rw [e]; exact H1.bn
    · rw [e]; exact H1.bf
    · simp [Value.ownBlock] at e)
  have BA : Below w.heap.size w w2 := B1.trans b2
  have FV3 := FV0.keep B3
  have SH := showF_in _ w.heap.size p ev2 nb fb _ (H2.below H2.low B3) aABC_Hs _ f24 FV3 f24_wf (by rw [f24_sz]; decide) (by rw [f24_sh]; decide)
  rw [f24_sh] at SH
  generalize w2.alloc (.cells #[.int .i64 op, .int .i64 x, .int .i64 y, .slice ka kn kc] 89) = w3 at B3 Y3 FV3 SH ⊢
  have hz2 := B3.size
  have hz1 := BA.size
  generalize w2.heap.size = x2 at *
  have EVA : ∀ (W : World) (a b c : Int), FIs W (.agg #[.int .i64 op, .int .i64 x, .int .i64 y, .slice ka kn kc]) f24 → Calls Try.prog 106 #[.agg #[.int .i64 op, .int .i64 x, .int .i64 y, .slice ka kn kc], .slice (some ⟨W.heap.size, 0, none⟩) 3 3] (W.alloc (.cells #[.int .i64 a, .int .i64 b, .int .i64 c] 3)) fun e w' => e = .returned (.bool (evF [a, b, c] f24)) ∧ Below W.heap.size W w' := fun W a b c hW => by
    have B := Below.new W (.cells #[.int .i64 a, .int .i64 b, .int .i64 c] 3)
    refine (evalF_in _ _ f24 (hW.keep B) _ 3 3 [a, b, c] rfl (Or.inr ⟨W.heap.size, 0, rfl, cls3_at W a b c⟩) (by decide) (by rw [f24_sz]; decide) f24_R).mono ?_
    rintro e w' ⟨he, hb⟩
    exact ⟨he, B.trans (hb.mono B.size)⟩
  have ATA : ∀ (W : World), FIs W (.agg #[.int .i64 op, .int .i64 x, .int .i64 y, .slice ka kn kc]) f24 → Calls Try.prog 107 #[.agg #[.int .i64 op, .int .i64 x, .int .i64 y, .slice ka kn kc]] W fun e w' => ∃ a c, e = .returned (.slice a 3 c) ∧ Below W.heap.size W w' := fun W hW => by
    refine (atomsF_in W _ f24 hW (by rw [f24_sz]; decide) f24_R).mono ?_
    rintro e w' ⟨u, rfl, hr, hb⟩
    obtain ⟨a, c, rfl⟩ := row_form hr
    exact ⟨a, c, by rw [f24_ats], hb⟩
  have HE : Hid (evF [0, 0, 2] f24 = true ∧ evF [0, 0, 0] f24 = true) := ⟨f24_ev1, f24_ev2⟩
  obtain ⟨y0, y1, y2, y3⟩ := Y3
  have Y3 : Hid (FB w3 x2 op x y (.slice ka kn kc)) := ⟨y0, y1, y2, y3⟩
  clear PA NEW hsh
  unfold ofB at SH
  go_wp2_with (first | (go_at_call 61; refine (num5_any _ _).mono ?_; rintro e w9 ⟨rfl, rfl⟩) | (go_at_call 62; refine SH.mono ?_; rintro e w5 ⟨rfl, B5⟩; have FV5 := FV3.keep B5; obtain ⟨u0, u1, u2, u3⟩ := Y3.out.keep B5; have EV1 := EVA w5 0 0 2 FV5; rw [HE.out.1] at EV1) | (go_at_call 106; refine EV2.mono ?_; rintro e w7 ⟨rfl, B7⟩; have FV7 := FV6.keep B7; obtain ⟨t0, t1, t2, t3⟩ := FB.keep (And.intro v0 (And.intro v1 (And.intro v2 v3))) B7; have AT := ATA w7 FV7) | (go_at_call 106; refine EV1.mono ?_; rintro e w6 ⟨rfl, B6⟩; have FV6 := FV5.keep B6; obtain ⟨v0, v1, v2, v3⟩ := FB.keep (And.intro u0 (And.intro u1 (And.intro u2 u3))) B6; have EV2 := EVA w6 0 0 0 FV6; rw [HE.out.2] at EV2) | (go_at_call 107; refine AT.mono ?_; rintro e w8 ⟨aa, ac, rfl, B8⟩))
  go_ret
  have s5 := B5.size
  have s6 := B6.size
  have s7 := B7.size
  exact ⟨rfl, ((((BA.trans (B3.mono (by omega))).trans (B5.mono (by omega))).trans (B6.mono (by omega))).trans (B7.mono (by omega))).trans (B8.mono (by omega))⟩

end Go.Proofs.Ytinphcnknionmaa
