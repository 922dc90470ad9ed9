/- Package logic: Eval, up to its call of fold. Package logic: Eval. Package logic: what a formula comes to, by what it is alone. Package logic: Show, Eval, Atoms of a Form, by what it is. -/
import Derived.Test.YtinphcnknionmabP32
import Derived.Test.YtinphcnknionmabLoU
import Derived.Test.YtinphcnknionmabFoB
import Derived.Test.YtinphcnknionmabShC
import Derived.Test.YtinphcnknionmabLoYb
namespace Go.Proofs.Ytinphcnknionmab
open Go.RowKit Go.Shelf

theorem store_func (P : Program) (W : World) (a : Addr) (m : Mode) (fn : Fn) (first cap : Array Value) : (store a (.func fn first cap) m).run P W = stored P W a (.func fn first cap) m := run_store P W a _ m rfl
attribute [local go_sem] store_func

/-- What Eval makes before it calls fold. -/
def evW (w : World) (op x y : Int) (kv : Value) (ca : Option Addr) (cn cc : Nat) : World :=
  (((w.alloc (.cells #[.int .i64 op, .int .i64 x, .int .i64 y, kv] 31)).alloc (.cells #[.slice ca cn cc] 27)).alloc (.cells #[.int .u64 (cn : Int)] 50)).alloc (.cells #[.func (.func 18) #[] #[.pointer (some ⟨w.heap.size + 2, 0, none⟩), .pointer (some ⟨w.heap.size + 1, 0, none⟩)]] 51)

set_option maxRecDepth 100000 in
set_option maxHeartbeats 2000000 in
theorem eval_w (w : World) (op x y : Int) (a : Option Addr) (n cap : Nat) (ca : Option Addr) (cn cc : Nat) (hcn : cn ≤ 9223372036854775807) (b : Bool) (B : Nat)
    (HF : Calls Try.prog 19 #[.pointer (some ⟨w.heap.size, 0, none⟩), .func (.func 20) #[] #[.pointer (some ⟨w.heap.size + 3, 0, none⟩)]] (evW w op x y (.slice a n cap) ca cn cc) fun e w' => e = .returned (.bool b) ∧ Below B w w') :
    Calls Try.prog 7 #[.agg #[.int .i64 op, .int .i64 x, .int .i64 y, .slice a n cap], .slice ca cn cc] w fun e w' => e = .returned (.bool b) ∧ Below B w w' := by
  have hwr : IntKind.u64.wrap (cn : Int) = (cn : Int) := by rw [IntKind.wrap_u64]; omega
  unfold evW at HF
  go_enter Try.func7, Try.ntmps7
  go_wp2_with (first | (go_at_call 19; refine HF.mono ?_; rintro e w2 ⟨rfl, B2⟩))
  go_ret
  exact ⟨rfl, B2⟩

theorem one_row (w : World) (v : Value) (ty : TypeId) : (w.alloc (.cells #[v] ty)).rowIs w.heap.size ty 1 (fun _ => v) := World.rowIs.congr (made_row w #[v] ty) (fun j hj => by
  have : j = 0 := by simp at hj; omega
  subst this; rfl)
theorem row_alloc {w : World} {b n : Nat} {f : Nat → Value} {ty : TypeId} (o : Obj) (h : w.rowIs b ty n f) : (w.alloc o).rowIs b ty n f := h.of_block (Below.heap_alloc w o b (World.rowIs.lt h))

/-- What lies in that world. -/
theorem evW_at (w : World) (op x y : Int) (kv : Value) (kids : List Lf) (hk : KidsIn kv kids) (hks : ∀ k ∈ kids, Here w k) (ca : Option Addr) (cn cc : Nat) (cls : List Int) (hl : cls.length = cn) (hc : cls = [] ∨ ∃ g off, ca = some ⟨g, off, none⟩ ∧ ∀ (j : Nat) (c : Int), cls[j]? = some c → w.cell? ⟨g, off + j, none⟩ = some (.int .i64 c)) (hs : cn ≤ 9223372036854775807) :
    Here (evW w op x y kv ca cn cc) (.mk w.heap.size 0 op x y kv kids) ∧ Cls (evW w op x y kv ca cn cc) (w.heap.size + 2) (w.heap.size + 1) ca cn cc cls ∧
    (evW w op x y kv ca cn cc).rowIs (w.heap.size + 3) 51 1 (fun _ => .func (.func 18) #[] #[.pointer (some ⟨w.heap.size + 2, 0, none⟩), .pointer (some ⟨w.heap.size + 1, 0, none⟩)]) ∧
    Below w.heap.size w (evW w op x y kv ca cn cc) ∧ (evW w op x y kv ca cn cc).heap.size = w.heap.size + 4 := by
  have hz1 : (w.alloc (.cells #[.int .i64 op, .int .i64 x, .int .i64 y, kv] 31)).heap.size = w.heap.size + 1 := by simp
  have hz2 : ((w.alloc (.cells #[.int .i64 op, .int .i64 x, .int .i64 y, kv] 31)).alloc (.cells #[.slice ca cn cc] 27)).heap.size = w.heap.size + 2 := by simp
  have hz3 : (((w.alloc (.cells #[.int .i64 op, .int .i64 x, .int .i64 y, kv] 31)).alloc (.cells #[.slice ca cn cc] 27)).alloc (.cells #[.int .u64 (cn : Int)] 50)).heap.size = w.heap.size + 3 := by simp
  have hB : Below w.heap.size w (evW w op x y kv ca cn cc) := ((((Below.refl _ w).alloc (Nat.le_refl _) _).alloc (by simp) _).alloc (by simp; omega) _).alloc (by simp; omega) _
  have K : FKeepA (fun k => k < w.heap.size) w (evW w op x y kv ca cn cc) := fun k _ _ hlt hk => (hB.block k hlt).trans hk
  refine ⟨LayA.mk trivial ?_ hk (fun k hkk => ?_), ⟨?_, ?_, hl, ?_, hs⟩, ?_, hB, by simp [evW]⟩
  · refine ⟨#[.int .i64 op, .int .i64 x, .int .i64 y, kv], (0, 0), ?_, rfl, rfl, rfl, rfl⟩
    unfold evW
    rw [Below.heap_alloc _ _ _ (by simp; omega), Below.heap_alloc _ _ _ (by simp; omega), Below.heap_alloc _ _ _ (by simp)]
    exact World.alloc_heap_new w _
  · exact ((hks k hkk).lt.mono (fun _ h => h.2)).keep K |>.mono (fun _ _ => trivial)
  · exact row_alloc _ (hz2 ▸ one_row _ (.int .u64 (cn : Int)) 50)
  · exact row_alloc _ (row_alloc _ (hz1 ▸ one_row _ (.slice ca cn cc) 27))
  · rcases hc with h | ⟨g, off, h1, h2⟩
    · exact Or.inl h
    · refine Or.inr ⟨g, off, h1, fun j c hj => ?_⟩
      have := h2 j c hj
      exact (hB.cell (World.block_lt_of_cell? w _ this)).trans this
  · exact hz3 ▸ one_row _ _ 51

end Go.Proofs.Ytinphcnknionmab

namespace Go.Proofs.Ytinphcnknionmab
open Go.RowKit Go.Shelf

theorem Cls.below {W W' : World} {bb cb : Nat} {ca : Option Addr} {cn cc : Nat} {cls : List Int} {B : Nat} (h : Cls W bb cb ca cn cc cls) (hB : Below B W W') (hz : W.heap.size ≤ B) : Cls W' bb cb ca cn cc cls := by
  refine ⟨h.bnd.of_block (hB.block _ (Nat.lt_of_lt_of_le h.bnd.lt hz)), h.cbx.of_block (hB.block _ (Nat.lt_of_lt_of_le h.cbx.lt hz)), h.len, ?_, h.small⟩
  rcases h.cells with e | ⟨g, off, h1, h2⟩
  · exact Or.inl e
  · refine Or.inr ⟨g, off, h1, fun j c hj => ?_⟩
    have := h2 j c hj
    exact (hB.cell (Nat.lt_of_lt_of_le (World.block_lt_of_cell? W _ this) hz)).trans this

/-- Eval. -/
theorem eval_in (w : World) (op x y : Int) (kv : Value) (kids : List Lf) (hk : KidsIn kv kids) (hks : ∀ k ∈ kids, Here w k) (ca : Option Addr) (cn cc : Nat) (cls : List Int) (hl : cls.length = cn) (hc : cls = [] ∨ ∃ g off, ca = some ⟨g, off, none⟩ ∧ ∀ (j : Nat) (c : Int), cls[j]? = some c → w.cell? ⟨g, off + j, none⟩ = some (.int .i64 c)) (hs : cn ≤ 9223372036854775807)
    (hN : (wk (.mk w.heap.size 0 op x y kv kids) 0).length * 16 ≤ 140737488355328) (hR : ∀ z ∈ es (.mk w.heap.size 0 op x y kv kids), R64 z.x ∧ R64 z.y) :
    Calls Try.prog 7 #[.agg #[.int .i64 op, .int .i64 x, .int .i64 y, kv], .slice ca cn cc] w fun e w' => e = .returned (.bool (fo (evG cls) (.mk w.heap.size 0 op x y kv kids))) ∧ Below w.heap.size w w' := by
  obtain ⟨h1, h2, h3, h4, h5⟩ := evW_at w op x y kv kids hk hks ca cn cc cls hl hc hs
  obtain ⟨a, cap, rfl, _⟩ := hk
  refine eval_w w op x y a _ cap ca cn cc hs _ _ ?_
  have F := fold_in (evW w op x y (.slice a kids.length cap) ca cn cc) (.mk w.heap.size 0 op x y (.slice a kids.length cap) kids) (w.heap.size + 3) (evG cls) h1 hN (fun W z args sv hz hB hH hA hal =>
    eval2_in W (w.heap.size + 3) (w.heap.size + 2) (w.heap.size + 1) ca cn cc cls (h3.of_block (hB.block _ (World.rowIs.lt h3))) (h2.below hB (Nat.le_refl _)) z hH (hR z hz).1 (hR z hz).2 sv args hA hal)
  refine F.mono ?_
  rintro e w' ⟨rfl, hB⟩
  exact ⟨rfl, h4.trans (hB.mono (by omega))⟩

end Go.Proofs.Ytinphcnknionmab

namespace Go.Proofs.Ytinphcnknionmab
open Go.RowKit Go.Shelf

theorem evG_N (cls : List Int) (t : Lf) (args args' : List Bool) (h : t.op ≠ 0 → args = args') : evG cls t args = evN cls t.op t.x t.y t.kids.length args' := by
  unfold evG evN whl
  generalize t.kids.length = n
  generalize t.op = op at h ⊢
  by_cases h0 : op = 0
  · by_cases hn : n = 0 <;> simp [h0, hn]
  · rw [h h0]
    by_cases h1 : op = 1
    · by_cases hn : n = 1 <;> simp [h1, hn]
    · by_cases h2 : op = 2
      · by_cases hn : n = 2 <;> simp [h2, hn]
      · by_cases h3 : op = 3
        · by_cases hn : n = 2 <;> simp [h3, hn]
        · by_cases h4 : op = 4
          · by_cases hn : n = 2 <;> simp [h4, hn]
          · simp [h0, h1, h2, h3, h4]

theorem fo_ev (cls : List Int) (t : Lf) : fo (evG cls) t = evF cls t.er := by
  rw [fo_eq, evG_N cls t _ (t.kids.map fun k => evF cls k.er)]
  · cases t with
    | mk b o op x y kv kids =>
      simp only [Lf.er, evF, Lf.op, Lf.x, Lf.y, Lf.kids, List.length_map, List.map_map]
      rfl
  · intro h0
    have e : t.ks = t.kids := by simp [Lf.ks, h0]
    refine (List.map_congr_left fun k hk => ?_).trans (congrArg (List.map fun k => evF cls k.er) e)
    exact fo_ev cls k
termination_by SizeOf.sizeOf t
decreasing_by exact ks_lt hk

end Go.Proofs.Ytinphcnknionmab

namespace Go.Proofs.Ytinphcnknionmab
open Go.RowKit Go.Shelf

/-- All its numbers are numbers of the program. -/
inductive RF : Fo → Prop where
  | mk {op x y : Int} {kids : List Fo} (hx : R64 x) (hy : R64 y) (h : ∀ k ∈ kids, RF k) : RF (.mk op x y kids)
theorem RF.kid {t k : Lf} (h : RF t.er) (hk : k ∈ t.kids) : RF k.er := by
  cases t
  rw [Lf.er] at h
  cases h with
  | mk hx hy h => exact h _ (List.mem_map.2 ⟨k, hk, rfl⟩)
theorem RF.here {t : Lf} (h : RF t.er) : R64 t.x ∧ R64 t.y := by
  cases t
  rw [Lf.er] at h
  cases h with
  | mk hx hy h => exact ⟨hx, hy⟩
theorem wk_R (t : Lf) (d : Nat) (ht : RF t.er) : ∀ y ∈ wk t d, RF y.1.er := by
  intro y hy
  cases h : t.ks[d]? with
  | none =>
    rw [wk_end h] at hy
    obtain rfl := List.mem_singleton.1 hy
    exact ht
  | some k =>
    have hlt := (List.getElem?_eq_some_iff.1 h).1
    rw [wk_step h] at hy
    rcases List.mem_cons.1 hy with rfl | hy
    · exact ht
    · rcases List.mem_append.1 hy with hy | hy
      · exact wk_R k 0 (ht.kid (ks_sub (List.mem_of_getElem? h))) y hy
      · exact wk_R t (d + 1) ht y hy
termination_by (SizeOf.sizeOf t, t.ks.length - d)
decreasing_by
  · exact Prod.Lex.left _ _ (ks_lt (List.mem_of_getElem? h))
  · exact Prod.Lex.right _ (by omega)
theorem es_R {t : Lf} (ht : RF t.er) : ∀ z ∈ es t, R64 z.x ∧ R64 z.y := by
  intro z hz
  unfold es at hz
  obtain ⟨⟨y, d⟩, h1, h2⟩ := List.mem_filterMap.1 hz
  unfold isEnd at h2
  split at h2
  · cases h2
    exact (wk_R t 0 ht _ h1).here
  · cases h2
theorem eqs_R {t : Lf} (ht : RF t.er) : ∀ p ∈ eqs t, P64 p := by
  intro p hp
  unfold eqs at hp
  obtain ⟨z, h1, h2⟩ := List.mem_filterMap.1 hp
  unfold isEq at h2
  split at h2
  · cases h2
    exact es_R ht z h1
  · cases h2

/-- The value v is the Form f, wherever its Kids lie. -/
def FIs (W : World) (v : Value) (f : Fo) : Prop := FValA (fun _ => True) W v f
theorem FVal.is {B : Nat} {W : World} {v : Value} {f : Fo} (h : FVal B W v f) : FIs W v f := FValA.mono (fun _ _ => trivial) h
theorem FIs.keep {W W' : World} {v : Value} {f : Fo} (h : FIs W v f) (hB : Below W.heap.size W W') : FIs W' v f := FValA.keep (fun k _ _ _ hk => (hB.block k (Array.getElem?_eq_some_iff.1 hk).1).trans hk) h

theorem showF_in (w : World) (base p : Nat) (ev : Value) (nb fb : Nat) (l : List Tm) (hbk : Bk w base p ev nb fb l) (hs : Hs l) (v : Value) (f : Fo) (hv : FIs w v f) (hw : WfF f) (hN : szF f * 16 ≤ 140737488355328) (hL : (shF l [61] f).length ≤ 140737488355328) :
    Calls Try.prog 26 #[.pointer (some ⟨p, 0, none⟩), v] w fun e w' => e = .returned (.string (ofB (shF l [61] f))) ∧ Below w.heap.size w w' := by
  obtain ⟨op, x, y, kv, kids, rfl, hk, hks, rfl⟩ := hv
  have he : (Lf.mk (w.heap.size + 1) 0 op x y kv kids).er = .mk op x y (kids.map Lf.er) := by rw [Lf.er]
  have hz := shG_er l (t := .mk (w.heap.size + 1) 0 op x y kv kids) (by rw [he]; exact hw)
  have h := lshow_in w base p ev nb fb l hbk hs op x y kv kids hk hks (by rw [len_wk, he]; exact hN) (fun i => Nat.le_trans (shG_take l _ i) (by rw [hz, he]; exact hL))
  rw [hz, he] at h
  exact h

theorem evalF_in (w : World) (v : Value) (f : Fo) (hv : FIs w v f) (ca : Option Addr) (cn cc : Nat) (cls : List Int) (hl : cls.length = cn) (hc : cls = [] ∨ ∃ g off, ca = some ⟨g, off, none⟩ ∧ ∀ (j : Nat) (c : Int), cls[j]? = some c → w.cell? ⟨g, off + j, none⟩ = some (.int .i64 c)) (hs : cn ≤ 9223372036854775807) (hN : szF f * 16 ≤ 140737488355328) (hR : RF f) :
    Calls Try.prog 7 #[v, .slice ca cn cc] w fun e w' => e = .returned (.bool (evF cls f)) ∧ Below w.heap.size w w' := by
  obtain ⟨op, x, y, kv, kids, rfl, hk, hks, rfl⟩ := hv
  have he : (Lf.mk w.heap.size 0 op x y kv kids).er = .mk op x y (kids.map Lf.er) := by rw [Lf.er]
  have h := eval_in w op x y kv kids hk hks ca cn cc cls hl hc hs (by rw [len_wk, he]; exact hN) (es_R (by rw [he]; exact hR))
  rw [fo_ev, he] at h
  exact h

theorem atomsF_in (w : World) (v : Value) (f : Fo) (hv : FIs w v f) (hN : szF f * 16 ≤ 140737488355328) (hR : RF f) :
    Calls Try.prog 11 #[v] w fun e w' => ∃ u, e = .returned u ∧ w'.ownsRow w.heap.size 28 2 u (ats (eqF f)).length (pairC (ats (eqF f))) ∧ Below w.heap.size w w' := by
  obtain ⟨op, x, y, kv, kids, rfl, hk, hks, rfl⟩ := hv
  have he : (Lf.mk w.heap.size 0 op x y kv kids).er = .mk op x y (kids.map Lf.er) := by rw [Lf.er]
  have h := atoms_in w op x y kv kids hk hks (by rw [len_wk, he]; exact hN) (eqs_R (by rw [he]; exact hR))
  rw [eqs_er, he] at h
  exact h

end Go.Proofs.Ytinphcnknionmab
