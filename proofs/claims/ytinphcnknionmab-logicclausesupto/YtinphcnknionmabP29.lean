/- Package logic: Eval, up to its call of fold. Package logic: Eval. Package logic: what a formula comes to, by what it is alone. Package logic: Show, Eval, Atoms of a Form, by what it is. The document's Eval, whole. -/
import Derived.Test.YtinphcnknionmabLoT
import Derived.Test.YtinphcnknionmabLoU
import Derived.Test.YtinphcnknionmabP20
import Derived.Test.YtinphcnknionmabShC
import Derived.Test.YtinphcnknionmabLoYb
import Derived.Test.YtinphcnknionmabP00
namespace Go.Proofs.Ytinphcnknionmab
open Go.RowKit Go.Shelf

theorem store_func (P : Program) (W : World) (a : Addr) (m : Mode) (fn : Fn) (first cap : Array Value) : (store a (.func fn first cap) m).run P W = stored P W a (.func fn first cap) m := run_store P W a _ m rfl
attribute [local go_sem] store_func

/-- What Eval makes before it calls fold. -/
def evW (w : World) (op x y : Int) (kv : Value) (ca : Option Addr) (cn cc : Nat) : World :=
  (((w.alloc (.cells #[.int .i64 op, .int .i64 x, .int .i64 y, kv] 31)).alloc (.cells #[.slice ca cn cc] 27)).alloc (.cells #[.int .u64 (cn : Int)] 50)).alloc (.cells #[.func (.func 18) #[] #[.pointer (some ⟨w.heap.size + 2, 0, none⟩), .pointer (some ⟨w.heap.size + 1, 0, none⟩)]] 51)

set_option maxRecDepth 100000 in
set_option maxHeartbeats 2000000 in
theorem eval_w (w : World) (op x y : Int) (a : Option Addr) (n cap : Nat) (ca : Option Addr) (cn cc : Nat) (hcn : cn ≤ 9223372036854775807) (b : Bool) (B : Nat)
    (HF : Calls Try.prog 19 #[.pointer (some ⟨w.heap.size, 0, none⟩), .func (.func 20) #[] #[.pointer (some ⟨w.heap.size + 3, 0, none⟩)]] (evW w op x y (.slice a n cap) ca cn cc) fun e w' => e = .returned (.bool b) ∧ Below B w w') :
    Calls Try.prog 7 #[.agg #[.int .i64 op, .int .i64 x, .int .i64 y, .slice a n cap], .slice ca cn cc] w fun e w' => e = .returned (.bool b) ∧ Below B w w' := by
  have hwr : IntKind.u64.wrap (cn : Int) = (cn : Int) := by rw [IntKind.wrap_u64]; omega
  unfold evW at HF
  go_enter Try.func7, Try.ntmps7
  go_wp2_with (first | (go_at_call 19; refine HF.mono ?_; rintro e w2 ⟨rfl, B2⟩))
  go_ret
  exact ⟨rfl, B2⟩

theorem one_row (w : World) (v : Value) (ty : TypeId) : (w.alloc (.cells #[v] ty)).rowIs w.heap.size ty 1 (fun _ => v) := World.rowIs.congr (made_row w #[v] ty) (fun j hj => by
  have : j = 0 := by simp at hj; omega
  subst this; rfl)
theorem row_alloc {w : World} {b n : Nat} {f : Nat → Value} {ty : TypeId} (o : Obj) (h : w.rowIs b ty n f) : (w.alloc o).rowIs b ty n f := h.of_block (Below.heap_alloc w o b (World.rowIs.lt h))

/-- What lies in that world. -/
theorem evW_at (w : World) (op x y : Int) (kv : Value) (kids : List Lf) (hk : KidsIn kv kids) (hks : ∀ k ∈ kids, Here w k) (ca : Option Addr) (cn cc : Nat) (cls : List Int) (hl : cls.length = cn) (hc : cls = [] ∨ ∃ g off, ca = some ⟨g, off, none⟩ ∧ ∀ (j : Nat) (c : Int), cls[j]? = some c → w.cell? ⟨g, off + j, none⟩ = some (.int .i64 c)) (hs : cn ≤ 9223372036854775807) :
    Here (evW w op x y kv ca cn cc) (.mk w.heap.size 0 op x y kv kids) ∧ Cls (evW w op x y kv ca cn cc) (w.heap.size + 2) (w.heap.size + 1) ca cn cc cls ∧
    (evW w op x y kv ca cn cc).rowIs (w.heap.size + 3) 51 1 (fun _ => .func (.func 18) #[] #[.pointer (some ⟨w.heap.size + 2, 0, none⟩), .pointer (some ⟨w.heap.size + 1, 0, none⟩)]) ∧
    Below w.heap.size w (evW w op x y kv ca cn cc) ∧ (evW w op x y kv ca cn cc).heap.size = w.heap.size + 4 := by
  have hz1 : (w.alloc (.cells #[.int .i64 op, .int .i64 x, .int .i64 y, kv] 31)).heap.size = w.heap.size + 1 := by simp
  have hz2 : ((w.alloc (.cells #[.int .i64 op, .int .i64 x, .int .i64 y, kv] 31)).alloc (.cells #[.slice ca cn cc] 27)).heap.size = w.heap.size + 2 := by simp
  have hz3 : (((w.alloc (.cells #[.int .i64 op, .int .i64 x, .int .i64 y, kv] 31)).alloc (.cells #[.slice ca cn cc] 27)).alloc (.cells #[.int .u64 (cn : Int)] 50)).heap.size = w.heap.size + 3 := by simp
  have hB : Below w.heap.size w (evW w op x y kv ca cn cc) := ((((Below.refl _ w).alloc (Nat.le_refl _) _).alloc (by simp) _).alloc (by simp; omega) _).alloc (by simp; omega) _
  have K : FKeepA (fun k => k < w.heap.size) w (evW w op x y kv ca cn cc) := fun k _ _ hlt hk => (hB.block k hlt).trans hk
  refine ⟨LayA.mk trivial ?_ hk (fun k hkk => ?_), ⟨?_, ?_, hl, ?_, hs⟩, ?_, hB, by simp [evW]⟩
  · refine ⟨#[.int .i64 op, .int .i64 x, .int .i64 y, kv], (0, 0), ?_, rfl, rfl, rfl, rfl⟩
    unfold evW
    rw [Below.heap_alloc _ _ _ (by simp; omega), Below.heap_alloc _ _ _ (by simp; omega), Below.heap_alloc _ _ _ (by simp)]
    exact World.alloc_heap_new w _
  · exact ((hks k hkk).lt.mono (fun _ h => h.2)).keep K |>.mono (fun _ _ => trivial)
  · exact row_alloc _ (hz2 ▸ one_row _ (.int .u64 (cn : Int)) 50)
  · exact row_alloc _ (row_alloc _ (hz1 ▸ one_row _ (.slice ca cn cc) 27))
  · rcases hc with h | ⟨g, off, h1, h2⟩
    · exact Or.inl h
    · refine Or.inr ⟨g, off, h1, fun j c hj => ?_⟩
      have := h2 j c hj
      exact (hB.cell (World.block_lt_of_cell? w _ this)).trans this
  · exact hz3 ▸ one_row _ _ 51

end Go.Proofs.Ytinphcnknionmab

namespace Go.Proofs.Ytinphcnknionmab
open Go.RowKit Go.Shelf

theorem Cls.below {W W' : World} {bb cb : Nat} {ca : Option Addr} {cn cc : Nat} {cls : List Int} {B : Nat} (h : Cls W bb cb ca cn cc cls) (hB : Below B W W') (hz : W.heap.size ≤ B) : Cls W' bb cb ca cn cc cls := by
  refine ⟨h.bnd.of_block (hB.block _ (Nat.lt_of_lt_of_le h.bnd.lt hz)), h.cbx.of_block (hB.block _ (Nat.lt_of_lt_of_le h.cbx.lt hz)), h.len, ?_, h.small⟩
  rcases h.cells with e | ⟨g, off, h1, h2⟩
  · exact Or.inl e
  · refine Or.inr ⟨g, off, h1, fun j c hj => ?_⟩
    have := h2 j c hj
    exact (hB.cell (Nat.lt_of_lt_of_le (World.block_lt_of_cell? W _ this) hz)).trans this

/-- Eval. -/
theorem eval_in (w : World) (op x y : Int) (kv : Value) (kids : List Lf) (hk : KidsIn kv kids) (hks : ∀ k ∈ kids, Here w k) (ca : Option Addr) (cn cc : Nat) (cls : List Int) (hl : cls.length = cn) (hc : cls = [] ∨ ∃ g off, ca = some ⟨g, off, none⟩ ∧ ∀ (j : Nat) (c : Int), cls[j]? = some c → w.cell? ⟨g, off + j, none⟩ = some (.int .i64 c)) (hs : cn ≤ 9223372036854775807)
    (hN : (wk (.mk w.heap.size 0 op x y kv kids) 0).length * 16 ≤ 140737488355328) (hR : ∀ z ∈ es (.mk w.heap.size 0 op x y kv kids), R64 z.x ∧ R64 z.y) :
    Calls Try.prog 7 #[.agg #[.int .i64 op, .int .i64 x, .int .i64 y, kv], .slice ca cn cc] w fun e w' => e = .returned (.bool (fo (evG cls) (.mk w.heap.size 0 op x y kv kids))) ∧ Below w.heap.size w w' := by
  obtain ⟨h1, h2, h3, h4, h5⟩ := evW_at w op x y kv kids hk hks ca cn cc cls hl hc hs
  obtain ⟨a, cap, rfl, _⟩ := hk
  refine eval_w w op x y a _ cap ca cn cc hs _ _ ?_
  have F := fold_in (evW w op x y (.slice a kids.length cap) ca cn cc) (.mk w.heap.size 0 op x y (.slice a kids.length cap) kids) (w.heap.size + 3) (evG cls) h1 hN (fun W z args sv hz hB hH hA hal =>
    eval2_in W (w.heap.size + 3) (w.heap.size + 2) (w.heap.size + 1) ca cn cc cls (h3.of_block (hB.block _ (World.rowIs.lt h3))) (h2.below hB (Nat.le_refl _)) z hH (hR z hz).1 (hR z hz).2 sv args hA hal)
  refine F.mono ?_
  rintro e w' ⟨rfl, hB⟩
  exact ⟨rfl, h4.trans (hB.mono (by omega))⟩

end Go.Proofs.Ytinphcnknionmab

namespace Go.Proofs.Ytinphcnknionmab
open Go.RowKit Go.Shelf

theorem evG_N (cls : List Int) (t : Lf) (args args' : List Bool) (h : t.op ≠ 0 → args = args') : evG cls t args = evN cls t.op t.x t.y t.kids.length args' := by
  unfold evG evN whl
  generalize t.kids.length = n
  generalize t.op = op at h ⊢
  by_cases h0 : op = 0
  · by_cases hn : n = 0 <;> simp [h0, hn]
  · rw [h h0]
    by_cases h1 : op = 1
    · by_cases hn : n = 1 <;> simp [h1, hn]
    · by_cases h2 : op = 2
      · by_cases hn : n = 2 <;> simp [h2, hn]
      · by_cases h3 : op = 3
        · by_cases hn : n = 2 <;> simp [h3, hn]
        · by_cases h4 : op = 4
          · by_cases hn : n = 2 <;> simp [h4, hn]
          · simp [h0, h1, h2, h3, h4]

theorem fo_ev (cls : List Int) (t : Lf) : fo (evG cls) t = evF cls t.er := by
  rw [fo_eq, evG_N cls t _ (t.kids.map fun k => evF cls k.er)]
  · cases t with
    | mk b o op x y kv kids =>
      simp only [Lf.er, evF, Lf.op, Lf.x, Lf.y, Lf.kids, List.length_map, List.map_map]
      rfl
  · intro h0
    have e : t.ks = t.kids := by simp [Lf.ks, h0]
    refine (List.map_congr_left fun k hk => ?_).trans (congrArg (List.map fun k => evF cls k.er) e)
    exact fo_ev cls k
termination_by SizeOf.sizeOf t
decreasing_by exact ks_lt hk

end Go.Proofs.Ytinphcnknionmab

namespace Go.Proofs.Ytinphcnknionmab
open Go.RowKit Go.Shelf

/-- All its numbers are numbers of the program. -/
inductive RF : Fo → Prop where
  | mk {op x y : Int} {kids : List Fo} (hx : R64 x) (hy : R64 y) (h : ∀ k ∈ kids, RF k) : RF (.mk op x y kids)
theorem RF.kid {t k : Lf} (h : RF t.er) (hk : k ∈ t.kids) : RF k.er := by
  cases t
  rw [Lf.er] at h
  cases h with
  | mk hx hy h => exact h _ (List.mem_map.2 ⟨k, hk, rfl⟩)
theorem RF.here {t : Lf} (h : RF t.er) : R64 t.x ∧ R64 t.y := by
  cases t
  rw [Lf.er] at h
  cases h with
  | mk hx hy h => exact ⟨hx, hy⟩
theorem wk_R (t : Lf) (d : Nat) (ht : RF t.er) : ∀ y ∈ wk t d, RF y.1.er := by
  intro y hy
  cases h : t.ks[d]? with
  | none =>
    rw [wk_end h] at hy
    obtain rfl := List.mem_singleton.1 hy
    exact ht
  | some k =>
    have hlt := (List.getElem?_eq_some_iff.1 h).1
    rw [wk_step h] at hy
    rcases List.mem_cons.1 hy with rfl | hy
    · exact ht
    · rcases List.mem_append.1 hy with hy | hy
      · exact wk_R k 0 (ht.kid (ks_sub (List.mem_of_getElem? h))) y hy
      · exact wk_R t (d + 1) ht y hy
termination_by (SizeOf.sizeOf t, t.ks.length - d)
decreasing_by
  · exact Prod.Lex.left _ _ (ks_lt (List.mem_of_getElem? h))
  · exact Prod.Lex.right _ (by omega)
theorem es_R {t : Lf} (ht : RF t.er) : ∀ z ∈ es t, R64 z.x ∧ R64 z.y := by
  intro z hz
  unfold es at hz
  obtain ⟨⟨y, d⟩, h1, h2⟩ := List.mem_filterMap.1 hz
  unfold isEnd at h2
  split at h2
  · cases h2
    exact (wk_R t 0 ht _ h1).here
  · cases h2
theorem eqs_R {t : Lf} (ht : RF t.er) : ∀ p ∈ eqs t, P64 p := by
  intro p hp
  unfold eqs at hp
  obtain ⟨z, h1, h2⟩ := List.mem_filterMap.1 hp
  unfold isEq at h2
  split at h2
  · cases h2
    exact es_R ht z h1
  · cases h2

/-- The value v is the Form f, wherever its Kids lie. -/
def FIs (W : World) (v : Value) (f : Fo) : Prop := FValA (fun _ => True) W v f
theorem FVal.is {B : Nat} {W : World} {v : Value} {f : Fo} (h : FVal B W v f) : FIs W v f := FValA.mono (fun _ _ => trivial) h
theorem FIs.keep {W W' : World} {v : Value} {f : Fo} (h : FIs W v f) (hB : Below W.heap.size W W') : FIs W' v f := FValA.keep (fun k _ _ _ hk => (hB.block k (Array.getElem?_eq_some_iff.1 hk).1).trans hk) h

theorem showF_in (w : World) (base p : Nat) (ev : Value) (nb fb : Nat) (l : List Tm) (hbk : Bk w base p ev nb fb l) (hs : Hs l) (v : Value) (f : Fo) (hv : FIs w v f) (hw : WfF f) (hN : szF f * 16 ≤ 140737488355328) (hL : (shF l [61] f).length ≤ 140737488355328) :
    Calls Try.prog 26 #[.pointer (some ⟨p, 0, none⟩), v] w fun e w' => e = .returned (.string (ofB (shF l [61] f))) ∧ Below w.heap.size w w' := by
  obtain ⟨op, x, y, kv, kids, rfl, hk, hks, rfl⟩ := hv
  have he : (Lf.mk (w.heap.size + 1) 0 op x y kv kids).er = .mk op x y (kids.map Lf.er) := by rw [Lf.er]
  have hz := shG_er l (t := .mk (w.heap.size + 1) 0 op x y kv kids) (by rw [he]; exact hw)
  have h := lshow_in w base p ev nb fb l hbk hs op x y kv kids hk hks (by rw [len_wk, he]; exact hN) (fun i => Nat.le_trans (shG_take l _ i) (by rw [hz, he]; exact hL))
  rw [hz, he] at h
  exact h

theorem evalF_in (w : World) (v : Value) (f : Fo) (hv : FIs w v f) (ca : Option Addr) (cn cc : Nat) (cls : List Int) (hl : cls.length = cn) (hc : cls = [] ∨ ∃ g off, ca = some ⟨g, off, none⟩ ∧ ∀ (j : Nat) (c : Int), cls[j]? = some c → w.cell? ⟨g, off + j, none⟩ = some (.int .i64 c)) (hs : cn ≤ 9223372036854775807) (hN : szF f * 16 ≤ 140737488355328) (hR : RF f) :
    Calls Try.prog 7 #[v, .slice ca cn cc] w fun e w' => e = .returned (.bool (evF cls f)) ∧ Below w.heap.size w w' := by
  obtain ⟨op, x, y, kv, kids, rfl, hk, hks, rfl⟩ := hv
  have he : (Lf.mk w.heap.size 0 op x y kv kids).er = .mk op x y (kids.map Lf.er) := by rw [Lf.er]
  have h := eval_in w op x y kv kids hk hks ca cn cc cls hl hc hs (by rw [len_wk, he]; exact hN) (es_R (by rw [he]; exact hR))
  rw [fo_ev, he] at h
  exact h

theorem atomsF_in (w : World) (v : Value) (f : Fo) (hv : FIs w v f) (hN : szF f * 16 ≤ 140737488355328) (hR : RF f) :
    Calls Try.prog 11 #[v] w fun e w' => ∃ u, e = .returned u ∧ w'.ownsRow w.heap.size 28 2 u (ats (eqF f)).length (pairC (ats (eqF f))) ∧ Below w.heap.size w w' := by
  obtain ⟨op, x, y, kv, kids, rfl, hk, hks, rfl⟩ := hv
  have he : (Lf.mk w.heap.size 0 op x y kv kids).er = .mk op x y (kids.map Lf.er) := by rw [Lf.er]
  have h := atoms_in w op x y kv kids hk hks (by rw [len_wk, he]; exact hN) (eqs_R (by rw [he]; exact hR))
  rw [eqs_er, he] at h
  exact h

end Go.Proofs.Ytinphcnknionmab

namespace Go.Proofs.Ytinphcnknionmab
open Go.RowKit

/-- What stays, behind a Kid's Eval. -/
theorem rev_kid {w : World} {ca : Option Addr} {cc : Nat} {cls : List Int} (hc : ClsAt w ca cls) {kids : List Lf} (hks : ∀ k ∈ kids, LayC w k) (ih : ∀ k ∈ kids, REv k) {op : Int} {kv : Value}
    (j : Nat) (k : Lf) (hj : kids[j]? = some k) (w2 : World) (hB : Below w.heap.size w w2) (e0 : w2.cell? ⟨w.heap.size, 0, none⟩ = some (.int .i64 op)) (e3 : w2.cell? ⟨w.heap.size, 3, none⟩ = some kv) :
    Calls Try.prog 9 #[.agg #[.int .i64 k.op, .int .i64 k.x, .int .i64 k.y, k.kv], .slice ca cls.length cc] w2 fun e w' => e = .returned (.bool (evF cls k.er)) ∧ Below w.heap.size w w' ∧ w'.cell? ⟨w.heap.size, 0, none⟩ = some (.int .i64 op) ∧ w'.cell? ⟨w.heap.size, 3, none⟩ = some kv := by
  have hm := List.mem_of_getElem? hj
  have hl := (hks k hm).kept hB
  have hz := World.block_lt_of_cell? w2 _ e0
  have hi := ih k hm w2 ca cc cls (hc.below hB)
  cases hl with
  | mk d0 d1 d2 d3 dk dh =>
    refine (hi dk dh).mono ?_
    rintro e w' ⟨rfl, B⟩
    exact ⟨rfl, hB.trans (B.mono hB.size), (B.cell (p := ⟨w.heap.size, 0, none⟩) hz).trans e0, (B.cell (p := ⟨w.heap.size, 3, none⟩) hz).trans e3⟩
theorem kid_cells {w : World} {kids : List Lf} (hks : ∀ k ∈ kids, LayC w k) {kb ko : Nat} (hadr : ∀ (j : Nat) (t : Lf), kids[j]? = some t → t.b = kb ∧ t.o = ko + j * 4) (j : Nat) (k : Lf) (hj : kids[j]? = some k) (w2 : World) (hB : Below w.heap.size w w2) :
    w2.cell? ⟨kb, ko + j * 4, none⟩ = some (.int .i64 k.op) ∧ w2.cell? ⟨kb, ko + j * 4 + 1, none⟩ = some (.int .i64 k.x) ∧ w2.cell? ⟨kb, ko + j * 4 + 2, none⟩ = some (.int .i64 k.y) ∧ ∃ sa sn sc, k.kv = .slice sa sn sc ∧ w2.cell? ⟨kb, ko + j * 4 + 3, none⟩ = some (.slice sa sn sc) := by
  have hm := List.mem_of_getElem? hj
  have hl := (hks k hm).kept hB
  obtain ⟨a1, a2⟩ := hadr j k hj
  cases hl with
  | mk d0 d1 d2 d3 dk dh =>
    simp only [Lf.b, Lf.o] at a1 a2
    subst a1 a2
    obtain ⟨sa, sc, rfl, _⟩ := dk
    exact ⟨d0, d1, d2, sa, _, sc, rfl, d3⟩

theorem rkids_box (w : World) (op x y : Int) (a : Option Addr) (n cap : Nat) : Calls Try.prog 22 #[.agg #[.int .i64 op, .int .i64 x, .int .i64 y, .slice a n cap]] (w.alloc (.cells #[.int .i64 op, .int .i64 x, .int .i64 y, .slice a n cap] 26)) fun e w' => e = .returned (.bool (whN op n)) ∧ Below w.heap.size w w' ∧ w'.cell? ⟨w.heap.size, 0, none⟩ = some (.int .i64 op) ∧ w'.cell? ⟨w.heap.size, 3, none⟩ = some (.slice a n cap) := by
  refine (rkids_in _ op x y a n cap).mono ?_
  rintro e w' ⟨rfl, B⟩
  have hz : w.heap.size < (w.alloc (.cells #[.int .i64 op, .int .i64 x, .int .i64 y, .slice a n cap] 26)).heap.size := by simp
  refine ⟨rfl, ((Below.refl _ w).alloc (Nat.le_refl _) _).trans (B.mono (by simp)), ?_, ?_⟩ <;>
    (rw [B.cell hz]; simp [go_sem])

set_option maxRecDepth 100000 in
set_option maxHeartbeats 2000000 in
theorem rev_one (t : Lf) (ih : ∀ k ∈ t.kids, REv k) (h1 : t.op = 1) (hn1 : t.kids.length = 1) : REv t := by
  intro w ca cc cls hc hk hks
  obtain ⟨b, o, op, x, y, kv, kids⟩ := t
  simp only [Lf.op, Lf.x, Lf.y, Lf.kv, Lf.kids] at ih hk hks h1 hn1 ⊢
  obtain ⟨a, cap, rfl, hcap, hkk⟩ := hk
  obtain ⟨k0, rfl⟩ := List.length_eq_one_iff.1 hn1
  subst h1
  obtain ⟨kb, ko, rfl, hadr⟩ : ∃ kb ko, a = some ⟨kb, ko, none⟩ ∧ ∀ (j : Nat) (t : Lf), [k0][j]? = some t → t.b = kb ∧ t.o = ko + j * 4 := by
    rcases hkk with e | h
    · cases e
    · exact h
  have HE : Hid (evF cls (Lf.er (.mk b o 1 x y (.slice (some ⟨kb, ko, none⟩) 1 cap) [k0])) = !(evF cls k0.er)) := by
    show _ = _
    simp [Lf.er, evF, evN]
  have RK := rkids_box w 1 x y (some ⟨kb, ko, none⟩) 1 cap
  have hw : whN 1 1 = true := rfl
  rw [hw] at RK
  have NX : Hid _ := @rev_kid w ca cc cls hc [k0] hks ih 1 (.slice (some ⟨kb, ko, none⟩) 1 cap) 0 k0 rfl
  have C0 : Hid _ := kid_cells hks hadr 0 k0 rfl
  clear hks ih hadr hc hkk hn1 hw
  go_enter Try.func9, Try.ntmps9
  go_wp2_with (first | (go_at_call 22; refine RK.mono ?_; rintro e w2 ⟨rfl, B2, c0, c3⟩; obtain ⟨g0, g1, g2, sa, sn, sc, hkv, g3⟩ := C0.out w2 B2; have N2 := NX.out w2 B2 c0 c3; rw [hkv] at N2; simp only [Nat.zero_mul, Nat.add_zero] at g0 g1 g2 g3; clear hkv) | (go_at_call 9; refine N2.mono ?_; rintro e w3 ⟨rfl, B3, m0, m3⟩))
  go_ret
  exact ⟨ret_b (by rw [HE.out]), B3⟩

set_option maxRecDepth 100000 in
set_option maxHeartbeats 2000000 in
theorem rev_two2 (t : Lf) (ih : ∀ k ∈ t.kids, REv k) (h1 : t.op = 2) (hn1 : t.kids.length = 2) : REv t := by
  intro w ca cc cls hc hk hks
  obtain ⟨b, o, op, x, y, kv, kids⟩ := t
  simp only [Lf.op, Lf.x, Lf.y, Lf.kv, Lf.kids] at ih hk hks h1 hn1 ⊢
  obtain ⟨a, cap, rfl, hcap, hkk⟩ := hk
  obtain ⟨k0, k1, rfl⟩ : ∃ k0 k1, kids = [k0, k1] := by
    match kids, hn1 with
    | [p, q], _ => exact ⟨p, q, rfl⟩
  subst h1
  obtain ⟨kb, ko, rfl, hadr⟩ : ∃ kb ko, a = some ⟨kb, ko, none⟩ ∧ ∀ (j : Nat) (t : Lf), [k0, k1][j]? = some t → t.b = kb ∧ t.o = ko + j * 4 := by
    rcases hkk with e | h
    · cases e
    · exact h
  have HE : Hid (evF cls (Lf.er (.mk b o 2 x y (.slice (some ⟨kb, ko, none⟩) 2 cap) [k0, k1])) = (evF cls k0.er && evF cls k1.er)) := by
    show _ = _
    simp [Lf.er, evF, evN]
  have RK := rkids_box w 2 x y (some ⟨kb, ko, none⟩) 2 cap
  have hw : whN 2 2 = true := rfl
  rw [hw] at RK
  have NX : Hid _ := @rev_kid w ca cc cls hc [k0, k1] hks ih 2 (.slice (some ⟨kb, ko, none⟩) 2 cap) 0 k0 rfl
  have NY : Hid _ := @rev_kid w ca cc cls hc [k0, k1] hks ih 2 (.slice (some ⟨kb, ko, none⟩) 2 cap) 1 k1 rfl
  have C0 : Hid _ := kid_cells hks hadr 0 k0 rfl
  have C1 : Hid _ := kid_cells hks hadr 1 k1 rfl
  clear hks ih hadr hc hkk hn1 hw
  generalize evF cls k0.er = p at *
  generalize evF cls k1.er = q at *
  go_enter Try.func9, Try.ntmps9
  cases p <;>
    (go_wp2_with (first | (go_at_call 22; refine RK.mono ?_; rintro e w2 ⟨rfl, B2, c0, c3⟩; obtain ⟨g0, g1, g2, sa, sn, sc, hkv, g3⟩ := C0.out w2 B2; have N2 := NX.out w2 B2 c0 c3; rw [hkv] at N2; simp only [Nat.zero_mul, Nat.add_zero] at g0 g1 g2 g3; clear hkv) | (go_at_call 9; refine N3.mono ?_; rintro e w4 ⟨rfl, B4, n0, n3⟩) | (go_at_call 9; refine N2.mono ?_; clear c0 c3 g0 g1 g2 g3; rintro e w3 ⟨rfl, B3, m0, m3⟩; obtain ⟨i0, i1, i2, sa', sn', sc', hkv', i3⟩ := C1.out w3 B3; have N3 := NY.out w3 B3 m0 m3; rw [hkv'] at N3; simp only [Nat.one_mul, Nat.add_assoc, Nat.reduceAdd] at i0 i1 i2 i3; clear hkv'))
     go_ret
     exact ⟨ret_b (by rw [HE.out]; simp), B4⟩)

set_option maxRecDepth 100000 in
set_option maxHeartbeats 2000000 in
theorem rev_two3 (t : Lf) (ih : ∀ k ∈ t.kids, REv k) (h1 : t.op = 3) (hn1 : t.kids.length = 2) : REv t := by
  intro w ca cc cls hc hk hks
  obtain ⟨b, o, op, x, y, kv, kids⟩ := t
  simp only [Lf.op, Lf.x, Lf.y, Lf.kv, Lf.kids] at ih hk hks h1 hn1 ⊢
  obtain ⟨a, cap, rfl, hcap, hkk⟩ := hk
  obtain ⟨k0, k1, rfl⟩ : ∃ k0 k1, kids = [k0, k1] := by
    match kids, hn1 with
    | [p, q], _ => exact ⟨p, q, rfl⟩
  subst h1
  obtain ⟨kb, ko, rfl, hadr⟩ : ∃ kb ko, a = some ⟨kb, ko, none⟩ ∧ ∀ (j : Nat) (t : Lf), [k0, k1][j]? = some t → t.b = kb ∧ t.o = ko + j * 4 := by
    rcases hkk with e | h
    · cases e
    · exact h
  have HE : Hid (evF cls (Lf.er (.mk b o 3 x y (.slice (some ⟨kb, ko, none⟩) 2 cap) [k0, k1])) = (evF cls k0.er || evF cls k1.er)) := by
    show _ = _
    simp [Lf.er, evF, evN]
  have RK := rkids_box w 3 x y (some ⟨kb, ko, none⟩) 2 cap
  have hw : whN 3 2 = true := rfl
  rw [hw] at RK
  have NX : Hid _ := @rev_kid w ca cc cls hc [k0, k1] hks ih 3 (.slice (some ⟨kb, ko, none⟩) 2 cap) 0 k0 rfl
  have NY : Hid _ := @rev_kid w ca cc cls hc [k0, k1] hks ih 3 (.slice (some ⟨kb, ko, none⟩) 2 cap) 1 k1 rfl
  have C0 : Hid _ := kid_cells hks hadr 0 k0 rfl
  have C1 : Hid _ := kid_cells hks hadr 1 k1 rfl
  clear hks ih hadr hc hkk hn1 hw
  generalize evF cls k0.er = p at *
  generalize evF cls k1.er = q at *
  go_enter Try.func9, Try.ntmps9
  cases p <;>
    (go_wp2_with (first | (go_at_call 22; refine RK.mono ?_; rintro e w2 ⟨rfl, B2, c0, c3⟩; obtain ⟨g0, g1, g2, sa, sn, sc, hkv, g3⟩ := C0.out w2 B2; have N2 := NX.out w2 B2 c0 c3; rw [hkv] at N2; simp only [Nat.zero_mul, Nat.add_zero] at g0 g1 g2 g3; clear hkv) | (go_at_call 9; refine N3.mono ?_; rintro e w4 ⟨rfl, B4, n0, n3⟩) | (go_at_call 9; refine N2.mono ?_; clear c0 c3 g0 g1 g2 g3; rintro e w3 ⟨rfl, B3, m0, m3⟩; obtain ⟨i0, i1, i2, sa', sn', sc', hkv', i3⟩ := C1.out w3 B3; have N3 := NY.out w3 B3 m0 m3; rw [hkv'] at N3; simp only [Nat.one_mul, Nat.add_assoc, Nat.reduceAdd] at i0 i1 i2 i3; clear hkv'))
     go_ret
     exact ⟨ret_b (by rw [HE.out]; simp), B4⟩)

set_option maxRecDepth 100000 in
set_option maxHeartbeats 2000000 in
theorem rev_two4 (t : Lf) (ih : ∀ k ∈ t.kids, REv k) (h1 : t.op = 4) (hn1 : t.kids.length = 2) : REv t := by
  intro w ca cc cls hc hk hks
  obtain ⟨b, o, op, x, y, kv, kids⟩ := t
  simp only [Lf.op, Lf.x, Lf.y, Lf.kv, Lf.kids] at ih hk hks h1 hn1 ⊢
  obtain ⟨a, cap, rfl, hcap, hkk⟩ := hk
  obtain ⟨k0, k1, rfl⟩ : ∃ k0 k1, kids = [k0, k1] := by
    match kids, hn1 with
    | [p, q], _ => exact ⟨p, q, rfl⟩
  subst h1
  obtain ⟨kb, ko, rfl, hadr⟩ : ∃ kb ko, a = some ⟨kb, ko, none⟩ ∧ ∀ (j : Nat) (t : Lf), [k0, k1][j]? = some t → t.b = kb ∧ t.o = ko + j * 4 := by
    rcases hkk with e | h
    · cases e
    · exact h
  have HE : Hid (evF cls (Lf.er (.mk b o 4 x y (.slice (some ⟨kb, ko, none⟩) 2 cap) [k0, k1])) = (!(evF cls k0.er) || evF cls k1.er)) := by
    show _ = _
    simp [Lf.er, evF, evN]
  have RK := rkids_box w 4 x y (some ⟨kb, ko, none⟩) 2 cap
  have hw : whN 4 2 = true := rfl
  rw [hw] at RK
  have NX : Hid _ := @rev_kid w ca cc cls hc [k0, k1] hks ih 4 (.slice (some ⟨kb, ko, none⟩) 2 cap) 0 k0 rfl
  have NY : Hid _ := @rev_kid w ca cc cls hc [k0, k1] hks ih 4 (.slice (some ⟨kb, ko, none⟩) 2 cap) 1 k1 rfl
  have C0 : Hid _ := kid_cells hks hadr 0 k0 rfl
  have C1 : Hid _ := kid_cells hks hadr 1 k1 rfl
  clear hks ih hadr hc hkk hn1 hw
  generalize evF cls k0.er = p at *
  generalize evF cls k1.er = q at *
  go_enter Try.func9, Try.ntmps9
  cases p <;>
    (go_wp2_with (first | (go_at_call 22; refine RK.mono ?_; rintro e w2 ⟨rfl, B2, c0, c3⟩; obtain ⟨g0, g1, g2, sa, sn, sc, hkv, g3⟩ := C0.out w2 B2; have N2 := NX.out w2 B2 c0 c3; rw [hkv] at N2; simp only [Nat.zero_mul, Nat.add_zero] at g0 g1 g2 g3; clear hkv) | (go_at_call 9; refine N3.mono ?_; rintro e w4 ⟨rfl, B4, n0, n3⟩) | (go_at_call 9; refine N2.mono ?_; clear c0 c3 g0 g1 g2 g3; rintro e w3 ⟨rfl, B3, m0, m3⟩; obtain ⟨i0, i1, i2, sa', sn', sc', hkv', i3⟩ := C1.out w3 B3; have N3 := NY.out w3 B3 m0 m3; rw [hkv'] at N3; simp only [Nat.one_mul, Nat.add_assoc, Nat.reduceAdd] at i0 i1 i2 i3; clear hkv'))
     go_ret
     exact ⟨ret_b (by rw [HE.out]; simp), B4⟩)

/-- The document's Eval. -/
theorem reval : ∀ t : Lf, REv t
  | .mk b o op x y kv kids => by
    have ih : ∀ k ∈ kids, REv k := fun k hk => by
      have := List.sizeOf_lt_of_mem hk
      exact reval k
    by_cases h0 : op = 0
    · exact rev_leaf _ (Or.inl h0)
    · cases hw : whN op kids.length with
      | false => exact rev_leaf _ (Or.inr hw)
      | true =>
        by_cases h1 : op = 1
        · exact rev_one _ ih h1 (by simp [whN, h1] at hw; exact hw)
        · by_cases h2 : op = 2
          · exact rev_two2 _ ih h2 (by simp [whN, h2] at hw; exact hw)
          · by_cases h3 : op = 3
            · exact rev_two3 _ ih h3 (by simp [whN, h3] at hw; exact hw)
            · by_cases h4 : op = 4
              · exact rev_two4 _ ih h4 (by simp [whN, h4] at hw; exact hw)
              · simp [whN, h0, h1, h2, h3, h4] at hw
termination_by t => SizeOf.sizeOf t
decreasing_by simp; omega

end Go.Proofs.Ytinphcnknionmab
