/- Package logic: Eval, up to its call of fold. Package logic: Eval. Package logic: what a formula comes to, by what it is alone. Package logic: Show, Eval, Atoms of a Form, by what it is. LogicClauses, plainly: what the clauses of a formula say. Package decide, plainly: formulas of a problem; model, and what it learns. Package sat: Solve. Package decide: formulas in memory; wrong. Package decide: what add works on: formulas in a row, and all that no step of a problem changes. -/
import Derived.Test.YtlehlgipbhfioaaGreatP36
import Derived.Test.YtlehlgipbhfioaaGreatLoU
import Derived.Test.YtlehlgipbhfioaaGreatP32
import Derived.Test.YtlehlgipbhfioaaGreatShC
import Derived.Test.YtlehlgipbhfioaaGreatLoYb
import Derived.Test.YtlehlgipbhfioaaGreatP23
import Derived.Test.YtlehlgipbhfioaaGreatP14
import Derived.Test.YtlehlgipbhfioaaGreatP25
import Derived.Test.YtlehlgipbhfioaaGreatP09
namespace Go.Proofs.YtlehlgipbhfioaaGreat
open Go.RowKit Go.Shelf

theorem store_func (P : Program) (W : World) (a : Addr) (m : Mode) (fn : Fn) (first cap : Array Value) : (store a (.func fn first cap) m).run P W = stored P W a (.func fn first cap) m := run_store P W a _ m rfl
attribute [local go_sem] store_func

/-- What Eval makes before it calls fold. -/
def evW (w : World) (op x y : Int) (kv : Value) (ca : Option Addr) (cn cc : Nat) : World :=
  (((w.alloc (.cells #[.int .i64 op, .int .i64 x, .int .i64 y, kv] 36)).alloc (.cells #[.slice ca cn cc] 39)).alloc (.cells #[.int .u64 (cn : Int)] 105)).alloc (.cells #[.func (.func 134) #[] #[.pointer (some ⟨w.heap.size + 2, 0, none⟩), .pointer (some ⟨w.heap.size + 1, 0, none⟩)]] 241)

set_option maxRecDepth 100000 in
set_option maxHeartbeats 2000000 in
theorem eval_w (w : World) (op x y : Int) (a : Option Addr) (n cap : Nat) (ca : Option Addr) (cn cc : Nat) (hcn : cn ≤ 9223372036854775807) (b : Bool) (B : Nat)
    (HF : Calls Tryz.prog 135 #[.pointer (some ⟨w.heap.size, 0, none⟩), .func (.func 136) #[] #[.pointer (some ⟨w.heap.size + 3, 0, none⟩)]] (evW w op x y (.slice a n cap) ca cn cc) fun e w' => e = .returned (.bool b) ∧ Below B w w') :
    Calls Tryz.prog 91 #[.agg #[.int .i64 op, .int .i64 x, .int .i64 y, .slice a n cap], .slice ca cn cc] w fun e w' => e = .returned (.bool b) ∧ Below B w w' := by
  have hwr : IntKind.u64.wrap (cn : Int) = (cn : Int) := by rw [IntKind.wrap_u64]; omega
  unfold evW at HF
  go_enter Tryz.func91, Tryz.ntmps91
  go_wp2_with (first | (go_at_call 135; refine HF.mono ?_; rintro e w2 ⟨rfl, B2⟩))
  go_ret
  exact ⟨rfl, B2⟩

theorem one_row (w : World) (v : Value) (ty : TypeId) : (w.alloc (.cells #[v] ty)).rowIs w.heap.size ty 1 (fun _ => v) := World.rowIs.congr (made_row w #[v] ty) (fun j hj => by
  have : j = 0 := by simp at hj; omega
  subst this; rfl)
theorem row_alloc {w : World} {b n : Nat} {f : Nat → Value} {ty : TypeId} (o : Obj) (h : w.rowIs b ty n f) : (w.alloc o).rowIs b ty n f := h.of_block (Below.heap_alloc w o b (World.rowIs.lt h))

/-- What lies in that world. -/
theorem evW_at (w : World) (op x y : Int) (kv : Value) (kids : List Lf) (hk : KidsIn kv kids) (hks : ∀ k ∈ kids, Here w k) (ca : Option Addr) (cn cc : Nat) (cls : List Int) (hl : cls.length = cn) (hc : cls = [] ∨ ∃ g off, ca = some ⟨g, off, none⟩ ∧ ∀ (j : Nat) (c : Int), cls[j]? = some c → w.cell? ⟨g, off + j, none⟩ = some (.int .i64 c)) (hs : cn ≤ 9223372036854775807) :
    Here (evW w op x y kv ca cn cc) (.mk w.heap.size 0 op x y kv kids) ∧ Cls (evW w op x y kv ca cn cc) (w.heap.size + 2) (w.heap.size + 1) ca cn cc cls ∧
    (evW w op x y kv ca cn cc).rowIs (w.heap.size + 3) 241 1 (fun _ => .func (.func 134) #[] #[.pointer (some ⟨w.heap.size + 2, 0, none⟩), .pointer (some ⟨w.heap.size + 1, 0, none⟩)]) ∧
    Below w.heap.size w (evW w op x y kv ca cn cc) ∧ (evW w op x y kv ca cn cc).heap.size = w.heap.size + 4 := by
  have hz1 : (w.alloc (.cells #[.int .i64 op, .int .i64 x, .int .i64 y, kv] 36)).heap.size = w.heap.size + 1 := by simp
  have hz2 : ((w.alloc (.cells #[.int .i64 op, .int .i64 x, .int .i64 y, kv] 36)).alloc (.cells #[.slice ca cn cc] 39)).heap.size = w.heap.size + 2 := by simp
  have hz3 : (((w.alloc (.cells #[.int .i64 op, .int .i64 x, .int .i64 y, kv] 36)).alloc (.cells #[.slice ca cn cc] 39)).alloc (.cells #[.int .u64 (cn : Int)] 105)).heap.size = w.heap.size + 3 := by simp
  have hB : Below w.heap.size w (evW w op x y kv ca cn cc) := ((((Below.refl _ w).alloc (Nat.le_refl _) _).alloc (by simp) _).alloc (by simp; omega) _).alloc (by simp; omega) _
  have K : FKeepA (fun k => k < w.heap.size) w (evW w op x y kv ca cn cc) := fun k _ _ hlt hk => (hB.block k hlt).trans hk
  refine ⟨LayA.mk trivial ?_ hk (fun k hkk => ?_), ⟨?_, ?_, hl, ?_, hs⟩, ?_, hB, by simp [evW]⟩
  · refine ⟨#[.int .i64 op, .int .i64 x, .int .i64 y, kv], (0, 0), ?_, rfl, rfl, rfl, rfl, rfl⟩
    unfold evW
    rw [Below.heap_alloc _ _ _ (by simp; omega), Below.heap_alloc _ _ _ (by simp; omega), Below.heap_alloc _ _ _ (by simp)]
    exact World.alloc_heap_new w _
  · exact ((hks k hkk).lt.mono (fun _ h => h.2)).keep K |>.mono (fun _ _ => trivial)
  · exact row_alloc _ (hz2 ▸ one_row _ (.int .u64 (cn : Int)) 105)
  · exact row_alloc _ (row_alloc _ (hz1 ▸ one_row _ (.slice ca cn cc) 39))
  · rcases hc with h | ⟨g, off, h1, h2⟩
    · exact Or.inl h
    · refine Or.inr ⟨g, off, h1, fun j c hj => ?_⟩
      have := h2 j c hj
      exact (hB.cell (World.block_lt_of_cell? w _ this)).trans this
  · exact hz3 ▸ one_row _ _ 241

end Go.Proofs.YtlehlgipbhfioaaGreat

namespace Go.Proofs.YtlehlgipbhfioaaGreat
open Go.RowKit Go.Shelf

theorem Cls.below {W W' : World} {bb cb : Nat} {ca : Option Addr} {cn cc : Nat} {cls : List Int} {B : Nat} (h : Cls W bb cb ca cn cc cls) (hB : Below B W W') (hz : W.heap.size ≤ B) : Cls W' bb cb ca cn cc cls := by
  refine ⟨h.bnd.of_block (hB.block _ (Nat.lt_of_lt_of_le h.bnd.lt hz)), h.cbx.of_block (hB.block _ (Nat.lt_of_lt_of_le h.cbx.lt hz)), h.len, ?_, h.small⟩
  rcases h.cells with e | ⟨g, off, h1, h2⟩
  · exact Or.inl e
  · refine Or.inr ⟨g, off, h1, fun j c hj => ?_⟩
    have := h2 j c hj
    exact (hB.cell (Nat.lt_of_lt_of_le (World.block_lt_of_cell? W _ this) hz)).trans this

/-- Eval. -/
theorem eval_in (w : World) (op x y : Int) (kv : Value) (kids : List Lf) (hk : KidsIn kv kids) (hks : ∀ k ∈ kids, Here w k) (ca : Option Addr) (cn cc : Nat) (cls : List Int) (hl : cls.length = cn) (hc : cls = [] ∨ ∃ g off, ca = some ⟨g, off, none⟩ ∧ ∀ (j : Nat) (c : Int), cls[j]? = some c → w.cell? ⟨g, off + j, none⟩ = some (.int .i64 c)) (hs : cn ≤ 9223372036854775807)
    (hN : (wk (.mk w.heap.size 0 op x y kv kids) 0).length * 16 ≤ 140737488355328) (hR : ∀ z ∈ es (.mk w.heap.size 0 op x y kv kids), R64 z.x ∧ R64 z.y) :
    Calls Tryz.prog 91 #[.agg #[.int .i64 op, .int .i64 x, .int .i64 y, kv], .slice ca cn cc] w fun e w' => e = .returned (.bool (fo (evG cls) (.mk w.heap.size 0 op x y kv kids))) ∧ Below w.heap.size w w' := by
  obtain ⟨h1, h2, h3, h4, h5⟩ := evW_at w op x y kv kids hk hks ca cn cc cls hl hc hs
  obtain ⟨a, cap, rfl, _⟩ := hk
  refine eval_w w op x y a _ cap ca cn cc hs _ _ ?_
  have F := fold_in (evW w op x y (.slice a kids.length cap) ca cn cc) (.mk w.heap.size 0 op x y (.slice a kids.length cap) kids) (w.heap.size + 3) (evG cls) h1 hN (fun W z args sv hz hB hH hA hal =>
    eval2_in W (w.heap.size + 3) (w.heap.size + 2) (w.heap.size + 1) ca cn cc cls (h3.of_block (hB.block _ (World.rowIs.lt h3))) (h2.below hB (Nat.le_refl _)) z hH (hR z hz).1 (hR z hz).2 sv args hA hal)
  refine F.mono ?_
  rintro e w' ⟨rfl, hB⟩
  exact ⟨rfl, h4.trans (hB.mono (by omega))⟩

end Go.Proofs.YtlehlgipbhfioaaGreat

namespace Go.Proofs.YtlehlgipbhfioaaGreat
open Go.RowKit Go.Shelf

theorem evG_N (cls : List Int) (t : Lf) (args args' : List Bool) (h : t.op ≠ 0 → args = args') : evG cls t args = evN cls t.op t.x t.y t.kids.length args' := by
  unfold evG evN whl
  generalize t.kids.length = n
  generalize t.op = op at h ⊢
  by_cases h0 : op = 0
  · by_cases hn : n = 0 <;> simp [h0, hn]
  · rw [h h0]
    by_cases h1 : op = 1
    · by_cases hn : n = 1 <;> simp [h1, hn]
    · by_cases h2 : op = 2
      · by_cases hn : n = 2 <;> simp [h2, hn]
      · by_cases h3 : op = 3
        · by_cases hn : n = 2 <;> simp [h3, hn]
        · by_cases h4 : op = 4
          · by_cases hn : n = 2 <;> simp [h4, hn]
          · simp [h0, h1, h2, h3, h4]

theorem fo_ev (cls : List Int) (t : Lf) : fo (evG cls) t = evF cls t.er := by
  rw [fo_eq, evG_N cls t _ (t.kids.map fun k => evF cls k.er)]
  · cases t with
    | mk b o op x y kv kids =>
      simp only [Lf.er, evF, Lf.op, Lf.x, Lf.y, Lf.kids, List.length_map, List.map_map]
      rfl
  · intro h0
    have e : t.ks = t.kids := by simp [Lf.ks, h0]
    refine (List.map_congr_left fun k hk => ?_).trans (congrArg (List.map fun k => evF cls k.er) e)
    exact fo_ev cls k
termination_by SizeOf.sizeOf t
decreasing_by exact ks_lt hk

end Go.Proofs.YtlehlgipbhfioaaGreat

namespace Go.Proofs.YtlehlgipbhfioaaGreat
open Go.RowKit Go.Shelf

/-- All its numbers are numbers of the program. -/
inductive RF : Fo → Prop where
  | mk {op x y : Int} {kids : List Fo} (hx : R64 x) (hy : R64 y) (h : ∀ k ∈ kids, RF k) : RF (.mk op x y kids)
theorem RF.kid {t k : Lf} (h : RF t.er) (hk : k ∈ t.kids) : RF k.er := by
  cases t
  rw [Lf.er] at h
  cases h with
  | mk hx hy h => exact h _ (List.mem_map.2 ⟨k, hk, rfl⟩)
theorem RF.here {t : Lf} (h : RF t.er) : R64 t.x ∧ R64 t.y := by
  cases t
  rw [Lf.er] at h
  cases h with
  | mk hx hy h => exact ⟨hx, hy⟩
theorem wk_R (t : Lf) (d : Nat) (ht : RF t.er) : ∀ y ∈ wk t d, RF y.1.er := by
  intro y hy
  cases h : t.ks[d]? with
  | none =>
    rw [wk_end h] at hy
    obtain rfl := List.mem_singleton.1 hy
    exact ht
  | some k =>
    have hlt := (List.getElem?_eq_some_iff.1 h).1
    rw [wk_step h] at hy
    rcases List.mem_cons.1 hy with rfl | hy
    · exact ht
    · rcases List.mem_append.1 hy with hy | hy
      · exact wk_R k 0 (ht.kid (ks_sub (List.mem_of_getElem? h))) y hy
      · exact wk_R t (d + 1) ht y hy
termination_by (SizeOf.sizeOf t, t.ks.length - d)
decreasing_by
  · exact Prod.Lex.left _ _ (ks_lt (List.mem_of_getElem? h))
  · exact Prod.Lex.right _ (by omega)
theorem es_R {t : Lf} (ht : RF t.er) : ∀ z ∈ es t, R64 z.x ∧ R64 z.y := by
  intro z hz
  unfold es at hz
  obtain ⟨⟨y, d⟩, h1, h2⟩ := List.mem_filterMap.1 hz
  unfold isEnd at h2
  split at h2
  · cases h2
    exact (wk_R t 0 ht _ h1).here
  · cases h2
theorem eqs_R {t : Lf} (ht : RF t.er) : ∀ p ∈ eqs t, P64 p := by
  intro p hp
  unfold eqs at hp
  obtain ⟨z, h1, h2⟩ := List.mem_filterMap.1 hp
  unfold isEq at h2
  split at h2
  · cases h2
    exact es_R ht z h1
  · cases h2

/-- The value v is the Form f, wherever its Kids lie. -/
def FIs (W : World) (v : Value) (f : Fo) : Prop := FValA (fun _ => True) W v f
theorem FVal.is {B : Nat} {W : World} {v : Value} {f : Fo} (h : FVal B W v f) : FIs W v f := FValA.mono (fun _ _ => trivial) h
theorem FIs.keep {W W' : World} {v : Value} {f : Fo} (h : FIs W v f) (hB : Below W.heap.size W W') : FIs W' v f := FValA.keep (fun k _ _ _ hk => (hB.block k (Array.getElem?_eq_some_iff.1 hk).1).trans hk) h

theorem evalF_in (w : World) (v : Value) (f : Fo) (hv : FIs w v f) (ca : Option Addr) (cn cc : Nat) (cls : List Int) (hl : cls.length = cn) (hc : cls = [] ∨ ∃ g off, ca = some ⟨g, off, none⟩ ∧ ∀ (j : Nat) (c : Int), cls[j]? = some c → w.cell? ⟨g, off + j, none⟩ = some (.int .i64 c)) (hs : cn ≤ 9223372036854775807) (hN : szF f * 16 ≤ 140737488355328) (hR : RF f) :
    Calls Tryz.prog 91 #[v, .slice ca cn cc] w fun e w' => e = .returned (.bool (evF cls f)) ∧ Below w.heap.size w w' := by
  obtain ⟨op, x, y, kv, kids, rfl, hk, hks, rfl⟩ := hv
  have he : (Lf.mk w.heap.size 0 op x y kv kids).er = .mk op x y (kids.map Lf.er) := by rw [Lf.er]
  have h := eval_in w op x y kv kids hk hks ca cn cc cls hl hc hs (by rw [len_wk, he]; exact hN) (es_R (by rw [he]; exact hR))
  rw [fo_ev, he] at h
  exact h

theorem atomsF_in (w : World) (v : Value) (f : Fo) (hv : FIs w v f) (hN : szF f * 16 ≤ 140737488355328) (hR : RF f) :
    Calls Tryz.prog 78 #[v] w fun e w' => ∃ u, e = .returned u ∧ w'.ownsRow w.heap.size 34 2 u (ats (eqF f)).length (pairC (ats (eqF f))) ∧ Below w.heap.size w w' := by
  obtain ⟨op, x, y, kv, kids, rfl, hk, hks, rfl⟩ := hv
  have he : (Lf.mk w.heap.size 0 op x y kv kids).er = .mk op x y (kids.map Lf.er) := by rw [Lf.er]
  have h := atoms_in w op x y kv kids hk hks (by rw [len_wk, he]; exact hN) (eqs_R (by rw [he]; exact hR))
  rw [eqs_er, he] at h
  exact h

end Go.Proofs.YtlehlgipbhfioaaGreat

namespace Go.Proofs.YtlehlgipbhfioaaGreat.Cn

/-- A literal's value. -/
def lit (σ : Nat → Bool) (x : Int) : Bool := if x < 0 then !σ x.natAbs else σ x.natAbs
theorem lit_neg (σ : Nat → Bool) {x : Int} (h : x ≠ 0) : lit σ (-x) = !lit σ x := by
  unfold lit
  by_cases h1 : x < 0
  · rw [if_pos h1, if_neg (by omega)]
    simp
  · rw [if_neg h1, if_pos (by omega)]
    simp
def Tru (σ : Nat → Bool) (c : List Int) : Prop := ∃ x ∈ c, lit σ x = true
def Sat (σ : Nat → Bool) (cs : List (List Int)) : Prop := ∀ c ∈ cs, Tru σ c

/-- A formula's truth, by the values of its equalities. -/
def trF (τ : Int × Int → Bool) : Fo → Bool
  | .mk 0 x y _ => τ (x, y)
  | .mk _ _ _ [k] => !trF τ k
  | .mk o _ _ [a, b] => if o = 2 then trF τ a && trF τ b else if o = 3 then trF τ a || trF τ b else !trF τ a || trF τ b
  | _ => false

theorem trF_congr {τ τ' : Int × Int → Bool} {f : Fo} (hw : WfF f) : (∀ p ∈ eqF f, τ p = τ' p) → trF τ f = trF τ' f := by
  induction hw with
  | eq x y => intro h; simp only [trF]; exact h _ (by simp [eqF])
  | neg f hf ih =>
    intro h
    have := ih (fun p hp => h p (by simp [eqF]; exact hp))
    simp [trF, this]
  | two o f g ho hf hg ih1 ih2 =>
    intro h
    have h0 : ¬ o = 0 := by rcases ho with rfl | rfl | rfl <;> decide
    have e1 := ih1 (fun p hp => h p (by simp [eqF, h0]; exact Or.inl hp))
    have e2 := ih2 (fun p hp => h p (by simp [eqF, h0]; exact Or.inr hp))
    rcases ho with rfl | rfl | rfl <;> simp [trF, e1, e2]

/-- A variable for both. -/
def both (p q : Int) (st : Nat × List (List Int)) : Int × (Nat × List (List Int)) :=
  (((st.1 + 1 : Nat) : Int), (st.1 + 1, st.2 ++ [[-((st.1 + 1 : Nat) : Int), p], [-((st.1 + 1 : Nat) : Int), q], [((st.1 + 1 : Nat) : Int), -p, -q]]))
/-- The literal of a formula. -/
def tse (an : Int × Int → Nat) : Fo → Nat × List (List Int) → Int × (Nat × List (List Int))
  | .mk 0 x y _, st => ((an (x, y) : Int), st)
  | .mk _ _ _ [k], st => (-(tse an k st).1, (tse an k st).2)
  | .mk o _ _ [a, b], st =>
    if o = 2 then both (tse an a st).1 (tse an b (tse an a st).2).1 (tse an b (tse an a st).2).2
    else if o = 3 then (-(both (-(tse an a st).1) (-(tse an b (tse an a st).2).1) (tse an b (tse an a st).2).2).1, (both (-(tse an a st).1) (-(tse an b (tse an a st).2).1) (tse an b (tse an a st).2).2).2)
    else (-(both (tse an a st).1 (-(tse an b (tse an a st).2).1) (tse an b (tse an a st).2).2).1, (both (tse an a st).1 (-(tse an b (tse an a st).2).1) (tse an b (tse an a st).2).2).2)
  | _, st => (0, st)

/-- A literal of one of the first n variables. -/
def LitLe (n : Nat) (x : Int) : Prop := x ≠ 0 ∧ x.natAbs ≤ n
def Agree (n : Nat) (σ σ' : Nat → Bool) : Prop := ∀ v, v ≤ n → σ' v = σ v
theorem Agree.lit {n : Nat} {σ σ' : Nat → Bool} (h : Agree n σ σ') {x : Int} (hx : x.natAbs ≤ n) : lit σ' x = lit σ x := by
  unfold Cn.lit
  rw [h _ hx]

/-- What a literal and the clauses behind it keep to: news are the clauses that came. -/
structure Told (an : Int × Int → Nat) (f : Fo) (st : Nat × List (List Int)) (r : Int) (st' : Nat × List (List Int)) (news : List (List Int)) : Prop where
  cls : st'.2 = st.2 ++ news
  up : st.1 ≤ st'.1
  le : LitLe st'.1 r
  all : ∀ c ∈ news, ∀ x ∈ c, LitLe st'.1 x
  sound : ∀ σ, Sat σ news → lit σ r = trF (fun p => σ (an p)) f
  ex : ∀ σ, ∃ σ', Agree st.1 σ σ' ∧ Sat σ' news

theorem Sat.app {σ : Nat → Bool} {a b : List (List Int)} : Sat σ (a ++ b) ↔ Sat σ a ∧ Sat σ b := by
  unfold Sat
  constructor
  · intro h
    exact ⟨fun c hc => h c (by simp [hc]), fun c hc => h c (by simp [hc])⟩
  · rintro ⟨h1, h2⟩ c hc
    rcases List.mem_append.1 hc with hc | hc
    · exact h1 c hc
    · exact h2 c hc
theorem Sat.agree {n : Nat} {σ σ' : Nat → Bool} (h : Agree n σ σ') {cs : List (List Int)} (hl : ∀ c ∈ cs, ∀ x ∈ c, LitLe n x) (hs : Sat σ cs) : Sat σ' cs := by
  intro c hc
  obtain ⟨x, hx, hx2⟩ := hs c hc
  exact ⟨x, hx, by rw [h.lit (hl c hc x hx).2]; exact hx2⟩

theorem both_sat (n : Nat) (p q : Int) (hp : LitLe n p) (hq : LitLe n q) (σ : Nat → Bool) : Sat σ [[-((n + 1 : Nat) : Int), p], [-((n + 1 : Nat) : Int), q], [((n + 1 : Nat) : Int), -p, -q]] ↔ σ (n + 1) = (lit σ p && lit σ q) := by
  have e1 : lit σ ((n + 1 : Nat) : Int) = σ (n + 1) := by unfold lit; rw [if_neg (by omega)]; congr 1
  have e2 : lit σ (-((n + 1 : Nat) : Int)) = !σ (n + 1) := by rw [lit_neg σ (by omega), e1]
  have e3 := lit_neg σ hp.1
  have e4 := lit_neg σ hq.1
  simp only [Sat, Tru, List.mem_cons, List.not_mem_nil, or_false, forall_eq_or_imp, forall_eq, exists_eq_or_imp, exists_eq_left, e1, e2, e3, e4]
  cases σ (n + 1) <;> cases lit σ p <;> cases lit σ q <;> simp

/-- Two that are told, and both. -/
theorem Told.both {an : Int × Int → Nat} {f g : Fo} {st s1 s2 : Nat × List (List Int)} {r1 r2 : Int} {n1 n2 : List (List Int)} (h1 : Told an f st r1 s1 n1) (h2 : Told an g s1 r2 s2 n2) (e1 e2 : Bool) :
    let p := if e1 then -r1 else r1
    let q := if e2 then -r2 else r2
    ∃ news, (both p q s2).2.2 = st.2 ++ news ∧ st.1 ≤ (both p q s2).2.1 ∧ LitLe (both p q s2).2.1 (both p q s2).1 ∧ (∀ c ∈ news, ∀ x ∈ c, LitLe (both p q s2).2.1 x) ∧
      (∀ σ, Sat σ news → lit σ (both p q s2).1 = ((trF (fun p => σ (an p)) f != e1) && (trF (fun p => σ (an p)) g != e2))) ∧ (∀ σ, ∃ σ', Agree st.1 σ σ' ∧ Sat σ' news) := by
  intro p q
  have hp : LitLe s2.1 p := by
    have a := h1.le
    have b := h2.up
    show LitLe s2.1 (if e1 then -r1 else r1)
    cases e1 <;> simp [LitLe] <;> exact ⟨a.1, by have := a.2; omega⟩
  have hq : LitLe s2.1 q := by
    have a := h2.le
    show LitLe s2.1 (if e2 then -r2 else r2)
    cases e2 <;> simp [LitLe] <;> exact ⟨a.1, a.2⟩
  have lp : ∀ σ, lit σ p = (lit σ r1 != e1) := fun σ => by
    show lit σ (if e1 then -r1 else r1) = _
    cases e1
    · simp
    · simp [lit_neg σ h1.le.1]
  have lq : ∀ σ, lit σ q = (lit σ r2 != e2) := fun σ => by
    show lit σ (if e2 then -r2 else r2) = _
    cases e2
    · simp
    · simp [lit_neg σ h2.le.1]
  have hb : ∀ σ, lit σ (Cn.both p q s2).1 = σ (s2.1 + 1) := fun σ => by
    show lit σ ((s2.1 + 1 : Nat) : Int) = _
    unfold lit
    rw [if_neg (by omega)]
    congr 1
  refine ⟨n1 ++ n2 ++ [[-((s2.1 + 1 : Nat) : Int), p], [-((s2.1 + 1 : Nat) : Int), q], [((s2.1 + 1 : Nat) : Int), -p, -q]], ?_, ?_, ?_, ?_, ?_, ?_⟩
  · show s2.2 ++ _ = _
    rw [h2.cls, h1.cls]
    simp
  · show st.1 ≤ s2.1 + 1
    have := h1.up
    have := h2.up
    omega
  · show LitLe (s2.1 + 1) ((s2.1 + 1 : Nat) : Int)
    exact ⟨by omega, by omega⟩
  · show ∀ c ∈ _, ∀ x ∈ c, LitLe (s2.1 + 1) x
    have hu := h2.up
    intro c hc x hx
    rcases List.mem_append.1 hc with hc | hc
    · rcases List.mem_append.1 hc with hc | hc
      · have := h1.all c hc x hx
        exact ⟨this.1, by have := this.2; omega⟩
      · have := h2.all c hc x hx
        exact ⟨this.1, by have := this.2; omega⟩
    · have a := hp.1
      have b := hp.2
      have a' := hq.1
      have b' := hq.2
      simp at hc
      rcases hc with rfl | rfl | rfl <;> simp at hx
      · rcases hx with rfl | rfl
        · exact ⟨by omega, by omega⟩
        · exact ⟨a, by omega⟩
      · rcases hx with rfl | rfl
        · exact ⟨by omega, by omega⟩
        · exact ⟨a', by omega⟩
      · rcases hx with rfl | rfl | rfl
        · exact ⟨by omega, by omega⟩
        · exact ⟨by omega, by omega⟩
        · exact ⟨by omega, by omega⟩
  · intro σ hs
    obtain ⟨hs1, hs3⟩ := Sat.app.1 hs
    obtain ⟨hs1, hs2⟩ := Sat.app.1 hs1
    rw [hb, (both_sat s2.1 p q hp hq σ).1 hs3, lp, lq, h1.sound σ hs1, h2.sound σ hs2]
  · intro σ
    obtain ⟨σ1, a1, b1⟩ := h1.ex σ
    obtain ⟨σ2, a2, b2⟩ := h2.ex σ1
    refine ⟨fun v => if v = s2.1 + 1 then (lit σ2 p && lit σ2 q) else σ2 v, ?_, ?_⟩
    · intro v hv
      have := h1.up
      have := h2.up
      show (if v = s2.1 + 1 then (lit σ2 p && lit σ2 q) else σ2 v) = σ v
      rw [if_neg (by omega), a2 v (by omega), a1 v hv]
    · have ag : Agree s2.1 σ2 (fun v => if v = s2.1 + 1 then (lit σ2 p && lit σ2 q) else σ2 v) := fun v hv => if_neg (by omega)
      refine Sat.app.2 ⟨Sat.app.2 ⟨?_, Sat.agree ag h2.all b2⟩, ?_⟩
      · refine Sat.agree (n := s1.1) (fun v hv => ?_) h1.all b1
        have := h2.up
        show (if v = s2.1 + 1 then (lit σ2 p && lit σ2 q) else σ2 v) = σ1 v
        rw [if_neg (by omega), a2 v hv]
      · rw [both_sat s2.1 p q hp hq, ag.lit hp.2, ag.lit hq.2]
        simp

/-- Of every formula. -/
theorem tse_told (an : Int × Int → Nat) {f : Fo} (hw : WfF f) : ∀ st : Nat × List (List Int), (∀ p ∈ eqF f, 1 ≤ an p ∧ an p ≤ st.1) → ∃ news, Told an f st (tse an f st).1 (tse an f st).2 news := by
  induction hw with
  | eq x y =>
    intro st h
    obtain ⟨h1, h2⟩ := h (x, y) (by simp [eqF])
    refine ⟨[], ⟨by simp [tse], by simp [tse], ⟨by simp [tse]; omega, by simp [tse]; omega⟩, by simp, fun σ _ => ?_, fun σ => ⟨σ, fun _ _ => rfl, fun c hc => by cases hc⟩⟩⟩
    simp only [tse, trF, lit]
    rw [if_neg (by omega)]
    congr 1
  | neg f hf ih =>
    intro st h
    obtain ⟨news, T⟩ := ih st (fun p hp => h p (by simp [eqF]; exact hp))
    have e : tse an (.mk 1 0 0 [f]) st = (-(tse an f st).1, (tse an f st).2) := by rw [tse]; simp
    rw [e]
    refine ⟨news, ⟨T.cls, T.up, ⟨by have := T.le.1; simp; omega, by have := T.le.2; simp; omega⟩, T.all, fun σ hs => ?_, T.ex⟩⟩
    have e2 : trF (fun p => σ (an p)) (.mk 1 0 0 [f]) = !trF (fun p => σ (an p)) f := by rw [trF]; simp
    rw [e2, lit_neg σ T.le.1, T.sound σ hs]
  | two o f g ho hf hg ih1 ih2 =>
    intro st h
    have h0 : ¬ o = 0 := by rcases ho with rfl | rfl | rfl <;> decide
    have hf' : ∀ p ∈ eqF f, 1 ≤ an p ∧ an p ≤ st.1 := fun p hp => h p (by simp [eqF, h0]; exact Or.inl hp)
    obtain ⟨n1, T1⟩ := ih1 st hf'
    obtain ⟨n2, T2⟩ := ih2 (tse an f st).2 (fun p hp => by
      have := h p (by simp [eqF, h0]; exact Or.inr hp)
      have := T1.up
      omega)
    rcases ho with rfl | rfl | rfl
    · obtain ⟨news, b1, b2, b3, b4, b5, b6⟩ := Told.both T1 T2 false false
      simp only [Bool.false_eq_true, if_false] at b1 b2 b3 b4 b5
      have e : tse an (.mk 2 0 0 [f, g]) st = both (tse an f st).1 (tse an g (tse an f st).2).1 (tse an g (tse an f st).2).2 := by rw [tse] <;> simp
      rw [e]
      refine ⟨news, ⟨b1, b2, b3, b4, fun σ hs => ?_, b6⟩⟩
      rw [b5 σ hs, trF]
      · simp
      · intro x; cases x
    · obtain ⟨news, b1, b2, b3, b4, b5, b6⟩ := Told.both T1 T2 true true
      simp only [if_true] at b1 b2 b3 b4 b5
      have e : tse an (.mk 3 0 0 [f, g]) st = (-(both (-(tse an f st).1) (-(tse an g (tse an f st).2).1) (tse an g (tse an f st).2).2).1, (both (-(tse an f st).1) (-(tse an g (tse an f st).2).1) (tse an g (tse an f st).2).2).2) := by rw [tse] <;> simp
      rw [e]
      refine ⟨news, ⟨b1, b2, ⟨by have := b3.1; simp; omega, by have := b3.2; simp; omega⟩, b4, fun σ hs => ?_, b6⟩⟩
      rw [lit_neg σ b3.1, b5 σ hs, trF]
      · simp
      · intro x; cases x
    · obtain ⟨news, b1, b2, b3, b4, b5, b6⟩ := Told.both T1 T2 false true
      simp only [Bool.false_eq_true, if_false, if_true] at b1 b2 b3 b4 b5
      have e : tse an (.mk 4 0 0 [f, g]) st = (-(both (tse an f st).1 (-(tse an g (tse an f st).2).1) (tse an g (tse an f st).2).2).1, (both (tse an f st).1 (-(tse an g (tse an f st).2).1) (tse an g (tse an f st).2).2).2) := by rw [tse] <;> simp
      rw [e]
      refine ⟨news, ⟨b1, b2, ⟨by have := b3.1; simp; omega, by have := b3.2; simp; omega⟩, b4, fun σ hs => ?_, b6⟩⟩
      rw [lit_neg σ b3.1, b5 σ hs, trF]
      · simp
      · intro x; cases x

/-- The theorem of clauses: they can be true, with these values of the equalities, just if the formula is. -/
theorem tse_sat (an : Int × Int → Nat) {f : Fo} (hw : WfF f) (n : Nat) (h : ∀ p ∈ eqF f, 1 ≤ an p ∧ an p ≤ n) (τ : Nat → Bool) :
    (∃ σ, Agree n τ σ ∧ Sat σ ((tse an f (n, [])).2.2 ++ [[(tse an f (n, [])).1]])) ↔ trF (fun p => τ (an p)) f = true := by
  obtain ⟨news, T⟩ := tse_told an hw (n, []) h
  have hc : (tse an f (n, [])).2.2 = news := by rw [T.cls]; rfl
  have same : ∀ σ, Agree n τ σ → trF (fun p => σ (an p)) f = trF (fun p => τ (an p)) f := fun σ hA => trF_congr hw (fun p hp => hA _ (h p hp).2)
  rw [hc]
  constructor
  · rintro ⟨σ, hA, hs⟩
    obtain ⟨h1, h2⟩ := Sat.app.1 hs
    obtain ⟨x, hx, hx2⟩ := h2 _ (List.mem_singleton.2 rfl)
    obtain rfl := List.mem_singleton.1 hx
    rw [← same σ hA, ← T.sound σ h1]
    exact hx2
  · intro ht
    obtain ⟨σ, hA, hs⟩ := T.ex τ
    refine ⟨σ, hA, Sat.app.2 ⟨hs, fun c hc => ?_⟩⟩
    obtain rfl := List.mem_singleton.1 hc
    exact ⟨_, List.mem_singleton.2 rfl, by rw [T.sound σ hs, same σ hA]; exact ht⟩

end Go.Proofs.YtlehlgipbhfioaaGreat.Cn

namespace Go.Proofs.YtlehlgipbhfioaaGreat
open Go.RowKit Go.Maps

/-- One Form of so many Kids, by what these come to; e: which terms are the same, of n. -/
def evM (n : Nat) (e : Nat → Nat → Bool) (op x y : Int) (k : Nat) (args : List Bool) : Bool :=
  if op = 0 then k == 0 && (inC n x && inC n y && e x.toNat y.toNat)
  else if op = 1 then k == 1 && !(args[0]?.getD false)
  else if op = 2 then k == 2 && (args[0]?.getD false && args[1]?.getD false)
  else if op = 3 then k == 2 && (args[0]?.getD false || args[1]?.getD false)
  else if op = 4 then k == 2 && (!(args[0]?.getD false) || args[1]?.getD false)
  else false
def evE (n : Nat) (e : Nat → Nat → Bool) : Fo → Bool
  | .mk op x y kids => evM n e op x y kids.length (kids.map (evE n e))
theorem evF_E {cls : List Int} {n : Nat} (hn : cls.length = n) {e : Nat → Nat → Bool} (h : ∀ i j, i < n → j < n → (cls[i]?.getD 0 == cls[j]?.getD 0) = e i j) : ∀ f : Fo, evF cls f = evE n e f
  | .mk op x y kids => by
    have hk : kids.map (evF cls) = kids.map (evE n e) := List.map_congr_left fun k _ => evF_E hn h k
    rw [evF, evE, hk]
    unfold evN evM
    have hs : sameC cls x y = (inC n x && inC n y && e x.toNat y.toNat) := by
      unfold sameC
      rw [hn]
      cases hx : inC n x
      · rfl
      · cases hy : inC n y
        · rfl
        · simp only [inC, decide_eq_true_eq] at hx hy
          rw [h _ _ (by omega) (by omega)]
    rw [hs]
/-- A formula of a problem: its atoms, its clauses, its truth. -/
structure Fm where
  am : List Pr
  cs : List (List Int)
  ev : (Nat → Nat → Bool) → Bool
def atsN (f : Fo) : List Pr := (ats (eqF f)).map fun p => ordP p.1.toNat p.2.toNat
def tseN (f : Fo) : Int × Sc := Cn.tse (numP (ats (eqF f))) f ((ats (eqF f)).length, [])
/-- Behind the atoms' variables, the others of a formula. -/
def nmsN (P : Pb) (f : Fo) : List Nat := 0 :: ((Pb.names (atsN f) P).1 ++ (List.range ((tseN f).2.1 - (atsN f).length)).map fun i => (Pb.names (atsN f) P).2.count + 1 + i)
def Pb.addF (P : Pb) (f : Fo) : Pb := { (Pb.names (atsN f) P).2 with count := (Pb.names (atsN f) P).2.count + ((tseN f).2.1 - (atsN f).length) }
def fmOf (n : Nat) (P : Pb) (f : Fo) : Fm := ⟨atsN f, ((tseN f).2.2 ++ [[(tseN f).1]]).map fun c => c.map (renL (nmsN P f)), fun e => evE n e f⟩
def Pb.adds (n : Nat) : List Fo → Pb → List Fm → Pb × List Fm
  | [], P, fs => (P, fs)
  | f :: r, P, fs => Pb.adds n r (P.addF f) (fs ++ [fmOf n P f])
theorem adds_snoc (n : Nat) : ∀ (r : List Fo) (f : Fo) (P : Pb) (fs : List Fm), Pb.adds n (r ++ [f]) P fs = ((Pb.adds n r P fs).1.addF f, (Pb.adds n r P fs).2 ++ [fmOf n (Pb.adds n r P fs).1 f])
  | [], _, _, _ => rfl
  | g :: r, f, P, fs => by
    rw [List.cons_append, Pb.adds, adds_snoc n r f]
    rfl
def pb0 : Pb := ⟨0, [], [], []⟩
def Fm.get (fs : List Fm) (n : Nat) : Fm := fs[n]?.getD ⟨[], [], fun _ => true⟩
def clsN (P : Pb) (fs : List Fm) (ns : List Nat) : List (List Int) := P.lemmas ++ ns.flatMap fun n => (Fm.get fs n).cs
def valB (vs : List Bool) (i : Nat) : Bool := vs[i]?.getD false
/-- Whether two terms are the same by what was told. -/
def cgN (l : List Tm) (told : List Pr) (a b : Nat) : Bool := match proofN l told with
  | none => false
  | some F => decide (F.g.rt a = F.g.rt b)
def tolN (fs : List Fm) (P : Pb) (ns : List Nat) (vs : List Bool) : List Pr := toldN (valB vs) P.vars (fun n => (Fm.get fs n).am) [] ns
def wroN (l : List Tm) (fs : List Fm) (P : Pb) (ns : List Nat) (vs : List Bool) : List Pr := wrongN (valB vs) P.vars (cgN l (tolN fs P ns vs)) (fun n => (Fm.get fs n).am) (fun n => (Fm.get fs n).ev (cgN l (tolN fs P ns vs))) [] ns
/-- A pair is learned. -/
def LrnK (l : List Tm) (told : List Pr) (F : Pf) (P : Pb) (a : Pr) (Q : Pb) : Prop :=
  ∃ S, stepsN F.L told (argN l) a = some S ∧ (P.count + (missN P S []).length ≤ 2000 → Q = S.foldl Pb.step P) ∧ (¬ P.count + (missN P S []).length ≤ 2000 → ∃ ns, Fits l (told.map prI) (a.1 : Int) (a.2 : Int) ns ∧ Q = P.whole a (ns.map fun n => told[n]?.getD (0, 0)))
def LrnR (l : List Tm) (told : List Pr) (F : Pf) : List Pr → Pb → Pb → Prop
  | [], P, Q => Q = P
  | a :: r, P, Q => ∃ P1, LrnK l told F P a P1 ∧ LrnR l told F r P1 Q
/-- What Solve asks. -/
def SlvOk (P : Pb) (fs : List Fm) (ns : List Nat) : Prop := P.count ≤ 2000 ∧ (clsN P fs ns).length ≤ 100000000 ∧ ∀ c ∈ clsN P fs ns, ClOk P.count c
/-- The search for a model ends so, within the fuel. -/
def MdlT (l : List Tm) (fs : List Fm) (ns : List Nat) (Post : Option (List Pr) → Pb → Prop) : Nat → Pb → Prop
  | 0, _ => False
  | f + 1, P => SlvOk P fs ns ∧ match solveN P.count (clsN P fs ns) with
    | none => False
    | some none => Post none P
    | some (some vs) => (wroN l fs P ns vs = [] → Post (some (tolN fs P ns vs)) P) ∧ (wroN l fs P ns vs ≠ [] → ((wroN l fs P ns vs).length ≤ 1 ∧ 1 ≤ f) ∧ ∀ F Q, proofN l (tolN fs P ns vs) = some F → LrnR l (tolN fs P ns vs) F (wroN l fs P ns vs) P Q → MdlT l fs ns Post f Q)
end Go.Proofs.YtlehlgipbhfioaaGreat

namespace Go.Proofs.YtlehlgipbhfioaaGreat
open Go.RowKit Go.Maps

theorem add_add2 (s : Sv) (ls : List Nat) : (s.more ls).add2 s.cl.length = s.add ls := by
  have e : (s.more ls).lits s.cl.length = ls := by rw [lits_more, if_pos rfl]
  unfold Sv.add2
  rw [e]
  match ls with
  | [] => rfl
  | [_] => rfl
  | _ :: _ :: _ => rfl

/-- The search when i clauses were taken in. -/
def takenN (n : Nat) (css : List (List Int)) (i : Nat) : Sv := (css.take i).foldl (fun s c => s.add (litsN c)) (Sv.new n)
theorem takenN_succ {n : Nat} {css : List (List Int)} {i : Nat} {c : List Int} (h : css[i]? = some c) : takenN n css (i + 1) = (takenN n css i).add (litsN c) := by
  unfold takenN
  rw [List.take_add_one, h]
  simp [List.foldl_append]
theorem takenN_ok {n : Nat} {css : List (List Int)} (hb : ∀ cs ∈ css, ∀ x ∈ cs, x.natAbs ≤ n) : ∀ i, i ≤ css.length → Taken (takenN n css i) n ((css.take i).map litsN)
  | 0, _ => by simpa [takenN] using Taken.new n
  | i + 1, hi => by
    have hic : i < css.length := by omega
    have h := takenN_ok hb i (by omega)
    have e := List.getElem?_eq_getElem hic
    rw [takenN_succ e, List.take_add_one, e, Option.toList_some, List.map_append]
    exact h.add (litsN_nodup css[i]) (litsN_lt (hb _ (List.getElem_mem hic)))

/-- What Solve's loop keeps. -/
def Slv (w W : World) (n : Nat) (css : List (List Int)) (sb i : Nat) : Prop :=
  ∃ A : Ad, A.blk .search = some sb ∧ Mem W A (takenN n css i) ∧ (∀ k, A.Foot k → w.heap.size ≤ k) ∧ Below w.heap.size w W

theorem pop_n (s : Sv) : s.pop.2.n = s.n := by unfold Sv.pop; split <;> rfl
theorem tryN_n : ∀ (f : Nat) (s : Sv) (b : Bool) (s' : Sv), Sv.tryN f s = some (b, s') → s'.n = s.n
  | 0, _, _, _, h => by cases h
  | f + 1, s, b, s', h => by
    have hp := pop_n s
    rw [tryN_R] at h
    generalize s.pop.1 = o at *
    generalize s.pop.2 = s1 at *
    cases o with
    | none =>
      simp only [tryR, Option.some.injEq, Prod.mk.injEq] at h
      rw [← h.2]; exact hp
    | some v =>
      simp only [tryR] at h
      split at h
      · simp only [Option.some.injEq, Prod.mk.injEq] at h
        rw [← h.2]; exact hp
      · exact (tryN_n f s1 b s' h).trans hp
theorem run_n : ∀ (f : Nat) (s : Sv) (b : Bool) (s' : Sv), Sv.run f s = some (b, s') → s'.n = s.n
  | 0, _, _, _, h => by cases h
  | f + 1, s, b, s', h => by
    rw [Sv.run] at h
    split at h
    · cases h; rfl
    · cases hfo : Sv.follow (2 * s.n + 3) s with
      | none => rw [hfo] at h; cases h
      | some os =>
        obtain ⟨o, s1⟩ := os
        have g1 := (follow_sim _ _ _ _ hfo).1
        rw [hfo] at h
        cases o with
        | some c =>
          simp only at h
          split at h
          · exact (run_n f _ b s' h).trans g1
          · cases h
        | none =>
          simp only at h
          cases htr : Sv.tryN (s1.hp.length + 1) s1 with
          | none => rw [htr] at h; cases h
          | some bs =>
            obtain ⟨tb, s2⟩ := bs
            have g2 := tryN_n _ _ _ _ htr
            rw [htr] at h
            cases tb with
            | false => simp only [Option.some.injEq, Prod.mk.injEq] at h; rw [← h.2]; exact g2.trans g1
            | true => exact (run_n f s2 b s' h).trans (g2.trans g1)

/-- What Solve answers. -/
def SolvePost (w : World) (n : Nat) (r : Option (List Bool)) (e : Ending) (w' : World) : Prop :=
  Below w.heap.size w w' ∧ (r = none → e = .returned (.tuple #[.slice none 0 0, .bool false, .int .i64 0])) ∧ ∀ vs, r = some vs → ∃ g, e = .returned (.tuple #[.slice (some ⟨g, 0, none⟩) n n, .bool true, .int .i64 0]) ∧ w.heap.size ≤ g ∧ w'.heap[g]? = some (.cells (vs.map Value.bool).toArray 4)
theorem solve_below {w W W' : World} {A A' : Ad} {s' : Sv} (hB : Below w.heap.size w W) (hF : ∀ k, A.Foot k → w.heap.size ≤ k) (S : Step W W' A A' s') : Below w.heap.size w W' := by
  have k6 := S.kept
  refine ⟨k6.os.trans hB.os, k6.tape.trans hB.tape, k6.output.trans hB.output, Nat.le_trans hB.size k6.size, fun k hk => ?_⟩
  exact (k6.block k (Nat.lt_of_lt_of_le hk hB.size) (fun hf => by have := hF k hf; omega)).trans (hB.block k hk)

set_option maxRecDepth 100000 in
set_option maxHeartbeats 1000000 in
theorem Solve_in (w : World) (n : Nat) (hn : n ≤ 2000) (ca : Option Addr) (css : List (List Int)) (cc : Nat) (h : CssAt w ca css) (hcl : css.length ≤ 100000000) (hb : ∀ cs ∈ css, (cs.length ≤ 12 ∨ (cs.length ≤ 1000 ∧ ∃ m r, cs.map litN = m :: r ∧ r.Pairwise (· < ·) ∧ ∀ x ∈ r, x < m)) ∧ ∀ x ∈ cs, x ≠ 0 ∧ x.natAbs ≤ n) (r : Option (List Bool)) (hr : solveN n css = some r) :
    Calls Tryz.prog 44 #[.int .i64 (n : Int), .slice ca css.length cc] w (SolvePost w n r) := by
  have CK := sCheck_in w n hn ca css cc h hcl (fun cs hcs => ⟨by rcases (hb cs hcs).1 with h | h; (· omega); (· have := h.1; omega), (hb cs hcs).2⟩)
  have NW := fun m => newSearch_in (w.drewN m) n hn
  have HC : Hid _ := h
  have HB : Hid _ := hb
  have HR : Hid _ := hr
  have HNW : Hid _ := NW
  clear h hb hr NW
  generalize hln : css.length = N at *
  have HLN : Hid _ := hln
  clear hln
  go_enter Tryz.func44, Tryz.ntmps44
  go_wp2_with (first | (go_at_call 82; refine CK.mono ?_; rintro e w2 ⟨rfl, m, rfl⟩) | (go_at_call 83; refine (HNW.out _).mono ?_; rintro e w3 ⟨sb, A, rfl, hsb, M3, F3, B3⟩; refine Aside.out ?_))
  delta Aside
  have V0 : Hid (Slv w w3 n css sb 0) := ⟨A, hsb, M3, F3, ⟨B3.os, B3.tape, B3.output, B3.size, B3.block⟩⟩
  clear M3 F3 B3 hsb CK
  apply_assumption
  go_wp2_with fail
  go_loopw [23] (fun t23 W => ∃ i : Nat, i ≤ N ∧ t23 = .int .i64 (i : Int) ∧ Hid (Slv w W n css sb i)) (fun t23 _ => N - (intOf t23).toNat)
  case atStart => exact ⟨0, Nat.zero_le _, rfl, V0⟩
  case round =>
    obtain ⟨i, hi, rfl, HV⟩ := hrel
    by_cases hlt : i < N
    · have di : decide ((i : Int) < (N : Int)) = true := decide_eq_true (cast_lt hlt)
      have dn := cast_lt hlt
      have hwrap := wrap_nat8 (a := i) (Nat.le_trans hi hcl)
      have hic : i < css.length := by rw [HLN.out]; exact hlt
      obtain ⟨A1, hsb1, M1, F1, B1⟩ := HV.out
      obtain ⟨b, off, ra, rc, hca, hc, hcs⟩ := CssAt.at (CssAt.below B1 HC.out) (List.getElem?_eq_getElem hic)
      have hxb := HB.out _ (List.getElem_mem hic)
      have hT := takenN_ok (n := n) (css := css) (fun cs hcs x hx => ((HB.out cs hcs).2 x hx).2) i (by omega)
      have hsucc := takenN_succ (n := n) (List.getElem?_eq_getElem hic)
      have LO := litsOf_in wr ra css[i] rc hcs (fun x hx => ⟨(hxb.2 x hx).1, Nat.le_trans (hxb.2 x hx).2 hn⟩) hxb.1
      have hFm := hT.fo.fit.more (litsN_nodup css[i]) (litsN_lt (n := (takenN n css i).n) (fun x hx => by rw [hT.nn]; exact (hxb.2 x hx).2))
      have hcll : (takenN n css i).cl.length = i := by rw [hT.cl]; simp; omega
      have hfit := hT.fo.fit
      have HM : Hid _ := M1
      have HF : Hid _ := F1
      have HBB : Hid _ := B1
      have HFM : Hid _ := hFm
      have HFT : Hid _ := hfit
      have HSU : Hid _ := hsucc
      have HCL : Hid _ := hcll
      subst hca
      clear M1 F1 B1 hcs hxb hT hFm hfit hsucc hcll V0
      generalize css[i] = cs at *
      generalize hL : cs.length = L at *
      clear hL
      go_wp2_with (first | (go_at_call 85; refine LO.mono ?_; rintro e w4 ⟨g, c, rfl, hg, hlc, hrow, B4⟩; refine Aside.out ?_))
      delta Aside
      generalize hlsz : takenN n css i = s at *
      have hfoot4 : ∀ k, A1.Foot k → k < wr.heap.size := fun k ⟨r, hr⟩ => HM.out.lt hr
      have hng : ¬ A1.Foot g := fun hf => by have := hfoot4 g hf; omega
      have hgl : g < w4.heap.size := (Array.getElem?_eq_some_iff.1 hrow).1
      have z4 := B4.size
      have hncb : ¬ A1.Foot w4.heap.size := fun hf => by have := hfoot4 _ hf; omega
      have MN := HM.out.newClause HFT.out (W' := w4.alloc (.cells #[.slice (some ⟨g, 0, none⟩) (litsN cs).length c, .int .i64 0, .slice none 0 0, .int .i64 0, .bool false, .bool false] 182)) (cb := w4.heap.size) (g := g) (ls := litsN cs) (sp := (List.replicate (c - (litsN cs).length) 0).map i32)
        (fun k hk => (Below.heap_alloc _ _ _ (by have := hfoot4 k hk; omega)).trans (B4.block k (hfoot4 k hk))) hncb hng (by omega)
        ((Below.heap_alloc _ _ _ hgl).trans (by unfold RowL at hrow; rw [List.map_append] at hrow; exact hrow)) (by
          rw [heap_alloc_new]
          simp only [List.length_map, List.length_replicate, Nat.add_sub_cancel' hlc])
      have hsbN : (A1.clause s.cl.length w4.heap.size g ((List.replicate (c - (litsN cs).length) 0).map i32)).blk .search = some sb := by simp [Ad.clause, hsb1]
      have hcbN : (A1.clause s.cl.length w4.heap.size g ((List.replicate (c - (litsN cs).length) 0).map i32)).blk (.clause s.cl.length) = some w4.heap.size := by simp [Ad.clause]
      have AD := sAddAll_in _ _ _ MN HFM.out sb hsbN s.cl.length w4.heap.size hcbN (by show (s.cl ++ [litsN cs]).length ≤ _; rw [List.length_append, HCL.out]; simp; omega)
      rw [add_add2, ← HSU.out] at AD
      have hfootN : ∀ k, (A1.clause s.cl.length w4.heap.size g ((List.replicate (c - (litsN cs).length) 0).map i32)).Foot k → w.heap.size ≤ k := fun k ⟨r, hr⟩ => by
        unfold Ad.clause at hr
        simp only at hr
        have z0 := HBB.out.size
        split at hr
        · cases hr; omega
        · split at hr
          · cases hr; omega
          · exact HF.out k ⟨r, hr⟩
      have HMN : Hid _ := MN
      have HFN : Hid _ := hfootN
      have HB4 : Hid _ := B4
      clear MN hfootN B4 hrow hfoot4 LO hng hncb hgl hcbN
      apply_assumption
      go_wp2_with (first | (go_at_call 84; refine AD.mono ?_; rintro e w6 ⟨rfl, A6, S6, hA6⟩))
      refine ⟨⟨i + 1, by omega, by simp, A6, (hA6 .search (by intro e; cases e) (by intro l e; cases e)).1.trans hsbN, S6.mem, fun k hk => ?_, ?_⟩, by simp [intOf]; omega⟩
      · rcases S6.new k hk with e | e
        · exact HFN.out k e
        · have z0 := HBB.out.size
          simp at e
          omega
      · have k6 := S6.kept
        have b4 := HB4.out
        have b1 := HBB.out
        have z1 := b1.size
        refine ⟨k6.os.trans (b4.os.trans b1.os), k6.tape.trans (b4.tape.trans b1.tape), k6.output.trans (b4.output.trans b1.output), ?_, fun k hk => ?_⟩
        · have := k6.size
          simp at this
          omega
        · refine (k6.block k (by simp; omega) (fun hf => by have := HFN.out k hf; omega)).trans ?_
          exact (Below.heap_alloc _ _ _ (by omega)).trans ((b4.block k (by omega)).trans (b1.block k hk))
    · have di : decide ((i : Int) < (N : Int)) = false := decide_eq_false (by omega)
      have hie : i = N := by omega
      obtain ⟨A1, hsb1, M1, F1, B1⟩ := HV.out
      have hT := takenN_ok (n := n) (css := css) (fun cs hcs x hx => ((HB.out cs hcs).2 x hx).2) i (by rw [HLN.out]; omega)
      have hall : takenN n css i = css.foldl (fun s c => s.add (litsN c)) (Sv.new n) := by unfold takenN; rw [hie, ← HLN.out, List.take_length]
      have hRn : Rn (takenN n css i) := ⟨hT.fo.fit, by rw [hT.hp, hT.nn]; intro v hv; simp at hv; omega, by rw [hT.hp]; simp, by rw [hT.hp, hT.starts]; simp; omega⟩
      have hcl2 : (takenN n css i).cl.length ≤ 4398046511100 := by rw [hT.cl]; simp; omega
      have hsol := HR.out
      unfold solveN at hsol
      rw [← hall] at hsol
      have hnn := hT.nn
      clear hT hall V0
      generalize takenN n css i = s at *
      cases hrun : Sv.run (n + 2) s with
      | none => rw [hrun] at hsol; cases hsol
      | some bs =>
        obtain ⟨b, s'⟩ := bs
        rw [hrun] at hsol
        have SO := solve_in wr A1 s M1 hRn sb hsb1 hcl2 (n + 2) b s' hrun
        have hrn : Hid (s'.n = s.n) := run_n _ _ _ _ hrun
        have HF : Hid _ := F1
        have HBB : Hid _ := B1
        cases b with
        | false =>
          simp only [Option.some.injEq] at hsol
          subst hsol
          clear M1 F1 B1 hRn hrun
          go_wp2_with (first | (go_at_call 86; refine SO.mono ?_; rintro e w6 ⟨rfl, A6, S6, hA6⟩))
          exact ⟨rfl, .tuple #[.slice none 0 0, .bool false, .int .i64 0], by simp [results, Tryz.results44], solve_below HBB.out HF.out S6, fun _ => rfl, fun vs e => (by cases e)⟩
        | true =>
          simp only [Option.some.injEq] at hsol
          obtain ⟨vb, hvb⟩ := M1.fix .vals rfl
          have HS : Hid _ := hsol
          clear hRn hrun M1 F1 B1 hsol
          have m1 : ∀ W : World, _ := fun W => make_boolsS W n (by omega)
          go_wp2_with (first | (go_at_call 86; refine SO.mono ?_; rintro e w6 ⟨rfl, A6, S6, hA6⟩))
          have hsb6 : A6.blk .search = some sb := (hA6 .search (by intro e; cases e) (by intro e; cases e) (by intro l e; cases e)).trans hsb1
          obtain ⟨vb6, hvb6⟩ := S6.mem.fix .vals rfl
          have B7 := (solve_below HBB.out HF.out S6).alloc (solve_below HBB.out HF.out S6).size (Obj.cells (Array.replicate n (Value.bool false)) 4)
          have M7 := S6.mem.alloc (Obj.cells (Array.replicate n (Value.bool false)) 4)
          have hg7 : (w6.alloc (Obj.cells (Array.replicate n (Value.bool false)) 4)).heap[w6.heap.size]? = some (.cells ((List.range 0).map (fun i => Value.bool (decide (s'.val (2 * (i + 1)) = 1))) ++ List.replicate (n - 0) (Value.bool false)).toArray 4) := by
            rw [heap_alloc_new]; simp
          have hnf : ¬ A6.Foot w6.heap.size := fun ⟨r, hr⟩ => by have := S6.mem.lt hr; omega
          have hge : w.heap.size ≤ w6.heap.size := (solve_below HBB.out HF.out S6).size
          clear SO m1 HF HBB S6 hA6
          generalize (w6.alloc (Obj.cells (Array.replicate n (Value.bool false)) 4)) = w7 at *
          generalize w6.heap.size = g at *
          have hn7 : s'.n = n := (hrn.out).trans hnn
          have c0 := M7.cell hsb6 (i := 0) rfl
          simp only [Ad.slv, hvb6, M7.flat.1, List.length_nil, Nat.zero_div, Nat.add_zero, hn7] at c0
          have HV7 : Hid (∀ l, l < 2 * n + 2 → w7.cell? ⟨vb6, l, none⟩ = some (.int .i8 (s'.val l))) := fun l hl => M7.vcell hvb6 (by rw [hn7]; exact hl)
          have HB7 : Hid _ := B7
          have gsb : sb ≠ g := fun e => hnf ⟨_, e ▸ hsb6⟩
          have gvb : vb6 ≠ g := fun e => hnf ⟨_, e ▸ hvb6⟩
          have HW0 : Hid ((∀ k, k ≠ g → w7.heap[k]? = w7.heap[k]?) ∧ w7.heap[g]? = some (.cells ((List.range 0).map (fun i => Value.bool (decide (s'.val (2 * (i + 1)) = 1))) ++ List.replicate (n - 0) (Value.bool false)).toArray 4) ∧ Kept (fun k => k = g) w7 w7) := ⟨fun _ _ => rfl, hg7, Kept.refl _ _⟩
          clear M7 B7 hg7 hnf
          go_loopw [41] (fun t41 W => ∃ i : Nat, i ≤ n ∧ t41 = .int .i64 (i : Int) ∧ Hid ((∀ k, k ≠ g → W.heap[k]? = w7.heap[k]?) ∧ W.heap[g]? = some (.cells ((List.range i).map (fun i => Value.bool (decide (s'.val (2 * (i + 1)) = 1))) ++ List.replicate (n - i) (Value.bool false)).toArray 4) ∧ Kept (fun k => k = g) w7 W)) (fun t41 _ => n - (intOf t41).toNat)
          case atStart => exact ⟨0, Nat.zero_le _, rfl, ⟨fun _ _ => rfl, HW0.out.2⟩⟩
          case round =>
            obtain ⟨j, hj, rfl, HJ⟩ := hrel
            by_cases hjn : j < n
            · have dj : decide ((j : Int) < (n : Int)) = true := decide_eq_true (cast_lt hjn)
              have djn := cast_lt hjn
              have hwj := wrap_nat1 (a := j) (by omega)
              obtain ⟨e1, e2, e3⟩ := HJ.out
              have c0' : wr.cell? ⟨sb, 0, none⟩ = _ := (World.cell?_of_block (a := ⟨sb, 0, none⟩) (e1 sb gsb)).trans c0
              have vj : wr.cell? ⟨vb6, 2 * (j + 1), none⟩ = _ := (World.cell?_of_block (a := ⟨vb6, 2 * (j + 1), none⟩) (e1 vb6 gvb)).trans (HV7.out (2 * (j + 1)) (by omega))
              have LI := fun W : World => litOf_in W ((j : Int) + 1) (by omega) (by omega)
              have hlj : litN ((j : Int) + 1) = 2 * (j + 1) := by unfold litN; split <;> omega
              rw [hlj] at LI
              have hlen : ((List.range j).map (fun i => Value.bool (decide (s'.val (2 * (i + 1)) = 1))) ++ List.replicate (n - j) (Value.bool false)).length = n := by simp; omega
              obtain ⟨v1, q1⟩ : ∃ v, wr.cell? ⟨g, j, none⟩ = some v := ⟨_, by simp only [World.cell?, e2]; rw [List.getElem?_toArray, List.getElem?_eq_getElem (by rw [hlen]; exact hjn)]; rfl⟩
              have f1 : wr.frozen? ⟨g, j, none⟩ = false := by simp only [World.frozen?, e2]; simp
              have dl : ((2 * (j + 1) : Nat) : Int) < 2 * (n : Int) + 2 := by omega
              have HST : Hid (∀ W : World, (∀ k, k ≠ g → W.heap[k]? = wr.heap[k]?) → W.cell? ⟨sb, 0, none⟩ = some (.slice (some ⟨vb6, 0, none⟩) (2 * n + 2) (2 * n + 2)) ∧ W.cell? ⟨vb6, 2 * (j + 1), none⟩ = some (.int .i8 (s'.val (2 * (j + 1))))) := fun W hW =>
                ⟨(World.cell?_of_block (a := ⟨sb, 0, none⟩) (hW sb gsb)).trans c0', (World.cell?_of_block (a := ⟨vb6, 2 * (j + 1), none⟩) (hW vb6 gvb)).trans vj⟩
              have HSET : Hid (((List.range j).map (fun i => Value.bool (decide (s'.val (2 * (i + 1)) = 1))) ++ List.replicate (n - j) (Value.bool false)).set j (Value.bool (decide (s'.val (2 * (j + 1)) = 1))) = (List.range (j + 1)).map (fun i => Value.bool (decide (s'.val (2 * (i + 1)) = 1))) ++ List.replicate (n - (j + 1)) (Value.bool false)) := range_set (fun i => Value.bool (decide (s'.val (2 * (i + 1)) = 1))) (Value.bool false) hjn
              clear e1 e2 e3 hlen c0 HW0 HV7
              obtain ⟨l2, hl2⟩ : ∃ l2, 2 * (j + 1) = l2 := ⟨_, rfl⟩
              rw [hl2] at HST vj LI dl
              have HL2 : Hid _ := hl2
              clear hl2
              go_wp2_with fail
              refine wp_region_noPanic ?_
              refine wp_region_held_drew (S := fun W => W.cell? ⟨sb, 0, none⟩ = some (.slice (some ⟨vb6, 0, none⟩) (2 * n + 2) (2 * n + 2)) ∧ W.cell? ⟨vb6, l2, none⟩ = some (.int .i8 (s'.val l2))) (by kernel_rfl) ?_ (fun hHeld => ?_)
              · (first | exact HST.out _ (fun k h1 => rfl) | exact HST.out _ (fun k h1 => Below.heap_setCell _ _ _ _ h1))
              refine wpAnyH_take (i := 0) (oi := _) (v := ?_) rfl (by kernel_rfl) (by kernel_rfl) (by kernel_rfl) (fun _ _ _ h => h) (Or.inl ⟨by rfl, ?_⟩) (by assumption) ?_
              rotate_left 1
              · intro w hSw; (try dsimp only at hSw); go_simp; (try with_reducible rfl)
              try simp only [Act.put, List.getElem_toArray, List.getElem_cons_zero, List.setIfInBounds_toArray, List.set_cons_zero, List.set_cons_succ]
              refine wpAnyH_take (i := 1) (oi := _) (v := ?_) rfl (by kernel_rfl) (by kernel_rfl) (by kernel_rfl) (fun _ _ _ h => h) (Or.inl ⟨by rfl, ?_⟩) (by assumption) ?_
              rotate_left 1
              · intro w hSw; (try dsimp only at hSw); go_simp; (try with_reducible rfl)
              try simp only [Act.put, List.getElem_toArray, List.getElem_cons_succ, List.getElem_cons_zero, List.setIfInBounds_toArray, List.set_cons_zero, List.set_cons_succ]
              refine wpAnyH_take (i := 2) (oi := _) (v := ?_) rfl (by kernel_rfl) (by kernel_rfl) (by kernel_rfl) (fun _ _ _ h => h) (Or.inl ⟨by rfl, ?_⟩) (by assumption) ?_
              rotate_left 1
              · intro w hSw; (try dsimp only at hSw); go_simp; (try with_reducible rfl)
              try simp only [Act.put, List.getElem_toArray, List.getElem_cons_succ, List.getElem_cons_zero, List.setIfInBounds_toArray, List.set_cons_zero, List.set_cons_succ]
              refine wpAnyH_take (i := 3) (oi := _) (v := ?_) rfl (by kernel_rfl) (by kernel_rfl) (by kernel_rfl) (fun _ _ _ h => h) (Or.inl ⟨by rfl, ?_⟩) (by assumption) ?_
              rotate_left 1
              · intro w hSw; (try dsimp only at hSw); go_simp; (try with_reducible rfl)
              try simp only [Act.put, List.getElem_toArray, List.getElem_cons_succ, List.getElem_cons_zero, List.setIfInBounds_toArray, List.set_cons_zero, List.set_cons_succ]
              refine wpAnyH_take (i := 4) (oi := _) (v := ?_) rfl (by kernel_rfl) (by kernel_rfl) (by kernel_rfl) (fun _ _ _ h => h) (Or.inl ⟨by rfl, ?_⟩) (by assumption) ?_
              rotate_left 1
              · intro w hSw; (try dsimp only at hSw); go_simp; (try with_reducible rfl)
              try simp only [Act.put, List.getElem_toArray, List.getElem_cons_succ, List.getElem_cons_zero, List.setIfInBounds_toArray, List.set_cons_zero, List.set_cons_succ]
              refine wpAnyH_take (i := 5) (oi := _) (v := ?_) rfl (by kernel_rfl) (by kernel_rfl) (by kernel_rfl) (fun _ _ _ h => h) (Or.inl ⟨by rfl, ?_⟩) (by assumption) ?_
              rotate_left 1
              · intro w hSw; (try dsimp only at hSw); go_simp; (try with_reducible rfl)
              try simp only [Act.put, List.getElem_toArray, List.getElem_cons_succ, List.getElem_cons_zero, List.setIfInBounds_toArray, List.set_cons_zero, List.set_cons_succ]
              refine wpAnyH_take (i := 6) (oi := _) (v := ?_) rfl (by kernel_rfl) (by kernel_rfl) (by kernel_rfl) (fun _ _ _ h => h) (Or.inl ⟨by rfl, ?_⟩) (by assumption) ?_
              rotate_left 1
              · intro w hSw; (try dsimp only at hSw); go_simp; (try with_reducible rfl)
              try simp only [Act.put, List.getElem_toArray, List.getElem_cons_succ, List.getElem_cons_zero, List.setIfInBounds_toArray, List.set_cons_zero, List.set_cons_succ]
              refine wpAnyH_take (i := 7) (oi := _) (v := ?_) rfl (by kernel_rfl) (by kernel_rfl) (by kernel_rfl) (fun _ _ _ h => h) (Or.inl ⟨by rfl, ?_⟩) (by assumption) ?_
              rotate_left 1
              · intro w hSw; (try dsimp only at hSw); go_simp; (try with_reducible rfl)
              try simp only [Act.put, List.getElem_toArray, List.getElem_cons_succ, List.getElem_cons_zero, List.setIfInBounds_toArray, List.set_cons_zero, List.set_cons_succ]
              refine wpAnyH_ready (rs := [8]) (by kernel_rfl) (by simp) ?_
              refine AllReadyH.cons rfl (fun K hK => ?_) AllReadyH.nil
              try simp only [List.getElem_toArray, List.getElem_cons_succ, List.getElem_cons_zero]
              go_simp
              go_at_call 87
              refine (LI _).mono ?_
              rintro e w3 ⟨rfl, rfl⟩
              refine hK.out _ _ ?_ (fun hHeld => ?_)
              · (first | exact HST.out _ (fun k h1 => rfl) | exact HST.out _ (fun k h1 => Below.heap_setCell _ _ _ _ h1))
              clear hK K
              try simp only [Act.put, List.getElem_toArray, List.getElem_cons_succ, List.getElem_cons_zero, List.setIfInBounds_toArray, List.set_cons_zero, List.set_cons_succ]
              refine wpAnyH_take (i := 9) (oi := _) (v := ?_) rfl (by kernel_rfl) (by kernel_rfl) (by kernel_rfl) (fun _ _ _ h => h) (Or.inl ⟨by rfl, ?_⟩) (by assumption) ?_
              rotate_left 1
              · intro w hSw; (try dsimp only at hSw); go_simp; (try with_reducible rfl)
              try simp only [Act.put, List.getElem_toArray, List.getElem_cons_succ, List.getElem_cons_zero, List.setIfInBounds_toArray, List.set_cons_zero, List.set_cons_succ]
              refine wpAnyH_take (i := 10) (oi := _) (v := ?_) rfl (by kernel_rfl) (by kernel_rfl) (by kernel_rfl) (fun _ _ _ h => h) (Or.inl ⟨by rfl, ?_⟩) (by assumption) ?_
              rotate_left 1
              · intro w hSw; (try dsimp only at hSw); go_simp; (try with_reducible rfl)
              try simp only [Act.put, List.getElem_toArray, List.getElem_cons_succ, List.getElem_cons_zero, List.setIfInBounds_toArray, List.set_cons_zero, List.set_cons_succ]
              refine wpAnyH_take (i := 11) (oi := _) (v := ?_) rfl (by kernel_rfl) (by kernel_rfl) (by kernel_rfl) (fun _ _ _ h => h) (Or.inl ⟨by rfl, ?_⟩) (by assumption) ?_
              rotate_left 1
              · intro w hSw; (try dsimp only at hSw); go_simp; (try with_reducible rfl)
              try simp only [Act.put, List.getElem_toArray, List.getElem_cons_succ, List.getElem_cons_zero, List.setIfInBounds_toArray, List.set_cons_zero, List.set_cons_succ]
              refine wpAnyH_take (i := 12) (oi := _) (v := ?_) rfl (by kernel_rfl) (by kernel_rfl) (by kernel_rfl) (fun _ _ _ h => h) (Or.inl ⟨by rfl, ?_⟩) (by assumption) ?_
              rotate_left 1
              · intro w hSw; (try dsimp only at hSw); go_simp; (try with_reducible rfl)
              try simp only [Act.put, List.getElem_toArray, List.getElem_cons_succ, List.getElem_cons_zero, List.setIfInBounds_toArray, List.set_cons_zero, List.set_cons_succ]
              refine wpAnyH_ready (rs := [13]) (by kernel_rfl) (by simp) ?_
              refine AllReadyH.cons rfl (fun K hK => ?_) AllReadyH.nil
              try simp only [List.getElem_toArray, List.getElem_cons_succ, List.getElem_cons_zero]
              go_simp
              refine hK.out _ _ ?_ (fun hHeld => ?_)
              · (first | exact HST.out _ (fun k h1 => rfl) | exact HST.out _ (fun k h1 => Below.heap_setCell _ _ _ _ h1))
              clear hK K
              try simp only [Act.put, List.getElem_toArray, List.getElem_cons_succ, List.getElem_cons_zero, List.setIfInBounds_toArray, List.set_cons_zero, List.set_cons_succ]
              all_goals refine wpAnyH_done (by kernel_rfl) (NoPanic.normal ?_) _
              try simp only [Act.put, List.getElem_toArray, List.getElem_cons_succ, List.getElem_cons_zero, List.setIfInBounds_toArray, List.set_cons_succ, List.set_cons_zero]
              go_wp2_with fail
              refine ⟨⟨j + 1, by omega, by simp, ?_⟩, by simp [intOf]; omega⟩
              obtain ⟨e1, e2, e3⟩ := HJ.out
              refine ⟨fun k hk => (Below.heap_setCell _ _ _ _ hk).trans (e1 k hk), ?_, (e3.setCell (p := ⟨g, j, none⟩) rfl _).drew⟩
              rw [← HSET.out, HL2.out]
              exact setCell_cells e2 j _
            · have dj : decide ((j : Int) < (n : Int)) = false := decide_eq_false (by omega)
              have hje : j = n := by omega
              clear HW0 c0
              go_wp2_with fail
              refine ⟨rfl, .tuple #[.slice (some ⟨g, 0, none⟩) n n, .bool true, .int .i64 0], by simp [results, Tryz.results44], ?_, fun e => ?_, fun vs e => ⟨g, rfl, hge, ?_⟩⟩
              · obtain ⟨e1, e2, e3⟩ := HJ.out
                have b7 := HB7.out
                exact b7.trans ⟨e3.os, e3.tape, e3.output, e3.size, fun k hk => e3.block k (Nat.lt_of_lt_of_le hk b7.size) (by omega)⟩
              · rw [← HS.out] at e; cases e
              · rw [← HS.out] at e
                cases e
                obtain ⟨e1, e2, e3⟩ := HJ.out
                rw [e2, hje, Nat.sub_self]
                simp

end Go.Proofs.YtlehlgipbhfioaaGreat

namespace Go.Proofs.YtlehlgipbhfioaaGreat
open Go.RowKit Go.Maps

/-- A formula of a problem in its six cells. -/
def FmOne (W : World) (b off N : Nat) (fm : Fm) : Prop := ∃ (op x y : Int) (ka : Option Addr) (kn kc : Nat) (au cu : Value) (f : Fo),
  (W.cell? ⟨b, off, none⟩ = some (.int .i64 op) ∧ W.cell? ⟨b, off + 1, none⟩ = some (.int .i64 x) ∧ W.cell? ⟨b, off + 2, none⟩ = some (.int .i64 y) ∧ W.cell? ⟨b, off + 3, none⟩ = some (.slice ka kn kc) ∧ W.cell? ⟨b, off + 4, none⟩ = some au ∧ W.cell? ⟨b, off + 5, none⟩ = some cu) ∧
  FIs W (.agg #[.int .i64 op, .int .i64 x, .int .i64 y, .slice ka kn kc]) f ∧ (szF f ≤ 1048576 ∧ RF f) ∧ (∀ e, fm.ev e = evE N e f) ∧ PsAt W au fm.am ∧ ∃ ca cc, cu = .slice ca fm.cs.length cc ∧ CssAt W ca fm.cs
theorem FmOne.below {W W' : World} {b off N : Nat} {fm : Fm} (h : FmOne W b off N fm) (hB : Below W.heap.size W W') : FmOne W' b off N fm := by
  obtain ⟨op, x, y, ka, kn, kc, au, cu, f, ⟨c0, c1, c2, c3, c4, c5⟩, h1, h2, h3, h4, ca, cc, h5, h6⟩ := h
  have hm := Mono.below hB
  exact ⟨op, x, y, ka, kn, kc, au, cu, f, ⟨hm _ _ c0, hm _ _ c1, hm _ _ c2, hm _ _ c3, hm _ _ c4, hm _ _ c5⟩, h1.keep hB, h2, h3, h4.below hB, ca, cc, h5, h6.below hB⟩
/-- The formulas of a problem. -/
def FmsAt (W : World) (N : Nat) (v : Value) (fs : List Fm) : Prop := ∃ a c, v = .slice a fs.length c ∧ ∀ (n : Nat) (fm : Fm), fs[n]? = some fm → ∃ b off, a = some ⟨b, off, none⟩ ∧ FmOne W b (off + n * 6) N fm
theorem FmsAt.below {W W' : World} {N : Nat} {v : Value} {fs : List Fm} (h : FmsAt W N v fs) (hB : Below W.heap.size W W') : FmsAt W' N v fs := by
  obtain ⟨a, c, h1, h2⟩ := h
  refine ⟨a, c, h1, fun n fm hn => ?_⟩
  obtain ⟨b, off, h3, h4⟩ := h2 n fm hn
  exact ⟨b, off, h3, h4.below hB⟩
theorem Fm.get_at {fs : List Fm} {n : Nat} {fm : Fm} (h : fs[n]? = some fm) : Fm.get fs n = fm := by
  unfold Fm.get
  rw [h]
  rfl
theorem FmsAt.am {W : World} {N : Nat} {v : Value} {fs : List Fm} (h : FmsAt W N v fs) : AmAt W v fs.length (fun n => (Fm.get fs n).am) := by
  obtain ⟨a, c, h1, h2⟩ := h
  refine ⟨a, c, h1, fun n hn => ?_⟩
  have e := List.getElem?_eq_getElem hn
  obtain ⟨b, off, h3, op, x, y, ka, kn, kc, au, cu, f, ⟨_, _, _, _, c4, _⟩, _, _, _, h4, _⟩ := h2 n _ e
  refine ⟨b, off, au, h3, c4, ?_⟩
  simp only [Fm.get_at e]
  exact h4

theorem beq_natI (a b : Nat) : ((a : Int) == (b : Int)) = decide (a = b) := by
  by_cases h : a = b
  · subst h; simp
  · rw [decide_eq_false h]
    simp
    omega

set_option maxRecDepth 100000 in
set_option maxHeartbeats 1000000 in
theorem wrong_in (S : Nat → Prop) (w : World) (pb vb kb : Nat) (bk tv fv lv : Value) (P : Pb) (h : Pm S w pb vb kb bk tv fv lv P) (N : Nat) (fs : List Fm) (ha : FmsAt w N fv fs) (vv : Value) (m : Nat) (val : Nat → Bool) (hv : BsAt w vv m val) (cb : Nat) (g : Nat → Nat) (hg : w.rowIs cb 3 N (fun i => .int .i64 (g i : Int))) (cq : Nat → Nat → Bool) (hcq : ∀ i j, i < N → j < N → decide (g i = g j) = cq i j) (xa : Option Addr) (xc : Nat) (ns : List Nat) (hx : NsAt w (.slice xa ns.length xc) ns) (hns : ∀ n ∈ ns, n < fs.length) (hnl : ns.length ≤ 1000000) (hpr : ∀ n, n < fs.length → (Fm.get fs n).am.length ≤ 1000000 ∧ ∀ a ∈ (Fm.get fs n).am, PrOk a ∧ (a.1 < N ∧ a.2 < N) ∧ ∃ z, numV P.vars a = some z ∧ 1 ≤ z ∧ z ≤ m) (hm : m ≤ 1000000) (hN : N ≤ 1000000) :
    Calls Tryz.prog 48 #[.pointer (some ⟨pb, 0, none⟩), vv, .slice (some ⟨cb, 0, none⟩) N N, .slice xa ns.length xc] w fun e w' => ∃ v', e = .returned v' ∧ w'.ownsRow w.heap.size 34 2 v' (wrongN val P.vars cq (fun n => (Fm.get fs n).am) (fun n => (Fm.get fs n).ev cq) [] ns).length (rowP (wrongN val P.vars cq (fun n => (Fm.get fs n).am) (fun n => (Fm.get fs n).ev cq) [] ns)) ∧ Below w.heap.size w w' := by
  obtain ⟨fa, fc, rfl, ha⟩ := ha
  obtain ⟨tb, tq, tc, rfl, hv⟩ := hv
  obtain ⟨am, ham⟩ : ∃ am : Nat → List Pr, am = fun n => (Fm.get fs n).am := ⟨_, rfl⟩
  obtain ⟨ok, hok⟩ : ∃ ok : Nat → Bool, ok = fun n => (Fm.get fs n).ev cq := ⟨_, rfl⟩
  rw [← ham, ← hok]
  have hpr2 : ∀ n, n < fs.length → (am n).length ≤ 1000000 ∧ ∀ a ∈ am n, PrOk a ∧ (a.1 < N ∧ a.2 < N) ∧ ∃ z, numV P.vars a = some z ∧ 1 ≤ z ∧ z ≤ m := by rw [ham]; exact hpr
  have HD : Hid (_ ∧ _ ∧ _ ∧ _ ∧ _ ∧ _ ∧ _ ∧ _) := ⟨h, ha, hv, hx, hns, hpr2, hg, hcq⟩
  have HAO : Hid (_ ∧ _) := And.intro ham hok
  obtain ⟨n, hn⟩ : ∃ n, ns.length = n := ⟨_, rfl⟩
  have HN : Hid _ := hn
  rw [hn] at hnl ⊢
  have HI0 : Hid (TS w w (.slice none 0 0) (wrongN val P.vars cq am ok [] (ns.take 0)) ∧ (wrongN val P.vars cq am ok [] (ns.take 0)).length ≤ 0 * 1000000) := ⟨⟨⟨by simp [wrongN, rowP], Or.inl ⟨rfl, rfl⟩⟩, Below.refl _ _⟩, by simp [wrongN]⟩
  clear h ha hv hx hns hpr hn hg hcq hpr2 ham hok
  go_enter Tryz.func48, Tryz.ntmps48
  go_wp2_with fail
  go_loopw [9, 17] (fun t9 t17 W => ∃ i : Nat, i ≤ n ∧ t17 = .int .i64 (i : Int) ∧ Hid (TS w W t9 (wrongN val P.vars cq am ok [] (ns.take i)) ∧ (wrongN val P.vars cq am ok [] (ns.take i)).length ≤ i * 1000000)) (fun _ t17 _ => n - (intOf t17).toNat)
  case atStart => exact ⟨0, Nat.zero_le _, rfl, HI0⟩
  case round =>
    obtain ⟨i, hi, rfl, HJ⟩ := hrel
    clear HI0
    by_cases hlt : i < n
    · have di : decide ((i : Int) < (n : Int)) = true := decide_eq_true (by omega)
      have hwi : IntKind.i64.wrap ((i : Int) + 1) = (i : Int) + 1 := wrap_nat1 (by omega)
      have hil : i < ns.length := by rw [HN.out]; exact hlt
      obtain ⟨xb, xo, xc', ex, qx⟩ := HD.out.2.2.2.1.get (List.getElem?_eq_getElem hil)
      cases ex
      have hxk := HD.out.2.2.2.2.1 _ (List.getElem_mem hil)
      have HS : Hid (wrongN val P.vars cq am ok [] (ns.take (i + 1)) = if ok ns[i] then wrongN val P.vars cq am ok [] (ns.take i) else wrngL val P.vars cq (wrongN val P.vars cq am ok [] (ns.take i)) (am ns[i])) := by
        show _ = _
        rw [List.take_add_one, List.getElem?_eq_getElem hil, Option.toList_some]
        unfold wrongN
        rw [List.foldl_append]
        rfl
      generalize ns[i] = x at *
      obtain ⟨fb, fo, hfa, op, fx, fy, ka, kn, kc, au, cu, f, ⟨q0, q1, q2, q3, q4, q5⟩, hfi, ⟨hsz, hrf⟩, hev, hps, ca, cc, rfl, _⟩ := HD.out.2.1 x _ (List.getElem?_eq_getElem hxk)
      subst hfa
      have hget : (Fm.get fs x) = fs[x] := Fm.get_at (List.getElem?_eq_getElem hxk)
      have hamx : am x = fs[x].am := by rw [HAO.out.1]; simp only [hget]
      have hokx : ok x = evE N cq f := by rw [HAO.out.2]; simp only [hget]; exact hev cq
      rw [← hamx] at hps
      obtain ⟨ua, uc, rfl, hps⟩ := hps
      have T0 := HJ.out.1
      have qx := T0.get qx
      have q0 := T0.get q0
      have q1 := T0.get q1
      have q2 := T0.get q2
      have q3 := T0.get q3
      have q4 := T0.get q4
      have q5 := T0.get q5
      have c2 := T0.get (HD.out.1.cells.cell (i := 2) (by omega))
      simp only [pmC] at c2
      have hcl : (cb < w.heap.size) := HD.out.2.2.2.2.2.2.1.lt
      have hBx : Below wr.heap.size wr (wr.alloc (.cells #[.int .i64 op, .int .i64 fx, .int .i64 fy, .slice ka kn kc, .slice ua (am x).length uc, .slice ca fs[x].cs.length cc] 172)) := (Below.refl _ _).alloc (Nat.le_refl _) _
      have T1 := T0.below hBx
      have EV := evalF_in (wr.alloc (.cells #[.int .i64 op, .int .i64 fx, .int .i64 fy, .slice ka kn kc, .slice ua (am x).length uc, .slice ca fs[x].cs.length cc] 172)) (.agg #[.int .i64 op, .int .i64 fx, .int .i64 fy, .slice ka kn kc]) f (hfi.keep T1.2) (some ⟨cb, 0, none⟩) N N ((List.range N).map fun t => (g t : Int)) (by simp) (by
        by_cases hN0 : N = 0
        · left; rw [hN0]; rfl
        · refine Or.inr ⟨cb, 0, rfl, fun j z hj => ?_⟩
          have hjN : j < N := by have := (List.getElem?_eq_some_iff.1 hj).1; simpa using this
          rw [List.getElem?_map, List.getElem?_range hjN] at hj
          cases hj
          rw [Nat.zero_add]
          exact T1.get (HD.out.2.2.2.2.2.2.1.cell (i := j) hjN)) (by omega) (by omega) hrf
      rw [evF_E (n := N) (by simp) (e := cq) (fun a b ha hb => by
        have e1 : ((List.range N).map fun t => (g t : Int))[a]?.getD 0 = (g a : Int) := by simp [ha]
        have e2 : ((List.range N).map fun t => (g t : Int))[b]?.getD 0 = (g b : Int) := by simp [hb]
        rw [← HD.out.2.2.2.2.2.2.2 a b ha hb, e1, e2, beq_natI]), ← hokx] at EV
      generalize fs[x].cs.length = cl at *
      have hpx := HD.out.2.2.2.2.2.1 x hxk
      have HU : Hid (_ ∧ _ ∧ _) := And.intro hps (And.intro hpx T1)
      have HD3 : Hid (_ ∧ _ ∧ _ ∧ _) := And.intro HD.out.1 (And.intro HD.out.2.2.1 (And.intro HD.out.2.2.2.2.2.2.1 HD.out.2.2.2.2.2.2.2))
      have hacl := HJ.out.2
      generalize wrongN val P.vars cq am ok [] (ns.take i) = acc at *
      generalize am x = al at *
      clear hps hpx T0 T1 hfi hsz hrf hev hamx hokx hBx hget HJ
      cases hok : ok x
      · rw [hok] at EV
        go_wp2_with (first | (go_at_call 91; refine EV.mono ?_; rintro e w4 ⟨rfl, B4⟩; refine Aside.out ?_))
        delta Aside
        have cbx : w4.cell? ⟨wr.heap.size, 4, none⟩ = some (.slice ua al.length uc) := (B4.cell (by simp)).trans (by simp)
        have HJ0 : Hid (TS w w4 u9 (wrngL val P.vars cq acc (al.take 0)) ∧ (wrngL val P.vars cq acc (al.take 0)).length ≤ i * 1000000 + 0) := by
          rw [List.take_zero]
          exact ⟨HU.out.2.2.below B4, Nat.le_trans hacl (Nat.le_add_right _ _)⟩
        have HU2 : Hid (_ ∧ _) := And.intro HU.out.1 HU.out.2.1
        have HS2 : Hid (wrongN val P.vars cq am ok [] (ns.take (i + 1)) = wrngL val P.vars cq acc al) := by
          have := HS.out
          rw [hok] at this
          exact this
        obtain ⟨y, hy⟩ : ∃ y, al.length = y := ⟨_, rfl⟩
        have HY : Hid _ := hy
        have hyl : y ≤ 1000000 := by rw [← hy]; exact HU.out.2.1.1
        simp only [hy] at cbx ⊢
        clear hy EV B4 HU HS hok HD
        apply_assumption
        go_wp2_with fail
        clear cbx qx q0 q1 q2 q3 q4 q5 c2
        go_loopw [9, 35] (fun t9 t35 W => ∃ j : Nat, j ≤ y ∧ t35 = .int .i64 (j : Int) ∧ Hid (TS w W t9 (wrngL val P.vars cq acc (al.take j)) ∧ (wrngL val P.vars cq acc (al.take j)).length ≤ i * 1000000 + j)) (fun _ t35 _ => y - (intOf t35).toNat)
        case atStart => exact ⟨0, Nat.zero_le _, rfl, HJ0⟩
        case round =>
          obtain ⟨j, hj, rfl, HK⟩ := hrel
          clear HJ0
          by_cases hjt : j < y
          · have dj : decide ((j : Int) < (y : Int)) = true := decide_eq_true (by omega)
            have hwj : IntKind.i64.wrap ((j : Int) + 1) = (j : Int) + 1 := wrap_nat1 (by omega)
            have hjl : j < al.length := by rw [HY.out]; exact hjt
            have hge := List.getElem?_eq_getElem hjl
            have hmem := List.getElem_mem hjl
            have HS3 : Hid (wrngL val P.vars cq acc (al.take (j + 1)) = wrng1 val P.vars cq (wrngL val P.vars cq acc (al.take j)) al[j]) := by
              show _ = _
              rw [List.take_add_one, hge, Option.toList_some]
              unfold wrngL
              rw [List.foldl_append]
              rfl
            obtain ⟨ub, uo, eu, pu⟩ : ∃ b off, ua = some ⟨b, off, none⟩ ∧ ∀ (j : Nat) (p : Pr), al[j]? = some p → w.cell? ⟨b, off + j * 2, none⟩ = some (.int .i64 (p.1 : Int)) ∧ w.cell? ⟨b, off + j * 2 + 1, none⟩ = some (.int .i64 (p.2 : Int)) := by
              rcases HU2.out.1 with e | e
              · rw [e] at hjl; exact absurd hjl (Nat.not_lt_zero _)
              · exact e
            subst eu
            have q1 := HK.out.1.get (pu j _ hge).1
            have q2 := HK.out.1.get (pu j _ hge).2
            obtain ⟨hok, ⟨hx1, hx2⟩, z, hz, hz1, hzm⟩ := HU2.out.2.2 _ hmem
            clear hge hmem pu
            generalize al[j] = x at *
            obtain ⟨x1, x2⟩ := x
            generalize wrngL val P.vars cq acc (al.take j) = acc2 at *
            have hBx : Below wr.heap.size wr (wr.alloc (.cells #[.int .i64 (x1 : Int), .int .i64 (x2 : Int)] 34)) := (Below.refl _ _).alloc (Nat.le_refl _) _
            have HK1 := HK.out.1.below hBx
            have c3 := HK1.get (HD3.out.1.cells.cell (i := 3) (by omega))
            simp only [pmC] at c3
            have hvr : VrIs (wr.alloc (.cells #[.int .i64 (x1 : Int), .int .i64 (x2 : Int)] 34)) vb P.vars := by
              obtain ⟨es, ck, he⟩ := HD3.out.1.vars.lt
              exact HD3.out.1.vars.keep (HK1.2.block vb (Array.getElem?_eq_some_iff.1 he).1)
            have LK : ∀ m, _ := fun m => (show VrIs ((wr.alloc (.cells #[.int .i64 (x1 : Int), .int .i64 (x2 : Int)] 34)).drewN m) vb P.vars from hvr.keep rfl).look1 hok
            rw [hz] at LK
            simp only [Option.getD_some] at LK
            obtain ⟨z', rfl⟩ : ∃ z', z = z' + 1 := ⟨z - 1, by omega⟩
            have hb := HK1.get (HD3.out.2.1 z' (by omega))
            have hzl : z' < m := by omega
            simp only at hx1 hx2
            have g1 := HK1.get (HD3.out.2.2.1.cell (i := x1) hx1)
            have g2 := HK1.get (HD3.out.2.2.1.cell (i := x2) hx2)
            have dg : ((g x1 : Int) == (g x2 : Int)) = cq x1 x2 := by rw [beq_natI]; exact HD3.out.2.2.2 x1 x2 hx1 hx2
            have ADD : Hid _ := fun mm : Nat => HK.out.1.add x1 x2 (by have := HK.out.2; omega) (W1 := (wr.alloc (.cells #[.int .i64 (x1 : Int), .int .i64 (x2 : Int)] 34)).drewN mm) ⟨hBx.os, hBx.tape, hBx.output, hBx.size, hBx.block⟩ (wr.heap.size + 1) (by simp)
            have HT : Hid (∀ b c, val z' = b → cq x1 x2 = c → wrng1 val P.vars cq acc2 (x1, x2) = if c && !b then addP acc2 [(x1, x2)] else acc2) := fun b c hb hc => by
              rw [wrng1, hz]
              simp only [Option.getD_some, Nat.add_sub_cancel, hb, hc]
              cases b <;> cases c <;> rfl
            have hwz : IntKind.i64.wrap ((z' : Int) + 1 - 1) = (z' : Int) := by rw [IntKind.wrap_i64]; omega
            have HK2 : Hid _ := HK1
            have hl2 := HK.out.2
            clear HK HK1 hvr hBx hz hok hz1 hzm
            have HDr : Hid (∀ m, TS w ((wr.alloc (.cells #[.int .i64 (x1 : Int), .int .i64 (x2 : Int)] 34)).drewN m) u9 acc2) := fun m => TS.below HK2.out ⟨rfl, rfl, rfl, Nat.le_refl _, fun _ _ => rfl⟩
            clear HK2
            generalize g x1 = y1 at *
            generalize g x2 = y2 at *
            cases hcv : cq x1 x2
            · rw [hcv] at dg
              have HE : Hid (wrngL val P.vars cq acc (al.take (j + 1)) = acc2) := by
                show _ = _
                rw [HS3.out, HT.out _ _ rfl hcv]
                rfl
              clear ADD hcv HT HS3
              go_wp2_with fail
              go_quiet (fail)
              go_wp2_with fail
              refine ⟨⟨j + 1, hjt, by simp, ?_⟩, by simp [intOf]; omega⟩
              rw [HE.out]
              exact ⟨HDr.out _, by omega⟩
            · rw [hcv] at dg
              cases hvz : val z'
              · rw [hvz] at hb
                have HE : Hid (wrngL val P.vars cq acc (al.take (j + 1)) = addP acc2 [(x1, x2)]) := by
                  show _ = _
                  rw [HS3.out, HT.out _ _ hvz hcv]
                  rfl
                have HL : Hid ((addP acc2 [(x1, x2)]).length ≤ i * 1000000 + (j + 1)) := by
                  have := addP_len acc2 [(x1, x2)]
                  simp only [List.length_singleton] at this
                  show _ ≤ _
                  omega
                clear hvz HT HS3 hcv
                go_wp2_with fail
                go_quiet (fail)
                have A1 := ADD.out nq
                clear ADD
                go_wp2_with (first | (go_at_call 89; refine A1.mono ?_; rintro e w3 ⟨v3, rfl, T3⟩))
                refine ⟨⟨j + 1, hjt, by simp, ?_⟩, by simp [intOf]; omega⟩
                rw [HE.out]
                exact ⟨T3, HL.out⟩
              · rw [hvz] at hb
                have HE : Hid (wrngL val P.vars cq acc (al.take (j + 1)) = acc2) := by
                  show _ = _
                  rw [HS3.out, HT.out _ _ hvz hcv]
                  rfl
                clear ADD hcv HT HS3 hvz
                go_wp2_with fail
                go_quiet (fail)
                go_wp2_with fail
                refine ⟨⟨j + 1, hjt, by simp, ?_⟩, by simp [intOf]; omega⟩
                rw [HE.out]
                exact ⟨HDr.out _, by omega⟩
          · have dj : decide ((j : Int) < (y : Int)) = false := decide_eq_false (by omega)
            obtain rfl : j = y := by omega
            have HF : Hid (TS w wr u9 (wrongN val P.vars cq am ok [] (ns.take (i + 1))) ∧ (wrongN val P.vars cq am ok [] (ns.take (i + 1))).length ≤ (i + 1) * 1000000) := by
              rw [HS2.out]
              have := HK.out
              rw [List.take_of_length_le (by rw [HY.out]; exact Nat.le_refl _)] at this
              refine ⟨this.1, ?_⟩
              have := this.2
              omega
            clear HK HS2 HU2 HD3
            go_wp2_with fail
            exact ⟨⟨i + 1, hlt, by simp, HF⟩, by simp [intOf]; omega⟩
      · rw [hok] at EV
        have HF : Hid (wrongN val P.vars cq am ok [] (ns.take (i + 1)) = acc) := by
          have := HS.out
          rw [hok] at this
          exact this
        go_wp2_with (first | (go_at_call 91; refine EV.mono ?_; rintro e w4 ⟨rfl, B4⟩))
        refine ⟨⟨i + 1, hlt, by simp, ?_⟩, by simp [intOf]; omega⟩
        rw [HF.out]
        exact ⟨HU.out.2.2.below B4, Nat.le_trans hacl (Nat.mul_le_mul_right _ (Nat.le_succ _))⟩
    · have di : decide ((i : Int) < (n : Int)) = false := decide_eq_false (by omega)
      obtain rfl : i = n := by omega
      have HF : Hid (TS w wr u9 (wrongN val P.vars cq am ok [] ns)) := by
        have := HJ.out.1
        rw [List.take_of_length_le (by rw [HN.out]; exact Nat.le_refl _)] at this
        exact this
      clear HJ HD
      go_wp2_with fail
      go_ret
      exact ⟨_, rfl, HF.out.1, HF.out.2⟩
end Go.Proofs.YtlehlgipbhfioaaGreat

namespace Go.Proofs.YtlehlgipbhfioaaGreat
open Go.RowKit Go.Maps

theorem Kept.far {D D1 : Nat → Prop} {w w1 W : World} (h : Kept D w w1) (k : Kept D1 w1 W) (hD : ∀ j, D1 j → D j ∨ w.heap.size ≤ j) : Kept D w W :=
  ⟨k.os.trans h.os, k.tape.trans h.tape, k.output.trans h.output, Nat.le_trans h.size k.size, fun j hj hn => (k.block j (Nat.lt_of_lt_of_le hj h.size) (fun e => (hD j e).elim hn (fun e => absurd hj (by omega)))).trans (h.block j hj hn)⟩
/-- What holds whatever is done to the blocks of D. -/
def Stab (D : Nat → Prop) (W : World) (Φ : World → Prop) : Prop := ∀ W', Kept D W W' → Φ W'
theorem Stab.step {D D1 : Nat → Prop} {w w1 : World} {Φ : World → Prop} (h : Stab D w Φ) (K : Kept D w w1) (hD : ∀ j, D1 j → D j ∨ w.heap.size ≤ j) : Stab D1 w1 Φ := fun W k => h W (K.far k hD)
/-- A formula's six cells. -/
structure Sx where
  op : Int
  x : Int
  y : Int
  ka : Option Addr
  kn : Nat
  kc : Nat
  au : Value
  cu : Value
def sxL (g : Sx) : List Value := [.int .i64 g.op, .int .i64 g.x, .int .i64 g.y, .slice g.ka g.kn g.kc, g.au, g.cu]
theorem sxL_at : ∀ (gs : List Sx) (i j : Nat), j < 6 → (gs.flatMap sxL)[i * 6 + j]? = (gs[i]?).bind fun g => (sxL g)[j]?
  | [], i, j, _ => by simp
  | g :: gs, 0, j, hj => by
    rw [List.flatMap_cons, List.getElem?_append_left (by simp [sxL]; omega)]
    simp
  | g :: gs, i + 1, j, hj => by
    rw [List.flatMap_cons, List.getElem?_append_right (by simp [sxL]; omega), show (i + 1) * 6 + j - (sxL g).length = i * 6 + j by simp [sxL]; omega, sxL_at gs i j hj]
    rfl
/-- The parts of a formula. -/
def SxOk (W : World) (N : Nat) (g : Sx) (fm : Fm) : Prop := ∃ f : Fo, FIs W (.agg #[.int .i64 g.op, .int .i64 g.x, .int .i64 g.y, .slice g.ka g.kn g.kc]) f ∧ (szF f ≤ 1048576 ∧ RF f) ∧ (∀ e, fm.ev e = evE N e f) ∧ PsAt W g.au fm.am ∧ ∃ ca cc, g.cu = .slice ca fm.cs.length cc ∧ CssAt W ca fm.cs
def Dq (pb vb kb : Nat) (lv fv : Value) (k : Nat) : Prop := PD pb vb kb lv k ∨ fv.ownBlock = some k
/-- A problem with its formulas. -/
structure Np (Φ : World → Prop) (B : Nat) (S : Nat → Prop) (W : World) (pb vb kb : Nat) (bk tv fv lv : Value) (P : Pb) (N : Nat) (fs : List Fm) (gs : List Sx) : Prop where
  pm : Pm S W pb vb kb bk tv fv lv P
  low : ∀ k, Dq pb vb kb lv fv k → B ≤ k
  row : W.ownsRow B 172 6 fv gs.length (gs.flatMap sxL)
  len : gs.length = fs.length
  parts : Stab (Dq pb vb kb lv fv) W fun W' => (∀ (n : Nat) (fm : Fm) (g : Sx), fs[n]? = some fm → gs[n]? = some g → SxOk W' N g fm) ∧ Φ W'
theorem Pm.pdlt {S : Nat → Prop} {W : World} {pb vb kb : Nat} {bk tv fv lv : Value} {P : Pb} (h : Pm S W pb vb kb bk tv fv lv P) {k : Nat} (hk : PD pb vb kb lv k) : k < W.heap.size := by
  obtain ⟨es, ck, e1⟩ := h.vars.lt
  obtain ⟨es', ck', e2⟩ := h.known.lt
  obtain ⟨rs, r1, _⟩ := h.rows
  rcases hk with rfl | rfl | rfl | e
  · exact h.cells.lt
  · exact (Array.getElem?_eq_some_iff.1 e1).1
  · exact (Array.getElem?_eq_some_iff.1 e2).1
  · exact (ownsRow_lt r1 e).2
theorem Pm.pdne {S : Nat → Prop} {W : World} {pb vb kb : Nat} {bk tv fv lv : Value} {P : Pb} (h : Pm S W pb vb kb bk tv fv lv P) {base size n : Nat} {t : TypeId} {v : Value} {xs : List Value} (hr : W.ownsRow base t size v n xs) (h1 : 118 ≠ t) (h2 : t ≠ 39) {k : Nat} (hv : v.ownBlock = some k) : ¬ PD pb vb kb lv k := by
  obtain ⟨es, ck, e1⟩ := h.vars.lt
  obtain ⟨es', ck', e2⟩ := h.known.lt
  obtain ⟨rs, r1, _⟩ := h.rows
  rintro (rfl | rfl | rfl | e)
  · exact rowIs_type h.cells h1 hr hv
  · exact down_map hr e1 hv
  · exact down_map hr e2 hv
  · exact ownsRow_neC hr r1 h2 hv e
theorem Rw.pdne {S : Nat → Prop} {W : World} {pb vb kb : Nat} {bk tv fv lv : Value} {P : Pb} (h : Pm S W pb vb kb bk tv fv lv P) {g : Nat} {c : List Int} (hr : Rw W g c) : ¬ PD pb vb kb lv g := by
  obtain ⟨es, ck, e1⟩ := h.vars.lt
  obtain ⟨es', ck', e2⟩ := h.known.lt
  obtain ⟨rs, r1, _⟩ := h.rows
  rintro (e | e | e | e)
  · exact hr.nerow h.cells (by decide) e
  · exact hr.nemap e1 e
  · exact hr.nemap e2 e
  · exact hr.neown r1 (by decide) e
theorem RowN.rw {W : World} {g : Nat} {xs : List Nat} (h : RowN W g xs) : Rw W g (xs.map fun n : Nat => (n : Int)) := by
  refine ⟨xs.length, fun i => (xs.map i64)[i]?.getD undef, by simp, ⟨_, h, by simp, fun i hi => ?_⟩, fun j c hj => ?_⟩
  · simp only
    rw [List.getElem?_toArray, List.getElem?_eq_getElem (by simpa using hi)]
    rfl
  · simp only
    rw [List.getElem?_map] at hj ⊢
    cases hx : xs[j]? with
    | none => rw [hx] at hj; cases hj
    | some x =>
      rw [hx] at hj
      cases hj
      rfl
theorem Np.fms {Φ : World → Prop} {B : Nat} {S : Nat → Prop} {W : World} {pb vb kb : Nat} {bk tv fv lv : Value} {P : Pb} {N : Nat} {fs : List Fm} {gs : List Sx} (h : Np Φ B S W pb vb kb bk tv fv lv P N fs gs) (W' : World) (K : Kept (PD pb vb kb lv) W W') : FmsAt W' N fv fs := by
  have hr : W'.ownsRow B 172 6 fv gs.length (gs.flatMap sxL) := ownsRow_blk h.row (fun b hb => K.block b (ownsRow_lt h.row hb).2 (h.pm.pdne h.row (by decide) (by decide) hb))
  obtain ⟨a, c, rfl⟩ := ownsRow_form hr
  refine ⟨a, c, by rw [h.len], fun n fm hn => ?_⟩
  have hng : n < gs.length := by rw [h.len]; exact (List.getElem?_eq_some_iff.1 hn).1
  have hg := List.getElem?_eq_getElem hng
  obtain ⟨f, q1, q2, q3, q4, q5⟩ := (h.parts W' (K.mono fun k _ e => Or.inl e)).1 n fm _ hn hg
  rcases id hr.2 with ⟨e, h0⟩ | ⟨b, cap, cur, e, _⟩
  · rw [h0] at hng; cases hng
  · cases e
    refine ⟨b, 0, rfl, gs[n].op, gs[n].x, gs[n].y, gs[n].ka, gs[n].kn, gs[n].kc, gs[n].au, gs[n].cu, f, ?_, q1, q2, q3, q4, q5⟩
    have hc : ∀ j, j < 6 → W'.cell? ⟨b, 0 + n * 6 + j, none⟩ = (sxL gs[n])[j]? := fun j hj => by
      rw [Nat.zero_add, hr.cellAt (n * 6 + j) (by omega), sxL_at gs n j hj, hg]
      rfl
    exact ⟨hc 0 (by omega), hc 1 (by omega), hc 2 (by omega), hc 3 (by omega), hc 4 (by omega), hc 5 (by omega)⟩
/-- add in its loops: the problem, the names, the atoms so far. -/
structure AdI (S : Nat → Prop) (w : World) (S' : Nat → Prop) (W : World) (pb vb kb : Nat) (bk tv fv lv lv' : Value) (P : Pb) (nb : Nat) (nm : List Nat) (v : Value) (am : List Pr) : Prop where
  pm : Pm S' W pb vb kb bk tv fv lv' P
  new : ∀ k, S' k → S k ∨ w.heap.size ≤ k
  kept : Kept (fun k => PD pb vb kb lv k ∨ k = nb) w W
  at_ : lv'.ownBlock = lv.ownBlock ∨ ∀ k, lv'.ownBlock = some k → w.heap.size ≤ k
  nms : RowN W nb nm
  ats : W.ownsRow w.heap.size 34 2 v am.length (rowP am)
theorem AdI.below {S : Nat → Prop} {w : World} {S' : Nat → Prop} {W W' : World} {pb vb kb : Nat} {bk tv fv lv lv' : Value} {P : Pb} {nb : Nat} {nm : List Nat} {v : Value} {am : List Pr} (h : AdI S w S' W pb vb kb bk tv fv lv lv' P nb nm v am) (hB : Below W.heap.size W W') : AdI S w S' W' pb vb kb bk tv fv lv lv' P nb nm v am :=
  ⟨h.pm.below hB, h.new, h.kept.under hB, h.at_, (hB.block nb (Array.getElem?_eq_some_iff.1 h.nms).1).trans h.nms, ownsRow_below h.ats hB⟩
theorem AdI.pd {S : Nat → Prop} {w : World} {S' : Nat → Prop} {W : World} {pb vb kb : Nat} {bk tv fv lv lv' : Value} {P : Pb} {nb : Nat} {nm : List Nat} {v : Value} {am : List Pr} (h : AdI S w S' W pb vb kb bk tv fv lv lv' P nb nm v am) (k : Nat) (hk : PD pb vb kb lv' k) : PD pb vb kb lv k ∨ w.heap.size ≤ k := by
  rcases hk with e | e | e | e
  · exact Or.inl (Or.inl e)
  · exact Or.inl (Or.inr (Or.inl e))
  · exact Or.inl (Or.inr (Or.inr (Or.inl e)))
  · rcases h.at_ with e1 | e1
    · exact Or.inl (Or.inr (Or.inr (Or.inr (e1 ▸ e))))
    · exact Or.inr (e1 k e)
/-- A step of the problem. -/
theorem AdI.step {S : Nat → Prop} {w : World} {S' S2 : Nat → Prop} {W W2 : World} {pb vb kb : Nat} {bk tv fv lv lv' lv2 : Value} {P P2 : Pb} {nb : Nat} {nm : List Nat} {v : Value} {am : List Pr} (h : AdI S w S' W pb vb kb bk tv fv lv lv' P nb nm v am) (x : PmX S' W S2 W2 pb vb kb bk tv fv lv' lv2 P2) : AdI S w S2 W2 pb vb kb bk tv fv lv lv2 P2 nb nm v am := by
  have z := h.kept.size
  refine ⟨x.is, fun k hk => (x.new k hk).elim (h.new k) (fun e => Or.inr (Nat.le_trans z e)), h.kept.far x.kept (fun k hk => (h.pd k hk).imp Or.inl id), ?_, (x.kept.block nb (Array.getElem?_eq_some_iff.1 h.nms).1 (Rw.pdne h.pm h.nms.rw)).trans h.nms, ownsRow_blk h.ats (fun b hb => x.kept.block b (ownsRow_lt h.ats hb).2 (h.pm.pdne h.ats (by decide) (by decide) hb))⟩
  rcases x.at_ with e | e
  · rw [e]; exact h.at_
  · exact Or.inr (fun k hk => Nat.le_trans z (e k hk))
/-- A name more. -/
theorem AdI.name {S : Nat → Prop} {w : World} {S' : Nat → Prop} {W : World} {pb vb kb : Nat} {bk tv fv lv lv' : Value} {P : Pb} {nb : Nat} {nm : List Nat} {v : Value} {am : List Pr} (h : AdI S w S' W pb vb kb bk tv fv lv lv' P nb nm v am) (hn : nb < w.heap.size) (hS : ∀ k, S k → k ≠ nb) (j x : Nat) : AdI S w S' (W.setCell ⟨nb, j, none⟩ (.int .i64 (x : Int))) pb vb kb bk tv fv lv lv' P nb (nm.set j x) v am := by
  have K : Kept1 nb W (W.setCell ⟨nb, j, none⟩ (.int .i64 (x : Int))) := Kept1.set (Kept.refl _ _) j _
  have hr := h.nms.rw
  have hne := Rw.pdne h.pm hr
  have hbk : ∀ k, PD pb vb kb lv' k → (W.setCell ⟨nb, j, none⟩ (.int .i64 (x : Int))).heap[k]? = W.heap[k]? := fun k hk => K.block k (h.pm.pdlt hk) (fun e => hne (e ▸ hk))
  refine ⟨h.pm.keep K.size (hbk _ (Or.inl rfl)) (hbk _ (Or.inr (Or.inl rfl))) (hbk _ (Or.inr (Or.inr (Or.inl rfl)))) (fun b hb => hbk b (Or.inr (Or.inr (Or.inr hb)))) (fun g c hg hc => K.block g hc.lt (fun e => ?_)), h.new, h.kept.far K (fun k hk => Or.inl (Or.inr hk)), h.at_, h.nms.set j x, ownsRow_blk h.ats (fun b hb => K.block b (ownsRow_lt h.ats hb).2 (fun e => ?_))⟩
  · rcases h.new g hg with e1 | e1
    · exact hS g e1 e
    · omega
  · exact hr.neown h.ats (by decide) (e ▸ hb)
/-- An atom more. -/
theorem AdI.push {S : Nat → Prop} {w : World} {S' : Nat → Prop} {W W1 w8 : World} {pb vb kb : Nat} {bk tv fv lv lv' : Value} {P : Pb} {nb : Nat} {nm : List Nat} {v v8 : Value} {am am8 : List Pr} (h : AdI S w S' W pb vb kb bk tv fv lv lv' P nb nm v am) (hB : Below W.heap.size W W1) (hown : w8.ownsRow w.heap.size 34 2 v8 am8.length (rowP am8)) (hgrow : W1.grownBy w8 v.ownBlock) : AdI S w S' w8 pb vb kb bk tv fv lv lv' P nb nm v8 am8 := by
  have h1 := h.below hB
  have K : Kept (fun k => v.ownBlock = some k) W1 w8 := Kept.grown (Kept.refl _ W1) hgrow (fun k e => e)
  have hr := h1.nms.rw
  have hbk : ∀ k, PD pb vb kb lv' k → w8.heap[k]? = W1.heap[k]? := fun k hk => K.block k (h1.pm.pdlt hk) (fun e => h1.pm.pdne h1.ats (by decide) (by decide) e hk)
  exact ⟨h1.pm.keep K.size (hbk _ (Or.inl rfl)) (hbk _ (Or.inr (Or.inl rfl))) (hbk _ (Or.inr (Or.inr (Or.inl rfl)))) (fun b hb => hbk b (Or.inr (Or.inr (Or.inr hb)))) (fun g c hg hc => K.block g hc.lt (fun e => hc.neown h1.ats (by decide) e)), h1.new, h1.kept.far K (fun k hk => Or.inr (ownsRow_lt h1.ats hk).1), h1.at_, (K.block nb (Array.getElem?_eq_some_iff.1 h1.nms).1 (fun e => hr.neown h1.ats (by decide) e)).trans h1.nms, hown⟩
end Go.Proofs.YtlehlgipbhfioaaGreat
