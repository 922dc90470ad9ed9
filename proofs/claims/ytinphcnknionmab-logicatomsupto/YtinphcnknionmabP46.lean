/- LogicEvals: what came in, and its walk up to the loop. The document's Atoms. -/
import Derived.Test.YtinphcnknionmabFoR
import Derived.Test.YtinphcnknionmabGvB
import Derived.Test.YtinphcnknionmabP18
import Derived.Test.YtinphcnknionmabP45
import Derived.Test.YtinphcnknionmabP19
import Derived.Test.YtinphcnknionmabFoB
import Derived.Test.YtinphcnknionmabLoY
namespace Go.Proofs.Ytinphcnknionmab
open Go.ChangeShapes Go.WideShapes Go.ChangeAt Go.RowKit Go.Deep Go.Maps

set_option maxRecDepth 100000 in
theorem ints_at5 {H : Type} {enc : TypeId × Value → H} {W : World} {base : Nat} {spare : Nat → Bool} {held : Bool} {a : Option Addr} {len cap : Nat} {d : DataW H} {p : List MemPlace}
    (h : DataW.Trod enc Try.prog W base spare held 27 (.slice a len cap) d p) : ∃ cls : List Int, cls.length = len ∧ ClsAt W a cls ∧ len ≤ Rows.uptoBulk d ∧ (a = none → cls = [] ∧ cap = 0) := by
  obtain ⟨fuel, hf⟩ := h
  rcases open_slice1 Try.underlying27 cellsRI hf with ⟨hcs, _⟩ | ⟨x, l, c, m, n, V, D, Pl, hcs, _, hl, hm, hmm, hd, hx⟩
  · simp [Value.cells] at hcs
    obtain ⟨rfl, rfl, rfl⟩ := hcs
    exact ⟨[], rfl, Or.inl rfl, Nat.zero_le _, fun _ => ⟨rfl, rfl⟩⟩
  · simp [Value.cells] at hcs
    obtain ⟨rfl, rfl, rfl⟩ := hcs
    have hlm : len ≤ m := by rw [hmm]; split <;> omega
    have hbk : len ≤ Rows.uptoBulk d := by
      have hd1 : d = .slice ((List.range len).map D) ((List.range (m - len)).map fun j => D (len + j)) := (Prod.mk.inj hd).1
      rw [hd1]
      simp only [Rows.uptoBulk]
      have : ∀ l : List (DataW H), l.length ≤ Rows.uptoBulkAll l := by
        intro l
        induction l with
        | nil => simp
        | cons x r ih =>
          simp only [Rows.uptoBulkAll, List.length_cons]
          have : 1 ≤ Rows.uptoBulk x := by
            cases x with
            | lit l => cases l <;> simp [Rows.uptoBulk]
            | nil => simp [Rows.uptoBulk]
            | ptr d => simp [Rows.uptoBulk]
            | slice elems spare => simp [Rows.uptoBulk]
            | agg parts => simp [Rows.uptoBulk]
            | iface t d => simp [Rows.uptoBulk]
            | map entries => simp [Rows.uptoBulk]
            | held h => simp [Rows.uptoBulk]
          omega
      have := this ((List.range len).map D)
      simp at this
      omega
    have each : ∀ i, i < len → ∃ z : Int, W.cell? (x.add i) = some (.int .i64 z) := by
      intro i hi
      obtain ⟨h1, h2⟩ := hx i (by omega)
      obtain ⟨z, e, _, _⟩ := DataW.trod_int Try.underlying3 h2
      simp at e
      exact ⟨z, by rw [h1, e]⟩
    obtain ⟨q, hq⟩ := choose_lt each
    refine ⟨(List.range len).map q, by simp, ?_, hbk, ?_⟩
    · by_cases h0 : len = 0
      · subst h0; exact Or.inl rfl
      · obtain ⟨xb, xo, xs⟩ := x
        have hsp : xs = none := by
          have := World.cell?_spot (hq 0 (by omega))
          simpa [Addr.add] using this
        subst hsp
        refine Or.inr ⟨xb, xo, rfl, fun j c hj => ?_⟩
        have hj' : j < len := by
          have := (List.getElem?_eq_some_iff.1 hj).1
          simpa using this
        have hc : c = q j := by simp [hj'] at hj; exact hj.symm
        subst hc
        have := hq j hj'
        rw [add_plain] at this
        exact this
    · intro h; cases h

theorem infoIntL : (Try.prog.info? 3).map (fun i => (i.zero, i.size, i.bytes)) = some (some (.int .i64 0), 1, 8) := by kernel_rfl
def clsC (l : List Int) : List Value := l.map fun c => Value.int .i64 c

/-- append(nil, classes...): a copy. -/
theorem app_copy (w : World) (ty : TypeId) (ca : Option Addr) (cc : Nat) (cls : List Int) (hc : ClsAt w ca cls) (hcl : cls.length ≤ 1048576) (hca : ca = none → cls = [] ∧ cc = 0) :
    ∃ ob oc w', (Builtin.append_ #[27, 27] ty #[.slice none 0 0, .slice ca cls.length cc]).run Try.prog w = .ok (.slice ob cls.length oc) w' ∧ ClsAt w' ob cls ∧ Below w.heap.size w w' ∧ cls.length ≤ oc := by
  cases ca with
  | none =>
    obtain ⟨rfl, rfl⟩ := hca rfl
    refine ⟨none, 0, w, ?_, Or.inl rfl, Below.refl _ _, Nat.le_refl _⟩
    simp [Builtin.append_, run_underlying Try.underlying27, go_sem, Result.andThen]
  | some ad =>
    obtain ⟨i0, hi0, hz0, hz1, hz2⟩ := info_parts infoIntL
    have hnews : ∀ j u, (clsC cls)[j]? = some u → w.cell? (ad.add j) = some u := by
      intro j u hj
      simp only [clsC, List.getElem?_map] at hj
      obtain ⟨c, hj', rfl⟩ := Option.map_eq_some_iff.1 hj
      clear hj
      rcases hc with e | ⟨g, off, h1, h2⟩
      · rw [e] at hj'; simp at hj'
      · simp at h1
        subst h1
        rw [add_plain]
        exact h2 j c hj'
    obtain ⟨v', w', hr, h2, h3, _, _⟩ := run_append_own_at (P := Try.prog) w w.heap.size 27 ty 3 i0 (.int .i64 0) 1 8 Try.underlying27 hi0 hz0 hz1 hz2 rfl (by decide) (.slice none 0 0) 0 [] (World.ownsRow_nil _ _ _ _) ad cls.length cc (clsC cls) (by simp [clsC]) hnews (by
      intro u hu
      obtain ⟨c, _, rfl⟩ := List.mem_map.1 hu
      rfl) (by unfold maxLen; omega) (by omega) (Nat.le_refl _)
    rw [Nat.zero_add, List.nil_append] at h2
    have hB : Below w.heap.size w w' := ⟨h3.os, h3.tape, h3.output, h3.size, fun k hk => h3.block k hk (by simp [Value.ownBlock])⟩
    rcases h2.2 with ⟨e, h0⟩ | ⟨g, cap, cur, e, e1, e2, e3, _⟩
    · have hn : cls = [] := List.length_eq_zero_iff.1 h0
      subst hn
      exact ⟨none, 0, w', by rw [hr, e]; rfl, Or.inl rfl, hB, Nat.le_refl _⟩
    · subst e
      have hcell := h2.cellAt
      refine ⟨some ⟨g, 0, none⟩, cap, w', hr, Or.inr ⟨g, 0, rfl, fun j c hj => ?_⟩, hB, e3⟩
      have := hcell j (by have := (List.getElem?_eq_some_iff.1 hj).1; simpa using this)
      rw [Nat.zero_add, this]
      simp [clsC, hj]

/-- A call of a builtin by what it comes to. -/
theorem wpList_append_eq {P : Program} (w : World) {ops : Array Oper} {rest : List Oper} {o : Oper} {a : Act} {Q : Exit → Act → World → Prop} (hgd : o.guard = none) (s x : Operand) (t : TypeId)
    (ho : o.op = .call { callee := .builtin .append, args := #[s, x], argTypes := #[t, t] }) (v u v' : Value) (hs : a.eval s = v) (hx : a.eval x = u) (w' : World) (hr : (Builtin.append_ #[t, t] o.type #[v, u]).run P w = .ok v' w') (h : wpList P ops Q rest (a.put o.dst v') w') :
    wpList P ops Q (o :: rest) a w := by
  refine wpList_plain hgd fun K hK => ?_
  unfold Oper.wp execOp
  simp only [ho, resolve, invoke, builtin, Sem.run_bind, Sem.run_pure, Result.andThen_ok, List.map_toArray, List.map_cons, List.map_nil, hs, hx, hr]
  exact hK _ _ h

theorem FB.new' (W : World) (op x y : Int) (kv : Value) : FB (W.alloc (.cells #[.int .i64 op, .int .i64 x, .int .i64 y, kv] 26)) W.heap.size op x y kv := by
  have hn := made_row W #[.int .i64 op, .int .i64 x, .int .i64 y, kv] 26
  exact ⟨hn.cell (i := 0) (by simp), hn.cell (i := 1) (by simp), hn.cell (i := 2) (by simp), hn.cell (i := 3) (by simp)⟩
theorem LayA.layC {A : Nat → Prop} {W : World} {t : Lf} (h : LayA A W t) : LayC W t := by
  induction h with
  | mk _ hc hk _ ih => exact .mk hc.c0 hc.c1 hc.c2 hc.c3 hk ih
theorem szd_er {u : Lf} (h : Szd u) : ∀ t : Lf, t.er = u.er → Szd t := by
  induction h with
  | mk hn _ ih =>
    intro t ht
    obtain ⟨b, o, op, x, y, kv, kids⟩ := t
    rename_i b2 o2 op2 x2 y2 kv2 kids2 _
    rw [Lf.er, Lf.er] at ht
    injection ht with _ _ _ hm
    have hl : kids.length = kids2.length := by have := congrArg List.length hm; simpa using this
    refine .mk (by omega) (fun k hk => ?_)
    have hm1 : k.er ∈ kids.map Lf.er := List.mem_map.2 ⟨k, hk, rfl⟩
    rw [hm] at hm1
    obtain ⟨k2, hk2, e2⟩ := List.mem_map.1 hm1
    exact ih k2 hk2 k e2.symm

/-- law05's Same of a Form of the program's and the document's. -/
theorem same5_in (w : World) (v : Value) (f : Fo) (hv : FIs w v f) (u : Lf) (hu : u.er = f) (hs : Szd u) (hk : KidsIn u.kv u.kids) (hks : ∀ k ∈ u.kids, LayC w k) :
    Calls Try.prog 8 #[v, .agg #[.int .i64 u.op, .int .i64 u.x, .int .i64 u.y, u.kv]] w fun e w' => e = .returned (.bool true) ∧ Below w.heap.size w w' := by
  obtain ⟨op, x, y, kv, kids, rfl, h1, h2, h3⟩ := hv
  have he : (Lf.mk 0 0 op x y kv kids).er = u.er := by rw [Lf.er, hu, h3]
  exact smt (.mk 0 0 op x y kv kids) u w he (szd_er hs _ he) h1 (fun k hkk => (h2 k hkk).layC) hk hks

end Go.Proofs.Ytinphcnknionmab

namespace Go.Proofs.Ytinphcnknionmab
open Go.RowKit Go.Maps

/-- Each once, behind some others. -/
def atsG (l0 l : List (Int × Int)) : List (Int × Int) := l.foldl (fun acc p => if p ∈ acc then acc else acc ++ [p]) l0
theorem atsG_nil (l : List (Int × Int)) : atsG [] l = ats l := rfl
theorem atsG_app (l0 a b : List (Int × Int)) : atsG l0 (a ++ b) = atsG (atsG l0 a) b := by simp [atsG, List.foldl_append]
theorem atsG_len (l : List (Int × Int)) : ∀ l0, (atsG l0 l).length ≤ l0.length + l.length := by
  induction l with
  | nil => intro l0; simp [atsG]
  | cons p l ih =>
    intro l0
    have h := ih (if p ∈ l0 then l0 else l0 ++ [p])
    have e : atsG l0 (p :: l) = atsG (if p ∈ l0 then l0 else l0 ++ [p]) l := rfl
    rw [e]
    refine Nat.le_trans h ?_
    split <;> simp <;> omega

theorem pairC_len (l : List (Int × Int)) : (pairC l).length = l.length * 2 := by
  induction l with
  | nil => rfl
  | cons c cs ih => simp [pairC, List.flatMap_cons] at ih ⊢; omega
theorem pairC_at (l : List (Int × Int)) (i : Nat) : (pairC l)[i * 2]? = (l[i]?).map (fun p => Value.int .i64 p.1) ∧ (pairC l)[i * 2 + 1]? = (l[i]?).map (fun p => Value.int .i64 p.2) := by
  induction l generalizing i with
  | nil => simp [pairC]
  | cons t l ih =>
    cases i with
    | zero => simp [pairC]
    | succ i =>
      have e : (i + 1) * 2 = (i * 2) + 1 + 1 := by omega
      have h := ih i
      unfold pairC at h ⊢
      rw [List.flatMap_cons, e]
      simpa using h

theorem row_cells {W : World} {base : Nat} {ty : TypeId} {v : Value} {l : List (Int × Int)} (h : W.ownsRow base ty 2 v l.length (pairC l)) {i : Nat} {p : Int × Int} (hi : l[i]? = some p) :
    ∃ g cap, v = .slice (some ⟨g, 0, none⟩) l.length cap ∧ base ≤ g ∧ l.length ≤ cap ∧ W.cell? ⟨g, i * 2, none⟩ = some (.int .i64 p.1) ∧ W.cell? ⟨g, i * 2 + 1, none⟩ = some (.int .i64 p.2) := by
  have hlt := (List.getElem?_eq_some_iff.1 hi).1
  rcases h.2 with ⟨e, h0⟩ | ⟨g, cap, cur, e, e1, e2, e3, e4, e5, e6⟩
  · omega
  · have get : ∀ j u, (pairC l)[j]? = some u → cur[j]? = some u := fun j u hu => by
      rw [← e6, List.getElem?_take] at hu
      split at hu
      · simpa using hu
      · cases hu
    obtain ⟨h1, h2⟩ := pairC_at l i
    rw [hi] at h1 h2
    refine ⟨g, cap, e, e1, e3, ?_, ?_⟩
    · simp only [World.cell?, e2]; exact get _ _ h1
    · simp only [World.cell?, e2]; exact get _ _ h2

def RAt (t : Lf) : Prop := ∀ (w0 w : World) (B : Nat) (v : Value) (l : List (Int × Int)), Sml t → w0.heap.size ≤ B → Below B w0 w → KidsIn t.kv t.kids → (∀ k ∈ t.kids, LayC w0 k) → w.ownsRow B 23 2 v l.length (pairC l) → l.length + (eqF t.er).length ≤ 1048576 → B ≤ w.heap.size →
  Calls Try.prog 12 #[.agg #[.int .i64 t.op, .int .i64 t.x, .int .i64 t.y, t.kv], v] w fun e w' => ∃ v', e = .returned v' ∧ w'.ownsRow B 23 2 v' (atsG l (eqF t.er)).length (pairC (atsG l (eqF t.er))) ∧ Kept (fun k => v.ownBlock = some k) w w' ∧ (v'.ownBlock = v.ownBlock ∨ ∀ k, v'.ownBlock = some k → w.heap.size ≤ k)

theorem infoRP : (Try.prog.info? 23).map (fun i => (i.zero, i.size, i.bytes)) = some (some (.agg #[.int .i64 0, .int .i64 0]), 2, 16) := by kernel_rfl

end Go.Proofs.Ytinphcnknionmab
