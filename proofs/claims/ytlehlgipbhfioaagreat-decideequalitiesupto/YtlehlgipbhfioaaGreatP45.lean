/- Package decide: steps, its state. Package logic: fold over literals: what it goes round with. Package logic: what Eval makes of a Form. Package logic: Eval. Package logic: what a formula comes to, by what it is alone. Package logic: Show, Eval, Atoms of a Form, by what it is. Package logic: Clauses. -/
import Derived.Test.YtlehlgipbhfioaaGreatP43
import Derived.Test.YtlehlgipbhfioaaGreatMkC
import Derived.Test.YtlehlgipbhfioaaGreatLoR
import Derived.Test.YtlehlgipbhfioaaGreatP30
import Derived.Deep.RegionWith
import Derived.Test.YtlehlgipbhfioaaGreatP34
import Derived.Test.YtlehlgipbhfioaaGreatP28
namespace Go.Proofs.YtlehlgipbhfioaaGreat
open Go.RowKit Go.Maps

theorem run_copy_none2 {P : Program} (w : World) (dT sT ty elem : TypeId) (d a : Option Addr) (dLen dCap sLen sCap : Nat) (hu : P.underlying dT = some (.slice elem)) (hs : (P.info? elem).map (·.size) = some 2) (hn : Nat.min sLen dLen = 0) :
    (Builtin.copy_ #[dT, sT] ty #[.slice d dLen dCap, .slice a sLen sCap]).run P w = .ok (goInt 0) w := by
  cases hq : P.info? elem with
  | none => simp [hq] at hs
  | some i =>
    have hl : ∀ (x : Addr), (loadCells x 0).run P w = .ok #[] w := fun x => by simpa using run_loadCells_list (P := P) w x [] (by simp)
    cases d <;> cases a <;> simp [Builtin.copy_, run_underlying hu, Builtin.lenOf, Builtin.firstCells, sizeOf, typeInfo, hq, hn, storeCells, hl]

set_option maxRecDepth 100000 in
set_option maxHeartbeats 400000 in
theorem newStep0_in (w : World) (c : Pr) (pa : Option Addr) (pc : Nat) : Calls Tryz.prog 142 #[.agg #[.int .i64 (c.1 : Int), .int .i64 (c.2 : Int)], .slice pa 0 pc] w fun e w' => e = .returned (.agg (stpV c []).toArray) ∧ Below w.heap.size w w' := by
  have CP : ∀ (W : World) (d : Option Addr), (Builtin.copy_ #[109, 109] 3 #[.slice d 4 4, .slice pa 0 pc]).run Tryz.prog W = .ok (goInt 0) W := fun W d => run_copy_none2 W _ _ _ 34 d pa 4 4 0 pc Tryz.underlying109 infoPq2 rfl
  go_enter Tryz.func142, Tryz.ntmps142
  go_wp2_with fail
  refine ⟨rfl, .agg #[.int .i64 (c.1 : Int), .int .i64 (c.2 : Int), .int .i64 0, .int .i64 0, .int .i64 0, .int .i64 0, .int .i64 0, .int .i64 0, .int .i64 0, .int .i64 0], by simp [results, Tryz.results142, go_sem], rfl, ?_⟩
  exact (((Below.refl w.heap.size w).alloc (Nat.le_refl _) _).alloc (by simp) _).alloc (by simp; omega) _

theorem newStep_all (w : World) (c : Pr) (pa : Option Addr) (pc : Nat) (ps : List Pr) (hp : PsAt w (.slice pa ps.length pc) ps) (h4 : ps.length ≤ 4) : Calls Tryz.prog 142 #[.agg #[.int .i64 (c.1 : Int), .int .i64 (c.2 : Int)], .slice pa ps.length pc] w fun e w' => e = .returned (.agg (stpV c ps).toArray) ∧ Below w.heap.size w w' := by
  by_cases h : ps = []
  · subst h
    exact newStep0_in w c pa pc
  · exact newStep_in w c pa pc ps hp ⟨by cases ps with | nil => exact absurd rfl h | cons a r => simp, h4⟩

def stRow (S : List Stq) : List Value := S.flatMap fun s => stpV s.1 s.2
theorem stRow_app (S T : List Stq) : stRow (S ++ T) = stRow S ++ stRow T := by simp [stRow]
theorem pad4c_len (ps : List Pr) : (pad4c ps).length = 4 := by simp [pad4c]
theorem stpV_len (c : Pr) (ps : List Pr) : (stpV c ps).length = 10 := by simp [stpV, rowP_len, pad4c_len, enP]
theorem stpV_one (c : Pr) (ps : List Pr) : ∀ u ∈ stpV c ps, u.oneCell' = true := fun u hu => by
  simp only [stpV, rowP, List.mem_append, List.mem_flatMap, enP] at hu
  rcases hu with hu | ⟨p, _, hu⟩ <;> simp at hu <;> rcases hu with rfl | rfl <;> rfl
theorem infoStq : (Tryz.prog.info? 206).map (fun i => (i.zero, i.size, i.bytes)) = some (some (.agg #[.int .i64 0, .int .i64 0, .int .i64 0, .int .i64 0, .int .i64 0, .int .i64 0, .int .i64 0, .int .i64 0, .int .i64 0, .int .i64 0]), 10, 80) := by kernel_rfl

/-- steps on its way. -/
structure StR (w W : World) (S : List Stq) (G : List Pr) (sv gv : Value) : Prop where
  srow : W.ownsRow w.heap.size 206 10 sv S.length (stRow S)
  grow : W.ownsRow w.heap.size 34 2 gv G.length (rowP G)
  below : Below w.heap.size w W
theorem StR.under {w W W' : World} {S : List Stq} {G : List Pr} {sv gv : Value} (h : StR w W S G sv gv) (hB : Below W.heap.size W W') : StR w W' S G sv gv :=
  ⟨ownsRow_below h.srow hB, ownsRow_below h.grow hB, h.below.trans (hB.mono h.below.size)⟩
theorem StR.pushS {w W W1 w8 : World} {S : List Stq} {G : List Pr} {sv gv v8 : Value} (h : StR w W S G sv gv) (hB : Below W.heap.size W W1) {c : Pr} {ps : List Pr} (hown : w8.ownsRow w.heap.size 206 10 v8 (S.length + 1) (stRow S ++ stpV c ps)) (hgrow : W1.grownBy w8 sv.ownBlock) : StR w w8 (S ++ [(c, ps)]) G v8 gv := by
  have h1 := h.under hB
  refine ⟨?_, ownsRow_blk h1.grow (fun b hb => hgrow.block b (ownsRow_lt h1.grow hb).2 (fun e => ownsRow_ne2 h1.grow h1.srow (by decide) hb e.symm)), ?_⟩
  · rw [List.length_append, stRow_app]
    simpa [stRow] using hown
  · exact ⟨hgrow.os.trans h1.below.os, hgrow.tape.trans h1.below.tape, hgrow.output.trans h1.below.output, Nat.le_trans h1.below.size hgrow.size, fun k hk => (hgrow.block k (Nat.lt_of_lt_of_le hk h1.below.size) (fun e => by have := (ownsRow_lt h1.srow e.symm).1; omega)).trans (h1.below.block k hk)⟩
theorem StR.addG {w W W' : World} {S : List Stq} {G G' : List Pr} {sv gv gv' : Value} (h : StR w W S G sv gv) (hr : Row1 w.heap.size 34 2 W gv W' gv' G'.length (rowP G')) : StR w W' S G' sv gv' := by
  refine ⟨ownsRow_blk h.srow (fun b hb => hr.kept.block b (ownsRow_lt h.srow hb).2 (fun e => ownsRow_ne2 h.srow h.grow (by decide) hb e)), hr.row, ?_⟩
  exact ⟨hr.kept.os.trans h.below.os, hr.kept.tape.trans h.below.tape, hr.kept.output.trans h.below.output, Nat.le_trans h.below.size hr.kept.size, fun k hk => (hr.kept.block k (Nat.lt_of_lt_of_le hk h.below.size) (fun e => by have := (ownsRow_lt h.grow e).1; omega)).trans (h.below.block k hk)⟩

end Go.Proofs.YtlehlgipbhfioaaGreat

namespace Go.Proofs.YtlehlgipbhfioaaGreat
open Go.RowKit Go.Shelf

def litC (l : List Int) : List Value := l.map fun c => Value.int .i64 c
theorem infoIntF : (Tryz.prog.info? 3).map (fun i => (i.zero, i.size, i.bytes)) = some (some (.int .i64 0), 1, 8) := by kernel_rfl

theorem Mk.ow {S : Nat → Prop} {W W' : World} {B mb ab : Nat} {ps : List (Int × Int)} {rv : Value} {st : Sc} (h : Mk S W mb ab ps rv st) (hO : Ow 335 B W W') (hab : ab < B) : Mk S W' mb ab ps rv st := by
  obtain ⟨rs, h1, h2, h3⟩ := h.rows
  refine ⟨fun k hk => Nat.lt_of_lt_of_le (h.lt k hk) hO.size, h.smb, h.sab, h.srv, hO.rowIs (by decide) h.cells, h.map.keep ?_, rs, hO.ownsRow (by decide) h1, h2, fun i c hi => ?_⟩
  · obtain ⟨es, ck, e⟩ := h.map.lt
    rw [e]
    exact hO.same _ _ e (Or.inl hab)
  · obtain ⟨g, cap, q1, q2, q3⟩ := h3 i c hi
    obtain ⟨N, F, r1, r2, r3⟩ := q3
    exact ⟨g, cap, q1, q2, N, F, r1, hO.rowIs (by decide) r2, r3⟩

/-- What fold goes round with. -/
structure FiAt (w W : World) (t : Lf) (fv v : Value) (mb ab : Nat) (ps : List (Int × Int)) (rv0 : Value) (S0 S : Nat → Prop) (rv : Value) (s : List Int × Sc) : Prop where
  made : MadeX S0 w rv0 S W rv mb ab ps s.2
  lo : mb < w.heap.size ∧ ab < w.heap.size
  here : Here W t
  fn : W.rowIs w.heap.size 229 1 (fun _ => fv)
  box : W.rowIs (w.heap.size + 1) 39 1 (fun _ => v)
  row : W.ownsRow w.heap.size 3 1 v s.1.length (litC s.1)
  sep : ∀ k, S k → k ≠ w.heap.size ∧ k ≠ w.heap.size + 1 ∧ v.ownBlock ≠ some k

theorem MadeX.ow {S S' : Nat → Prop} {w W W' : World} {B mb ab : Nat} {ps : List (Int × Int)} {rv rv' : Value} {st : Sc} (h : MadeX S w rv S' W rv' mb ab ps st) (hO : Ow 335 B W W') (hB : w.heap.size ≤ B) (hab : ab < w.heap.size) : MadeX S w rv S' W' rv' mb ab ps st := by
  refine ⟨h.is.ow hO (by omega), h.new, h.at_, ⟨hO.os.trans h.kept.os, hO.tape.trans h.kept.tape, hO.output.trans h.kept.output, Nat.le_trans h.kept.size hO.size, fun k hk hn => ?_⟩⟩
  have h1 := h.kept.block k hk hn
  rw [← h1]
  cases hh : W.heap[k]? with
  | none =>
    have h2 := Array.getElem?_eq_none_iff.1 hh
    have h3 := h.kept.size
    omega
  | some o => exact hO.same k o hh (Or.inl (by omega))

theorem FiAt.ow {w W W' : World} {B : Nat} {t : Lf} {fv v : Value} {mb ab : Nat} {ps : List (Int × Int)} {rv0 rv : Value} {S0 S : Nat → Prop} {s : List Int × Sc} (h : FiAt w W t fv v mb ab ps rv0 S0 S rv s) (hO : Ow 335 B W W') (hB : w.heap.size ≤ B) : FiAt w W' t fv v mb ab ps rv0 S0 S rv s :=
  ⟨h.made.ow hO hB h.lo.2, h.lo, h.here.keep (hO.fkeep.toA _), hO.rowIs (by decide) h.fn, hO.rowIs (by decide) h.box, hO.ownsRow (by decide) h.row, h.sep⟩

theorem intsAt_drop {W : World} {base : Nat} {g n c m : Nat} {vs : List Int} (h : W.ownsRow base 3 1 (.slice (some ⟨g, 0, none⟩) n c) n (litC vs)) (hn : n = vs.length) (cc : Nat) : IntsAt W (.slice (some ⟨g, m, none⟩) (n - m) cc) (vs.drop m) := by
  refine ⟨_, cc, by rw [List.length_drop, hn], Or.inr ⟨g, m, rfl, fun j b hj => ?_⟩⟩
  rw [List.getElem?_drop] at hj
  have hlt := (List.getElem?_eq_some_iff.1 hj).1
  have := h.cellAt (m + j) (by omega)
  rw [this]
  simp [litC, hj]

/-- One value more, behind some of them. -/
theorem FiAt.push {w W w7 w8 : World} {O : Obj} {t : Lf} {fv v v8 : Value} {mb ab : Nat} {ps : List (Int × Int)} {rv0 rv rv' : Value} {S0 S S' : Nat → Prop} {s : List Int × Sc} {st' : Sc} {m : Nat} {r : Int} (h : FiAt w W t fv v mb ab ps rv0 S0 S rv s) (X : MadeX S W rv S' w7 rv' mb ab ps st') (hm : m ≤ s.1.length) (hown : w8.ownsRow w.heap.size 3 1 v8 (m + 1) ((litC s.1).take m ++ [.int .i64 r])) (hgrow : (w7.alloc O).grownBy w8 v.ownBlock) (hloc : v8.ownBlock = v.ownBlock ∨ ∀ k, v8.ownBlock = some k → (w7.alloc O).heap.size ≤ k) (B : Nat) :
    FiAt w (w8.setCell ⟨w.heap.size + 1, 0, none⟩ v8) t fv v8 mb ab ps rv0 S0 S' rv' (s.1.take m ++ [r], st') ∧ Kr WTy B W (w8.setCell ⟨w.heap.size + 1, 0, none⟩ v8) := by
  have hbt : ∀ k, v.ownBlock = some k → w.heap.size ≤ k ∧ k < W.heap.size ∧ ∃ c, W.heap[k]? = some (Obj.cells c 3 (0, 0)) := fun k hk => by
    rcases h.row.2 with ⟨e, _⟩ | ⟨g, cap, cur, e, e1, e2, _⟩
    · rw [e] at hk; simp [Value.ownBlock] at hk
    · rw [e] at hk
      simp [Value.ownBlock] at hk
      subst hk
      exact ⟨e1, (Array.getElem?_eq_some_iff.1 e2).1, cur, e2⟩
  have hrt : ∀ k, rv.ownBlock = some k → S k ∧ ∃ c, W.heap[k]? = some (Obj.cells c 39 (0, 0)) := fun k hk => by
    refine ⟨h.made.is.srv k hk, ?_⟩
    obtain ⟨rs, h1, _⟩ := h.made.is.rows
    rcases h1.2 with ⟨e, _⟩ | ⟨g, cap, cur, e, e1, e2, _⟩
    · rw [e] at hk; simp [Value.ownBlock] at hk
    · rw [e] at hk
      simp [Value.ownBlock] at hk
      subst hk
      exact ⟨cur, e2⟩
  have hz7 : W.heap.size ≤ w7.heap.size := X.kept.size
  have hz8 : w7.heap.size < w8.heap.size := by have := hgrow.size; simp at this; omega
  have hsz : (w8.setCell ⟨w.heap.size + 1, 0, none⟩ v8).heap.size = w8.heap.size := by simp [World.setCell]
  -- blocks that stay
  have st7 : ∀ k, k < w7.heap.size → v.ownBlock ≠ some k → k ≠ w.heap.size + 1 → (w8.setCell ⟨w.heap.size + 1, 0, none⟩ v8).heap[k]? = w7.heap[k]? := fun k hk h1 h2 =>
    (Below.heap_setCell _ _ _ _ h2).trans ((hgrow.block k (by simp; omega) (fun e => h1 e.symm)).trans (Below.heap_alloc w7 O k hk))
  have st : ∀ k, k < W.heap.size → k ≠ mb → rv.ownBlock ≠ some k → v.ownBlock ≠ some k → k ≠ w.heap.size + 1 → (w8.setCell ⟨w.heap.size + 1, 0, none⟩ v8).heap[k]? = W.heap[k]? := fun k hk h1 h2 h3 h4 =>
    (st7 k (by omega) h3 h4).trans (X.kept.block k hk (by rintro (e | e); exact h1 e; exact h2 e))
  have smb := h.made.is.smb
  have tmb : ∃ c, W.heap[mb]? = some (Obj.cells c 226 (0, 0)) := by obtain ⟨c, hc, _⟩ := h.made.is.cells; exact ⟨c, hc⟩
  have tbx : ∃ c, W.heap[w.heap.size + 1]? = some (Obj.cells c 39 (0, 0)) := by obtain ⟨c, hc, _⟩ := h.box; exact ⟨c, hc⟩
  have nm : ∀ (k : Nat) (o : Obj), W.heap[k]? = some o → (o.isCells = false ∨ OfTy (fun t => t ≠ 3 ∧ t ≠ 39 ∧ t ≠ 226) o) → (w8.setCell ⟨w.heap.size + 1, 0, none⟩ v8).heap[k]? = some o := fun k o hk ho => by
    have no : ∀ {c : Array Value} {ty : TypeId} {fz : Nat × Nat}, W.heap[k]? = some (Obj.cells c ty fz) → (ty = 3 ∨ ty = 39 ∨ ty = 226) → False := fun {c ty fz} hc ht => by
      rw [hk] at hc
      cases hc
      rcases ho with ho | ⟨c', ty', fz', e, e1, e2, e3⟩
      · cases ho
      · cases e
        rcases ht with rfl | rfl | rfl
        · exact e1 rfl
        · exact e2 rfl
        · exact e3 rfl
    refine (st k (Array.getElem?_eq_some_iff.1 hk).1 ?_ ?_ ?_ ?_).trans hk
    · rintro rfl
      obtain ⟨c, hc⟩ := tmb
      exact no hc (Or.inr (Or.inr rfl))
    · intro e
      obtain ⟨_, c, hc⟩ := hrt k e
      exact no hc (Or.inr (Or.inl rfl))
    · intro e
      obtain ⟨_, _, c, hc⟩ := hbt k e
      exact no hc (Or.inl rfl)
    · rintro rfl
      obtain ⟨c, hc⟩ := tbx
      exact no hc (Or.inr (Or.inl rfl))
  have hne : v.ownBlock ≠ some (w.heap.size + 1) := rowIs_type h.box (by decide) h.row
  have hb7 : w7.rowIs (w.heap.size + 1) 39 1 (fun _ => v) := h.box.of_block (X.kept.block _ h.box.lt (by
    rintro (e | e)
    · exact (h.sep mb smb).2.1 e.symm
    · exact (h.sep _ (hrt _ e).1).2.1 rfl))
  have hb8 : w8.rowIs (w.heap.size + 1) 39 1 (fun _ => v) := hb7.of_block ((hgrow.block _ (by simp; have := hb7.lt; omega) (fun e => hne e.symm)).trans (Below.heap_alloc w7 O _ hb7.lt))
  have hne8 : v8.ownBlock ≠ some (w.heap.size + 1) := rowIs_type hb8 (by decide) hown
  have e1 : litC (s.1.take m ++ [r]) = (litC s.1).take m ++ [.int .i64 r] := by simp [litC, List.map_take]
  have e2 : (s.1.take m ++ [r]).length = m + 1 := by simp; omega
  have keepS : ∀ k, S' k → (w8.setCell ⟨w.heap.size + 1, 0, none⟩ v8).heap[k]? = w7.heap[k]? := fun k hk => by
    refine st7 k (X.is.lt k hk) ?_ ?_
    · rcases X.new k hk with e | e
      · exact (h.sep k e).2.2
      · intro e'
        have := (hbt k e').2.1
        omega
    · rcases X.new k hk with e | e
      · exact (h.sep k e).2.1
      · have := h.box.lt
        omega
  refine ⟨⟨⟨X.is.keep (by omega) keepS, fun k hk => ?_, ?_, ?_⟩, h.lo, ?_, ?_, ?_, ?_, fun k hk => ?_⟩, ⟨by omega, fun k o hk ho => nm k o hk (ho.imp (fun x => x.2) ?_)⟩⟩
  · rcases X.new k hk with e | e
    · exact h.made.new k e
    · exact Or.inr (by have := h.made.kept.size; omega)
  · rcases X.at_ with e | e
    · rw [e]; exact h.made.at_
    · exact Or.inr (fun k hk => by have := e k hk; have := h.made.kept.size; omega)
  · have K8 : (w8.setCell ⟨w.heap.size + 1, 0, none⟩ v8).os = w.os ∧ (w8.setCell ⟨w.heap.size + 1, 0, none⟩ v8).tape = w.tape ∧ (w8.setCell ⟨w.heap.size + 1, 0, none⟩ v8).output = w.output := ⟨hgrow.os.trans (X.kept.os.trans h.made.kept.os), hgrow.tape.trans (X.kept.tape.trans h.made.kept.tape), hgrow.output.trans (X.kept.output.trans h.made.kept.output)⟩
    refine ⟨K8.1, K8.2.1, K8.2.2, by have := h.made.kept.size; omega, fun k hk hn => ?_⟩
    have hkW : k < W.heap.size := Nat.lt_of_lt_of_le hk h.made.kept.size
    refine (st k hkW (fun e => hn (Or.inl e)) ?_ ?_ (by omega)).trans (h.made.kept.block k hk hn)
    · intro e
      rcases h.made.at_ with e' | e'
      · exact hn (Or.inr (by rw [← e']; exact e))
      · have := e' k e
        omega
    · intro e
      have := (hbt k e).1
      omega
  · exact h.here.keep (fun k c fz _ hk => nm k _ hk (Or.inr ⟨c, _, fz, rfl, by decide, by decide, by decide⟩))
  · obtain ⟨c, h1, h2⟩ := h.fn
    exact ⟨c, nm _ _ h1 (Or.inr ⟨c, _, _, rfl, by decide, by decide, by decide⟩), h2⟩
  · exact World.rowIs.congr (hb8.set 0 v8) (fun j hj => by
      have : j = 0 := by omega
      subst this; simp)
  · show (w8.setCell ⟨w.heap.size + 1, 0, none⟩ v8).ownsRow w.heap.size 3 1 v8 (s.1.take m ++ [r]).length (litC (s.1.take m ++ [r]))
    rw [e1, e2]
    exact ownsRow_setCell_other hown hne8 v8
  · have hk7 := X.is.lt k hk
    refine ⟨?_, ?_, ?_⟩
    · rcases X.new k hk with e | e
      · exact (h.sep k e).1
      · have := h.fn.lt
        omega
    · rcases X.new k hk with e | e
      · exact (h.sep k e).2.1
      · have := h.box.lt
        omega
    · rcases hloc with e | e
      · rw [e]
        rcases X.new k hk with e' | e'
        · exact (h.sep k e').2.2
        · intro e2
          have := (hbt k e2).2.1
          omega
      · intro e'
        have := e k e'
        simp at this
        omega
  · rintro ⟨c, ty, fz, e, hty⟩
    refine ⟨c, ty, fz, e, ?_⟩
    rcases hty with rfl | rfl | rfl | rfl | rfl <;> exact ⟨by decide, by decide, by decide⟩

end Go.Proofs.YtlehlgipbhfioaaGreat

namespace Go.Proofs.YtlehlgipbhfioaaGreat
open Go.RowKit Go.Shelf

theorem two_of {l : List Bool} (h : l.length = 2) : ∃ p q, l = [p, q] := by
  match l, h with
  | [p, q], _ => exact ⟨p, q, rfl⟩

/-- What a Form comes to, by its Kids. -/
def evG (cls : List Int) (t : Lf) (args : List Bool) : Bool :=
  if whl t = false then false
  else if t.op = 1 then !(args[0]?.getD false)
  else if t.op = 2 then args[0]?.getD false && args[1]?.getD false
  else if t.op = 3 then args[0]?.getD false || args[1]?.getD false
  else if t.op = 4 then !(args[0]?.getD false) || args[1]?.getD false
  else sameC cls t.x t.y

set_option maxRecDepth 100000 in
set_option maxHeartbeats 2000000 in
theorem eval2_in (w : World) (sb bb cb : Nat) (ca : Option Addr) (cn cc : Nat) (cls : List Int) (hs : w.rowIs sb 241 1 (fun _ => .func (.func 134) #[] #[.pointer (some ⟨bb, 0, none⟩), .pointer (some ⟨cb, 0, none⟩)])) (h : Cls w bb cb ca cn cc cls) (t : Lf) (ht : Here w t) (hx : R64 t.x) (hy : R64 t.y) (sv : Value) (args : List Bool) (hA : BoolsAt w sv args) (hl : args.length = t.ks.length) :
    Calls Tryz.prog 136 #[.pointer (some ⟨t.b, t.o, none⟩), sv, .pointer (some ⟨sb, 0, none⟩)] w fun e w' => e = .returned (.bool (evG cls t args)) ∧ Kept0 w w' := by
  have WH := isWhole_in w t ht
  have c0 := ht.cells.c0
  have cx := ht.cells.c1
  have cy := ht.cells.c2
  have cs := hs.cell (i := 0) (by omega)
  have SM : ∀ m, Calls Tryz.prog 134 #[.agg #[.int .i64 t.x, .int .i64 t.y], .pointer (some ⟨bb, 0, none⟩), .pointer (some ⟨cb, 0, none⟩)] (w.drewN m) fun e w' => e = .returned (.bool (sameC cls t.x t.y)) ∧ Kept0 w w' := fun m => (same_in (w.drewN m) bb cb ca cn cc cls ⟨h.bnd, h.cbx, h.len, h.cells, h.small⟩ t.x t.y hx hy).mono (fun _ _ hh => ⟨hh.1, ((Kept.refl _ w).drewN m).trans hh.2⟩)
  obtain ⟨sa, scap, rfl, hargs⟩ := hA
  have K0 : Kept0 w w := Kept.refl _ w
  have KN : ∀ m, Kept0 w (w.drewN m) := fun m => (Kept.refl _ w).drewN m
  have HE : Hid (evG cls t args = _) := evG.eq_1 cls t args
  go_enter Tryz.func136, Tryz.ntmps136
  cases hw : whl t with
  | false =>
    rw [hw] at WH HE
    go_wp2_with (first | (go_at_call 137; refine WH.mono ?_; rintro e w2 ⟨rfl, rfl⟩))
    go_ret
    exact ⟨ret_bool (by rw [HE.out]; simp), K0⟩
  | true =>
    rw [hw] at WH HE
    have hcell : ∀ (j : Nat) (b : Bool), args[j]? = some b → ∃ g off, sa = some ⟨g, off, none⟩ ∧ w.cell? ⟨g, off + j, none⟩ = some (.bool b) := fun j b hj => by
      rcases hargs with e | ⟨g, off, e1, e2⟩
      · rw [e] at hj; simp at hj
      · exact ⟨g, off, e1, e2 j b hj⟩
    have hkl : t.op ≠ 0 → args.length = t.kids.length := fun h0 => by rw [hl]; simp [Lf.ks, h0]
    by_cases h1 : t.op = 1
    · have hk1 : t.kids.length = 1 := by simpa [whl, h1] using hw
      have hal := hkl (by omega)
      obtain ⟨p, rfl⟩ : ∃ p, args = [p] := List.length_eq_one_iff.1 (by omega)
      obtain ⟨g, off, rfl, hc⟩ := hcell 0 p rfl
      rw [h1] at c0
      have hc' : w.cell? ⟨g, off, none⟩ = some (.bool p) := hc
      clear hcell hkl hargs hc cx cy SM cs hl hal hk1
      go_wp2_with (first | (go_at_call 137; refine WH.mono ?_; rintro e w2 ⟨rfl, rfl⟩))
      go_ret
      exact ⟨ret_bool (by rw [HE.out]; simp [h1]), K0⟩
    · have d1 : (t.op == 1) = false := by simpa using h1
      by_cases h2 : t.op = 2
      · clear d1
        have hk2 : t.kids.length = 2 := by simpa [whl, h2] using hw
        have hal := hkl (by omega)
        obtain ⟨p, q, rfl⟩ : ∃ p q, args = [p, q] := two_of (by omega)
        obtain ⟨g, off, rfl, hc⟩ := hcell 0 p rfl
        obtain ⟨g', off', e', hd⟩ := hcell 1 q rfl
        obtain ⟨rfl, rfl⟩ : g = g' ∧ off = off' := by simpa using e'
        rw [h2] at c0
        have hc' : w.cell? ⟨g, off, none⟩ = some (.bool p) := hc
        clear hcell hkl hargs hc cx cy SM cs hl hal hk2 e'
        cases p <;>
          (go_wp2_with (first | (go_at_call 137; refine WH.mono ?_; rintro e w2 ⟨rfl, rfl⟩))
           go_ret
           exact ⟨ret_bool (by rw [HE.out]; simp [h2]), K0⟩)
      · have d2 : (t.op == 2) = false := by simpa using h2
        by_cases h3 : t.op = 3
        · clear d1 d2
          have hk2 : t.kids.length = 2 := by simpa [whl, h3] using hw
          have hal := hkl (by omega)
          obtain ⟨p, q, rfl⟩ : ∃ p q, args = [p, q] := two_of (by omega)
          obtain ⟨g, off, rfl, hc⟩ := hcell 0 p rfl
          obtain ⟨g', off', e', hd⟩ := hcell 1 q rfl
          obtain ⟨rfl, rfl⟩ : g = g' ∧ off = off' := by simpa using e'
          rw [h3] at c0
          have hc' : w.cell? ⟨g, off, none⟩ = some (.bool p) := hc
          clear hcell hkl hargs hc cx cy SM cs hl hal hk2 e'
          cases p <;>
            (go_wp2_with (first | (go_at_call 137; refine WH.mono ?_; rintro e w2 ⟨rfl, rfl⟩))
             go_ret
             exact ⟨ret_bool (by rw [HE.out]; simp [h3]), K0⟩)
        · have d3 : (t.op == 3) = false := by simpa using h3
          by_cases h4 : t.op = 4
          · clear d1 d2 d3
            have hk2 : t.kids.length = 2 := by simpa [whl, h4] using hw
            have hal := hkl (by omega)
            obtain ⟨p, q, rfl⟩ : ∃ p q, args = [p, q] := two_of (by omega)
            obtain ⟨g, off, rfl, hc⟩ := hcell 0 p rfl
            obtain ⟨g', off', e', hd⟩ := hcell 1 q rfl
            obtain ⟨rfl, rfl⟩ : g = g' ∧ off = off' := by simpa using e'
            rw [h4] at c0
            have hc' : w.cell? ⟨g, off, none⟩ = some (.bool p) := hc
            clear hcell hkl hargs hc cx cy SM cs hl hal hk2 e'
            cases p <;>
              (go_wp2_with (first | (go_at_call 137; refine WH.mono ?_; rintro e w2 ⟨rfl, rfl⟩))
               go_ret
               exact ⟨ret_bool (by rw [HE.out]; simp [h4]), K0⟩)
          · have d4 : (t.op == 4) = false := by simpa using h4
            have HE2 : Hid (evG cls t args = sameC cls t.x t.y) := by
              show _ = _
              rw [HE.out]
              simp [h1, h2, h3, h4]
            clear hcell hkl hargs HE
            go_wp2_with (first | (go_at_call 137; refine WH.mono ?_; rintro e w2 ⟨rfl, rfl⟩))
            go_region_with (go_at_call 134; refine (SM 1).mono ?_; rintro e w3 ⟨rfl, K3⟩)
            all_goals
              try simp only [Act.put, List.getElem_toArray, List.getElem_cons_succ, List.getElem_cons_zero, List.setIfInBounds_toArray, List.set_cons_succ, List.set_cons_zero]
              go_wp2_with fail
              go_ret
              exact ⟨ret_bool (by rw [HE2.out]), K3⟩

end Go.Proofs.YtlehlgipbhfioaaGreat

namespace Go.Proofs.YtlehlgipbhfioaaGreat
open Go.RowKit Go.Shelf

theorem Cls.below {W W' : World} {bb cb : Nat} {ca : Option Addr} {cn cc : Nat} {cls : List Int} {B : Nat} (h : Cls W bb cb ca cn cc cls) (hB : Below B W W') (hz : W.heap.size ≤ B) : Cls W' bb cb ca cn cc cls := by
  refine ⟨h.bnd.of_block (hB.block _ (Nat.lt_of_lt_of_le h.bnd.lt hz)), h.cbx.of_block (hB.block _ (Nat.lt_of_lt_of_le h.cbx.lt hz)), h.len, ?_, h.small⟩
  rcases h.cells with e | ⟨g, off, h1, h2⟩
  · exact Or.inl e
  · refine Or.inr ⟨g, off, h1, fun j c hj => ?_⟩
    have := h2 j c hj
    exact (hB.cell (Nat.lt_of_lt_of_le (World.block_lt_of_cell? W _ this) hz)).trans this

/-- Eval. -/
theorem eval_in (w : World) (op x y : Int) (kv : Value) (kids : List Lf) (hk : KidsIn kv kids) (hks : ∀ k ∈ kids, Here w k) (ca : Option Addr) (cn cc : Nat) (cls : List Int) (hl : cls.length = cn) (hc : cls = [] ∨ ∃ g off, ca = some ⟨g, off, none⟩ ∧ ∀ (j : Nat) (c : Int), cls[j]? = some c → w.cell? ⟨g, off + j, none⟩ = some (.int .i64 c)) (hs : cn ≤ 9223372036854775807)
    (hN : (wk (.mk w.heap.size 0 op x y kv kids) 0).length * 16 ≤ 140737488355328) (hR : ∀ z ∈ es (.mk w.heap.size 0 op x y kv kids), R64 z.x ∧ R64 z.y) :
    Calls Tryz.prog 91 #[.agg #[.int .i64 op, .int .i64 x, .int .i64 y, kv], .slice ca cn cc] w fun e w' => e = .returned (.bool (fo (evG cls) (.mk w.heap.size 0 op x y kv kids))) ∧ Below w.heap.size w w' := by
  obtain ⟨h1, h2, h3, h4, h5⟩ := evW_at w op x y kv kids hk hks ca cn cc cls hl hc hs
  obtain ⟨a, cap, rfl, _⟩ := hk
  refine eval_w w op x y a _ cap ca cn cc hs _ _ ?_
  have F := fold_in (evW w op x y (.slice a kids.length cap) ca cn cc) (.mk w.heap.size 0 op x y (.slice a kids.length cap) kids) (w.heap.size + 3) (evG cls) h1 hN (fun W z args sv hz hB hH hA hal =>
    eval2_in W (w.heap.size + 3) (w.heap.size + 2) (w.heap.size + 1) ca cn cc cls (h3.of_block (hB.block _ (World.rowIs.lt h3))) (h2.below hB (Nat.le_refl _)) z hH (hR z hz).1 (hR z hz).2 sv args hA hal)
  refine F.mono ?_
  rintro e w' ⟨rfl, hB⟩
  exact ⟨rfl, h4.trans (hB.mono (by omega))⟩

end Go.Proofs.YtlehlgipbhfioaaGreat

namespace Go.Proofs.YtlehlgipbhfioaaGreat
open Go.RowKit Go.Shelf

theorem evG_N (cls : List Int) (t : Lf) (args args' : List Bool) (h : t.op ≠ 0 → args = args') : evG cls t args = evN cls t.op t.x t.y t.kids.length args' := by
  unfold evG evN whl
  generalize t.kids.length = n
  generalize t.op = op at h ⊢
  by_cases h0 : op = 0
  · by_cases hn : n = 0 <;> simp [h0, hn]
  · rw [h h0]
    by_cases h1 : op = 1
    · by_cases hn : n = 1 <;> simp [h1, hn]
    · by_cases h2 : op = 2
      · by_cases hn : n = 2 <;> simp [h2, hn]
      · by_cases h3 : op = 3
        · by_cases hn : n = 2 <;> simp [h3, hn]
        · by_cases h4 : op = 4
          · by_cases hn : n = 2 <;> simp [h4, hn]
          · simp [h0, h1, h2, h3, h4]

theorem fo_ev (cls : List Int) (t : Lf) : fo (evG cls) t = evF cls t.er := by
  rw [fo_eq, evG_N cls t _ (t.kids.map fun k => evF cls k.er)]
  · cases t with
    | mk b o op x y kv kids =>
      simp only [Lf.er, evF, Lf.op, Lf.x, Lf.y, Lf.kids, List.length_map, List.map_map]
      rfl
  · intro h0
    have e : t.ks = t.kids := by simp [Lf.ks, h0]
    refine (List.map_congr_left fun k hk => ?_).trans (congrArg (List.map fun k => evF cls k.er) e)
    exact fo_ev cls k
termination_by SizeOf.sizeOf t
decreasing_by exact ks_lt hk

end Go.Proofs.YtlehlgipbhfioaaGreat

namespace Go.Proofs.YtlehlgipbhfioaaGreat
open Go.RowKit Go.Shelf

/-- All its numbers are numbers of the program. -/
inductive RF : Fo → Prop where
  | mk {op x y : Int} {kids : List Fo} (hx : R64 x) (hy : R64 y) (h : ∀ k ∈ kids, RF k) : RF (.mk op x y kids)
theorem RF.kid {t k : Lf} (h : RF t.er) (hk : k ∈ t.kids) : RF k.er := by
  cases t
  rw [Lf.er] at h
  cases h with
  | mk hx hy h => exact h _ (List.mem_map.2 ⟨k, hk, rfl⟩)
theorem RF.here {t : Lf} (h : RF t.er) : R64 t.x ∧ R64 t.y := by
  cases t
  rw [Lf.er] at h
  cases h with
  | mk hx hy h => exact ⟨hx, hy⟩
theorem wk_R (t : Lf) (d : Nat) (ht : RF t.er) : ∀ y ∈ wk t d, RF y.1.er := by
  intro y hy
  cases h : t.ks[d]? with
  | none =>
    rw [wk_end h] at hy
    obtain rfl := List.mem_singleton.1 hy
    exact ht
  | some k =>
    have hlt := (List.getElem?_eq_some_iff.1 h).1
    rw [wk_step h] at hy
    rcases List.mem_cons.1 hy with rfl | hy
    · exact ht
    · rcases List.mem_append.1 hy with hy | hy
      · exact wk_R k 0 (ht.kid (ks_sub (List.mem_of_getElem? h))) y hy
      · exact wk_R t (d + 1) ht y hy
termination_by (SizeOf.sizeOf t, t.ks.length - d)
decreasing_by
  · exact Prod.Lex.left _ _ (ks_lt (List.mem_of_getElem? h))
  · exact Prod.Lex.right _ (by omega)
theorem es_R {t : Lf} (ht : RF t.er) : ∀ z ∈ es t, R64 z.x ∧ R64 z.y := by
  intro z hz
  unfold es at hz
  obtain ⟨⟨y, d⟩, h1, h2⟩ := List.mem_filterMap.1 hz
  unfold isEnd at h2
  split at h2
  · cases h2
    exact (wk_R t 0 ht _ h1).here
  · cases h2
theorem eqs_R {t : Lf} (ht : RF t.er) : ∀ p ∈ eqs t, P64 p := by
  intro p hp
  unfold eqs at hp
  obtain ⟨z, h1, h2⟩ := List.mem_filterMap.1 hp
  unfold isEq at h2
  split at h2
  · cases h2
    exact es_R ht z h1
  · cases h2

/-- The value v is the Form f, wherever its Kids lie. -/
def FIs (W : World) (v : Value) (f : Fo) : Prop := FValA (fun _ => True) W v f
theorem FVal.is {B : Nat} {W : World} {v : Value} {f : Fo} (h : FVal B W v f) : FIs W v f := FValA.mono (fun _ _ => trivial) h
theorem FIs.keep {W W' : World} {v : Value} {f : Fo} (h : FIs W v f) (hB : Below W.heap.size W W') : FIs W' v f := FValA.keep (fun k _ _ _ hk => (hB.block k (Array.getElem?_eq_some_iff.1 hk).1).trans hk) h

theorem evalF_in (w : World) (v : Value) (f : Fo) (hv : FIs w v f) (ca : Option Addr) (cn cc : Nat) (cls : List Int) (hl : cls.length = cn) (hc : cls = [] ∨ ∃ g off, ca = some ⟨g, off, none⟩ ∧ ∀ (j : Nat) (c : Int), cls[j]? = some c → w.cell? ⟨g, off + j, none⟩ = some (.int .i64 c)) (hs : cn ≤ 9223372036854775807) (hN : szF f * 16 ≤ 140737488355328) (hR : RF f) :
    Calls Tryz.prog 91 #[v, .slice ca cn cc] w fun e w' => e = .returned (.bool (evF cls f)) ∧ Below w.heap.size w w' := by
  obtain ⟨op, x, y, kv, kids, rfl, hk, hks, rfl⟩ := hv
  have he : (Lf.mk w.heap.size 0 op x y kv kids).er = .mk op x y (kids.map Lf.er) := by rw [Lf.er]
  have h := eval_in w op x y kv kids hk hks ca cn cc cls hl hc hs (by rw [len_wk, he]; exact hN) (es_R (by rw [he]; exact hR))
  rw [fo_ev, he] at h
  exact h

theorem atomsF_in (w : World) (v : Value) (f : Fo) (hv : FIs w v f) (hN : szF f * 16 ≤ 140737488355328) (hR : RF f) :
    Calls Tryz.prog 78 #[v] w fun e w' => ∃ u, e = .returned u ∧ w'.ownsRow w.heap.size 34 2 u (ats (eqF f)).length (pairC (ats (eqF f))) ∧ Below w.heap.size w w' := by
  obtain ⟨op, x, y, kv, kids, rfl, hk, hks, rfl⟩ := hv
  have he : (Lf.mk w.heap.size 0 op x y kv kids).er = .mk op x y (kids.map Lf.er) := by rw [Lf.er]
  have h := atoms_in w op x y kv kids hk hks (by rw [len_wk, he]; exact hN) (eqs_R (by rw [he]; exact hR))
  rw [eqs_er, he] at h
  exact h

end Go.Proofs.YtlehlgipbhfioaaGreat

namespace Go.Proofs.YtlehlgipbhfioaaGreat
open Go.RowKit Go.Shelf

attribute [local go_sem] store_map store_func

/-- What Clauses makes first. -/
def clW (w : World) (op x y : Int) (kv : Value) : World :=
  ((w.alloc (.cells #[.int .i64 op, .int .i64 x, .int .i64 y, kv] 36)).alloc (.map #[] 0)).alloc (.cells #[.map (some (w.heap.size + 1)), .int .i64 0, .slice none 0 0] 226)

/-- What is known while the atoms get their numbers. -/
structure ClS (w W : World) (t : Lf) (u : Value) (ps : List (Int × Int)) (i : Nat) : Prop where
  below : Below w.heap.size w W
  here : Here W t
  maker : Mk (fun k => k = w.heap.size + 2 ∨ k = w.heap.size + 1) W (w.heap.size + 2) (w.heap.size + 1) (ps.take i) (.slice none 0 0) (i, [])
  row : W.ownsRow (w.heap.size + 3) 34 2 u ps.length (pairC ps)

theorem clW_at (w : World) (op x y : Int) (kv : Value) (kids : List Lf) (hk : KidsIn kv kids) (hks : ∀ k ∈ kids, Here w k) :
    Below w.heap.size w (clW w op x y kv) ∧ Here (clW w op x y kv) (.mk w.heap.size 0 op x y kv kids) ∧ (clW w op x y kv).heap.size = w.heap.size + 3 ∧
    Mk (fun k => k = w.heap.size + 2 ∨ k = w.heap.size + 1) (clW w op x y kv) (w.heap.size + 2) (w.heap.size + 1) [] (.slice none 0 0) (0, []) := by
  have hz1 : (w.alloc (.cells #[.int .i64 op, .int .i64 x, .int .i64 y, kv] 36)).heap.size = w.heap.size + 1 := by simp
  have hz2 : ((w.alloc (.cells #[.int .i64 op, .int .i64 x, .int .i64 y, kv] 36)).alloc (.map #[] 0)).heap.size = w.heap.size + 2 := by simp
  have hB : Below w.heap.size w (clW w op x y kv) := (((Below.refl _ w).alloc (Nat.le_refl _) _).alloc (by simp) _).alloc (by simp; omega) _
  have K : FKeepA (fun k => k < w.heap.size) w (clW w op x y kv) := fun k _ _ hlt hk => (hB.block k hlt).trans hk
  have hz3 : (clW w op x y kv).heap.size = w.heap.size + 3 := by simp [clW]
  refine ⟨hB, LayA.mk trivial ?_ hk (fun k hkk => ?_), hz3, fun k hk => by rw [hz3]; omega, Or.inl rfl, Or.inr rfl, by simp [Value.ownBlock], ?_, ?_, [], World.ownsRow_nil _ _ _ _, ⟨rfl, fun i j g n m c c' e => by simp at e⟩, by simp⟩
  · refine ⟨#[.int .i64 op, .int .i64 x, .int .i64 y, kv], (0, 0), ?_, rfl, rfl, rfl, rfl, rfl⟩
    unfold clW
    rw [Below.heap_alloc _ _ _ (by simp; omega), Below.heap_alloc _ _ _ (by simp)]
    exact World.alloc_heap_new w _
  · exact ((hks k hkk).lt.mono (fun _ h => h.2)).keep K |>.mono (fun _ _ => trivial)
  · have := made_row ((w.alloc (.cells #[.int .i64 op, .int .i64 x, .int .i64 y, kv] 36)).alloc (.map #[] 0)) #[.map (some (w.heap.size + 1)), .int .i64 0, .slice none 0 0] 226
    rw [hz2] at this
    refine World.rowIs.congr this (fun j hj => ?_)
    have : j = 0 ∨ j = 1 ∨ j = 2 := by omega
    rcases this with rfl | rfl | rfl <;> rfl
  · have := NumIs.new (w.alloc (.cells #[.int .i64 op, .int .i64 x, .int .i64 y, kv] 36))
    rw [hz1] at this
    refine this.keep ?_
    unfold clW
    rw [Below.heap_alloc _ _ _ (by simp)]

theorem whl_wf {t : Lf} (h : WfF t.er) : whl t = true := by
  cases t with
  | mk b o op x y kv kids =>
    rw [Lf.er] at h
    have hl : kids.length = (kids.map Lf.er).length := by simp
    unfold whl
    simp only [Lf.op, Lf.kids]
    rw [hl]
    generalize kids.map Lf.er = ks at h
    cases h with
    | eq => simp
    | neg => simp
    | two o f g ho => rcases ho with rfl | rfl | rfl <;> simp

theorem ClS.next {w W w5 w6 : World} {O : Obj} {t : Lf} {u : Value} {ps : List (Int × Int)} {i : Nat} {p : Int × Int} (h : ClS w W t u ps i) (hp : ps[i]? = some p) (m : Nat)
    (M5 : Mk (fun k => k = w.heap.size + 2 ∨ k = w.heap.size + 1) w5 (w.heap.size + 2) (w.heap.size + 1) (ps.take i) (.slice none 0 0) (i + 1, [])) (K5 : Kept (fun k => k = w.heap.size + 2) ((W.alloc O).drewN m) w5) (N6 : NumIs w6 (w.heap.size + 1) (ps.take i ++ [p])) (K6 : Kept1 (w.heap.size + 1) w5 w6) : ClS w w6 t u ps (i + 1) := by
  have htk : ps.take (i + 1) = ps.take i ++ [p] := by rw [List.take_add_one, hp]; rfl
  have KW : Kept (fun k => k = w.heap.size + 2) W w5 := (((Kept.refl _ W).alloc O).drewN m).trans K5
  have nb : ∀ k, k < W.heap.size → k ≠ w.heap.size + 2 → k ≠ w.heap.size + 1 → w6.heap[k]? = W.heap[k]? := fun k hk h1 h2 => (K6.block k (Nat.lt_of_lt_of_le hk KW.size) h2).trans (KW.block k hk h1)
  refine ⟨h.below.trans ⟨K6.os.trans KW.os, K6.tape.trans KW.tape, K6.output.trans KW.output, Nat.le_trans KW.size K6.size, fun k hk => nb k (Nat.lt_of_lt_of_le hk h.below.size) (by omega) (by omega)⟩, h.here.keep (fun k c fz _ hk => ?_), ?_, ownsRow_block h.row (fun b hb => ?_)⟩
  · refine (nb k (Array.getElem?_eq_some_iff.1 hk).1 ?_ ?_).trans hk
    · rintro rfl
      obtain ⟨c', hc, _⟩ := h.maker.cells
      rw [hk] at hc
      injection hc with hc
      injection hc with _ hc
      exact absurd hc (by decide)
    · rintro rfl
      obtain ⟨es, ck, e⟩ := h.maker.map.lt
      rw [e] at hk
      cases hk
  · rw [htk]
    have kb : w6.heap[w.heap.size + 2]? = w5.heap[w.heap.size + 2]? := K6.block _ (M5.lt _ M5.smb) (by omega)
    refine ⟨fun k hk => Nat.lt_of_lt_of_le (M5.lt k hk) K6.size, M5.smb, M5.sab, M5.srv, M5.cells.of_block kb, N6, [], World.ownsRow_nil _ _ _ _, ⟨rfl, fun i j g n m c c' e => by simp at e⟩, by simp⟩
  · rcases h.row.2 with ⟨e, _⟩ | ⟨g, cap, cur, e, e1, e2, _⟩
    · rw [e] at hb; simp [Value.ownBlock] at hb
    · rw [e] at hb
      simp [Value.ownBlock] at hb
      subst hb
      exact nb _ (Array.getElem?_eq_some_iff.1 e2).1 (by omega) (by omega)

theorem Mk.cl2 {S : Nat → Prop} {W : World} {mb ab : Nat} {ps : List (Int × Int)} {a : Option Addr} {len cap : Nat} {st : Sc} (h : Mk S W mb ab ps (.slice a len cap) st) : len = st.2.length ∧ Cl2 W a st.2 := by
  obtain ⟨rs, h1, h2, h3⟩ := h.rows
  rcases id h1.2 with ⟨e, h0⟩ | ⟨g, c, cur, e, _⟩
  · simp at e
    have h2 := h2.1
    have : st.2 = [] := List.length_eq_zero_iff.1 (by omega)
    exact ⟨by omega, Or.inl this⟩
  · simp at e
    obtain ⟨rfl, rfl, rfl⟩ := e
    refine ⟨h2.1, Or.inr ⟨g, 0, rfl, fun i c hi => ?_⟩⟩
    obtain ⟨g', cap', q1, _, q3⟩ := h3 i c hi
    have hlt := (List.getElem?_eq_some_iff.1 q1).1
    exact ⟨_, cap', by rw [Nat.zero_add, h1.cellAt i (by omega)]; exact q1, q3.cls⟩

/-- Clauses in rows of their own, from B on. -/
def ClOwn (B : Nat) (W : World) (v : Value) (cs : List (List Int)) : Prop := ∃ rs : List Value, W.ownsRow B 39 1 v rs.length rs ∧ (rs.length = cs.length ∧ RsDst rs) ∧ ∀ (i : Nat) (c : List Int), cs[i]? = some c → ∃ g cap, rs[i]? = some (.slice (some ⟨g, 0, none⟩) c.length cap) ∧ B ≤ g ∧ Rw W g c
theorem Mk.clOwn {S : Nat → Prop} {W : World} {mb ab B : Nat} {ps : List (Int × Int)} {rv : Value} {st : Sc} (h : Mk S W mb ab ps rv st) (hB : ∀ k, S k → B ≤ k) : ClOwn B W rv st.2 := by
  obtain ⟨rs, h1, h2, h3⟩ := h.rows
  refine ⟨rs, ⟨h1.1, ?_⟩, h2, fun i c hi => ?_⟩
  · rcases h1.2 with e | ⟨g, cap, cur, e, _, e2⟩
    · exact Or.inl e
    · exact Or.inr ⟨g, cap, cur, e, hB g (h.srv g (by rw [e]; rfl)), e2⟩
  · obtain ⟨g, cap, q1, q2, q3⟩ := h3 i c hi
    exact ⟨g, cap, q1, hB g q2, q3⟩

theorem ats_nodup (l : List (Int × Int)) : (ats l).Nodup := by
  refine snocInd (P := fun l => (ats l).Nodup) ?_ ?_ l
  · simp [ats]
  · intro l p ih
    show (ats (l ++ [p])).Nodup
    rw [ats_snoc]
    split
    · exact ih
    · next h =>
      rw [List.nodup_append]
      refine ⟨ih, by simp, fun a ha b hb => ?_⟩
      simp at hb
      subst hb
      rintro rfl
      exact h ha
theorem nodup_take {α : Type} {l : List α} (h : l.Nodup) {i : Nat} {p : α} (hi : l[i]? = some p) : p ∉ l.take i := by
  intro hm
  obtain ⟨j, hj⟩ := List.getElem?_of_mem hm
  have hjl := (List.getElem?_eq_some_iff.1 hj).1
  rw [List.length_take] at hjl
  rw [List.getElem?_take, if_pos (by omega)] at hj
  have h1 := (List.getElem?_eq_some_iff.1 hi)
  have h2 := (List.getElem?_eq_some_iff.1 hj)
  obtain ⟨a1, b1⟩ := h1
  obtain ⟨a2, b2⟩ := h2
  have := (List.getElem_inj h).1 (b1.trans b2.symm)
  omega

set_option maxRecDepth 100000 in
set_option maxHeartbeats 4000000 in
theorem clauses_w (w : World) (op x y : Int) (ka : Option Addr) (kn kc : Nat) (t : Lf) (f : Fo) (hte : t = .mk w.heap.size 0 op x y (.slice ka kn kc) t.kids) (he : t.er = f) (hv : FIs w (.agg #[.int .i64 op, .int .i64 x, .int .i64 y, .slice ka kn kc]) f) (hN : szF f ≤ 1048576) (hR : RF f) (hk : KidsIn (.slice ka kn kc) t.kids) (hks : ∀ k ∈ t.kids, Here w k) (ps : List (Int × Int)) (hps : ps = ats (eqF f)) (hpl : ps.length ≤ 1048576) (R : Int × Sc) (hR2 : R.2.2.length ≤ 1073741824)
    (FO : Hid (∀ (W : World) (u : Value), ClS w W t u ps ps.length → Calls Tryz.prog 119 #[.pointer (some ⟨w.heap.size, 0, none⟩), .func (.func 120) #[.pointer (some ⟨w.heap.size + 2, 0, none⟩)] #[]] W fun e w' => e = .returned (.int .i64 R.1) ∧ Made (fun k => k = w.heap.size + 2 ∨ k = w.heap.size + 1) W w' (w.heap.size + 2) (w.heap.size + 1) ps (.slice none 0 0) R.2)) :
    Calls Tryz.prog 77 #[.agg #[.int .i64 op, .int .i64 x, .int .i64 y, .slice ka kn kc]] w fun e w' => ∃ ca cc, e = .returned (.tuple #[.slice ca (R.2.2 ++ [[R.1]]).length cc, .int .i64 (R.2.1 : Int)]) ∧ Cl2 w' ca (R.2.2 ++ [[R.1]]) ∧ ClOwn w.heap.size w' (.slice ca (R.2.2 ++ [[R.1]]).length cc) (R.2.2 ++ [[R.1]]) ∧ Below w.heap.size w w' := by
  have hmm := @run_makeMap Tryz.prog
  obtain ⟨B3, H3, Z3, M3⟩ := clW_at w op x y (.slice ka kn kc) t.kids hk hks
  rw [← hte] at H3
  have AT := atomsF_in (clW w op x y (.slice ka kn kc)) _ f (hv.keep B3) (by omega) hR
  rw [← hps] at AT
  have hP64 : Hid (∀ p ∈ ps, P64 p) := fun p hp => by
    rw [hps, mem_ats, ← he, ← eqs_er] at hp
    exact eqs_R (by rw [he]; exact hR) p hp
  have hnd : Hid (∀ i p, ps[i]? = some p → p ∉ ps.take i) := fun i p hi => by
    have := ats_nodup (eqF f)
    rw [← hps] at this
    exact nodup_take this hi
  clear hv hN hR hk hks hps he hte
  unfold clW at *
  go_enter Tryz.func77, Tryz.ntmps77
  go_wp2_with (first | (go_at_call 78; refine AT.mono ?_; rintro e w4 ⟨u, rfl, R4, B4⟩; obtain ⟨ua, uc, hu⟩ := row_form R4; subst hu; refine Aside.out ?_))
  delta Aside
  generalize hw3 : ((w.alloc (.cells #[.int .i64 op, .int .i64 x, .int .i64 y, .slice ka kn kc] 36)).alloc (.map #[] 0)).alloc (.cells #[.map (some (w.heap.size + 1)), .int .i64 0, .slice none 0 0] 226) = w3 at *
  have S4 : ClS w w4 t (.slice ua ps.length uc) ps 0 := ⟨B3.trans (B4.mono B3.size), H3.keep (fun k _ _ _ hk => (B4.block k (Array.getElem?_eq_some_iff.1 hk).1).trans hk), M3.keep B4.size (fun k hk => B4.block k (M3.lt k hk)), Z3 ▸ R4⟩
  clear hw3 AT B3 H3 Z3 M3 R4 B4 hmm
  apply_assumption
  go_wp2_with fail
  rw [show w.heap.size + 1 + 1 = w.heap.size + 2 from rfl]
  go_loopw [12] (fun t12 W => ∃ i : Nat, i ≤ ps.length ∧ t12 = .int .i64 (i : Int) ∧ Hid (ClS w W t (.slice ua ps.length uc) ps i)) (fun t12 _ => ps.length - (intOf t12).toNat)
  case atStart => exact ⟨0, by omega, rfl, S4⟩
  case round =>
    obtain ⟨i, hi, rfl, HS⟩ := hrel
    clear S4
    by_cases hi2 : i < ps.length
    · have di : decide ((i : Int) < (ps.length : Int)) = true := decide_eq_true (by omega)
      have hpi : ps[i]? = some ps[i] := List.getElem?_eq_getElem hi2
      obtain ⟨g, gc, hv, hg1, _, q0, q1⟩ := row_cells HS.out.row hpi
      simp only [Value.slice.injEq, true_and] at hv
      obtain ⟨rfl, rfl⟩ := hv
      have hp6 := hP64.out _ (List.mem_of_getElem? hpi)
      have hpn := hnd.out i _ hpi
      have HN : Hid (∀ {w5 w6 : World} {O : Obj} (m : Nat), _ → _ → _ → _ → ClS w w6 t (.slice (some ⟨g, 0, none⟩) ps.length uc) ps (i + 1)) := fun {w5 w6 O} m => HS.out.next (w5 := w5) (w6 := w6) (O := O) hpi m
      generalize ps[i] = p at *
      obtain ⟨p1, p2⟩ := p
      simp only at q0 q1
      have V : ∀ (O : Obj) (m : Nat), Calls Tryz.prog 117 #[.pointer (some ⟨w.heap.size + 2, 0, none⟩)] ((wr.alloc O).drewN m) fun e w' => e = .returned (.int .i64 ((i + 1 : Nat) : Int)) ∧ Mk (fun k => k = w.heap.size + 2 ∨ k = w.heap.size + 1) w' (w.heap.size + 2) (w.heap.size + 1) (ps.take i) (.slice none 0 0) (i + 1, []) ∧ Kept (fun k => k = w.heap.size + 2) ((wr.alloc O).drewN m) w' := fun O m => variable_in _ _ _ _ _ _ (i, []) (HS.out.maker.keep (by simp) (fun k hk => Below.heap_alloc wr O k (HS.out.maker.lt k hk))) (by simp; omega)
      have cm : wr.cell? ⟨w.heap.size + 2, 0, none⟩ = some (.map (some (w.heap.size + 1))) := HS.out.maker.cells.cell (i := 0) (by omega)
      have hmb := HS.out.maker.cells.lt
      have hgl : g < wr.heap.size := World.block_lt_of_cell? wr _ q0
      have hlt : (ps.take i).length = i := by rw [List.length_take]; omega
      have ME : Hid (∀ w5 : World, Mk (fun k => k = w.heap.size + 2 ∨ k = w.heap.size + 1) w5 (w.heap.size + 2) (w.heap.size + 1) (ps.take i) (.slice none 0 0) (i + 1, []) → ∃ W2, (Instr.mapUpdate 113 (.map (some (w.heap.size + 1))) (.agg #[.int .i64 p1, .int .i64 p2]) (.int .i64 ((i : Int) + 1))).run Tryz.prog w5 = .ok () W2 ∧ NumIs W2 (w.heap.size + 1) (ps.take i ++ [(p1, p2)]) ∧ Kept1 (w.heap.size + 1) w5 W2 ∧ w5.cell? ⟨w.heap.size + 2, 0, none⟩ = some (.map (some (w.heap.size + 1)))) := fun w5 M5 => by
        obtain ⟨W2, h1, h2, h3⟩ := M5.map.store hp6 hpn (by rw [hlt]; omega)
        rw [hlt, show ((i + 1 : Nat) : Int) = (i : Int) + 1 by omega] at h1
        exact ⟨W2, h1, h2, h3, M5.cells.cell (i := 0) (by omega)⟩
      have CP : Hid (∀ (O : Obj) (m : Nat) (w5 : World) (a b : Value), O = .cells #[a, b] 34 → Kept (fun k => k = w.heap.size + 2) ((wr.alloc O).drewN m) w5 → w5.cell? ⟨wr.heap.size, 0, none⟩ = some a ∧ w5.cell? ⟨wr.heap.size, 1, none⟩ = some b) := fun O m w5 a b hO K => by
        have hb : w5.heap[wr.heap.size]? = (wr.alloc O).heap[wr.heap.size]? := K.block _ (by simp [World.drewN]) (by omega)
        have hn := made_row wr #[a, b] 34
        rw [hO] at hb
        exact ⟨(World.cell?_of_block (a := ⟨wr.heap.size, 0, none⟩) hb).trans (hn.cell (i := 0) (by simp)), (World.cell?_of_block (a := ⟨wr.heap.size, 1, none⟩) hb).trans (hn.cell (i := 1) (by simp))⟩
      clear HS hP64 hnd FO hp6 hpn hlt
      have V1 := V (.cells #[.int .i64 p1, .int .i64 p2] 34) 1
      have wrp : IntKind.i64.wrap ((i : Int) + 1) = (i : Int) + 1 := by rw [IntKind.wrap_i64]; omega
      clear V
      go_wp2_with fail
      go_region_with (go_at_call 117; refine V1.mono ?_; rintro e w5 ⟨rfl, M5, K5⟩; obtain ⟨w6, hU, hN6, K6, cm5⟩ := ME.out w5 M5; obtain ⟨e0, e1⟩ := CP.out _ 1 w5 _ _ rfl K5)
      all_goals
        try simp only [Act.put, List.getElem_toArray, List.getElem_cons_succ, List.getElem_cons_zero, List.setIfInBounds_toArray, List.set_cons_succ, List.set_cons_zero]
        go_wp2_with fail
        exact ⟨⟨i + 1, hi2, by simp, HN.out 1 M5 K5 hN6 K6⟩, by simp [intOf]; omega⟩
    · have di : decide ((i : Int) < (ps.length : Int)) = false := decide_eq_false (by omega)
      obtain rfl : i = ps.length := by omega
      have F1 := FO.out wr _ HS.out
      have HB : Hid (Below w.heap.size w wr ∧ _) := And.intro HS.out.below HS.out.maker
      clear HS hP64 hnd FO
      go_wp2_with (first | (go_at_call 119; refine F1.mono ?_; rintro e w5 ⟨rfl, M5⟩; refine Aside.out ?_))
      delta Aside
      obtain ⟨S5, rv5, X5⟩ := M5
      have Y5 := Made.say X5.is (by omega) 1 [R.1]
      have H5 : Hid (∀ k, rv5.ownBlock = some k → w.heap.size ≤ k) := fun k hk => by
        rcases X5.at_ with e | e
        · rw [e] at hk; simp [Value.ownBlock] at hk
        · exact Nat.le_trans HB.out.1.size (e k hk)
      apply_assumption
      go_wp2_with (first | (go_at_call 118; refine Y5.mono ?_; rintro e w6 ⟨rfl, M6⟩; refine Aside.out ?_))
      delta Aside
      obtain ⟨S6, rv6, X6⟩ := M6
      obtain ⟨rs6, r6, hX6⟩ := X6.is.rows
      obtain ⟨va, vc, hv6⟩ := row_formM r6
      subst hv6
      have c1 : w6.cell? ⟨w.heap.size + 2, 1, none⟩ = some (.int .i64 (R.2.1 : Int)) := X6.is.cells.cell (i := 1) (by omega)
      have c2 : w6.cell? ⟨w.heap.size + 2, 2, none⟩ = some (.slice va rs6.length vc) := X6.is.cells.cell (i := 2) (by omega)
      obtain ⟨hl6, hcl6⟩ := X6.is.cl2
      have own6 : ClOwn w.heap.size w6 (.slice va rs6.length vc) (R.2.2 ++ [[R.1]]) := X6.is.clOwn fun k hk => by
        have hwb := HB.out.1.size
        rcases X6.new k hk with e | e
        · rcases X5.new k e with e' | e'
          · rcases e' with rfl | rfl <;> omega
          · omega
        · have := X5.kept.size
          omega
      have HF : Hid (_ ∧ _ ∧ _ ∧ _ ∧ _) := And.intro hl6 (And.intro hcl6 (And.intro X5.kept (And.intro X6.kept own6)))
      clear X5 X6 r6 hl6 hcl6 Y5 F1 hX6 own6
      apply_assumption
      go_wp2_with fail
      go_quiet (fail)
      go_wp2_with fail
      obtain ⟨hl6, hcl6, K5, K6, own6⟩ := HF.out
      refine ⟨rfl, .tuple #[.slice va rs6.length vc, .int .i64 (R.2.1 : Int)], by simp [results, Tryz.results77], ?_⟩
      refine ⟨va, vc, by rw [hl6], ?_, ?_, ?_⟩
      · rcases hcl6 with e | ⟨g, off, h1, h2⟩
        · exact Or.inl e
        · exact Or.inr ⟨g, off, h1, h2⟩
      · rw [hl6] at own6
        exact own6
      · have B5 : Below w.heap.size w w5 := HB.out.1.trans ⟨K5.os, K5.tape, K5.output, K5.size, fun k hk => K5.block k (Nat.lt_of_lt_of_le hk HB.out.1.size) (by rintro (e | e); omega; simp [Value.ownBlock] at e)⟩
        refine (B5.trans ⟨K6.os, K6.tape, K6.output, K6.size, fun k hk => K6.block k (Nat.lt_of_lt_of_le hk B5.size) ?_⟩).trans ⟨rfl, rfl, rfl, Nat.le_refl _, fun _ _ => rfl⟩
        rintro (e | e)
        · omega
        · have := H5.out k e
          omega

end Go.Proofs.YtlehlgipbhfioaaGreat
