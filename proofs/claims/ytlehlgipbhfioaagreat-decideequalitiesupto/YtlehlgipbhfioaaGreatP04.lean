/- Package sat: a row of watches is filled in anew in place. Package sat: visit. Package sat: follow. Package sat: finish, addFact, add. -/
import Derived.Test.YtlehlgipbhfioaaGreatP01
import Derived.Test.YtlehlgipbhfioaaGreatP02
namespace Go.Proofs.YtlehlgipbhfioaaGreat
open Go.RowKit Go.Maps

theorem setCells_other (b : Nat) : ∀ (vs : List Value) (o : Nat) (W : World) (k : Nat), k ≠ b → (W.setCells b o vs).heap[k]? = W.heap[k]?
  | [], _, _, _, _ => rfl
  | v :: r, o, W, k, hk => by
    rw [World.setCells, setCells_other b r (o + 1) _ k hk]
    exact Below.heap_setCell _ _ _ _ hk
theorem setCells_heap (b : Nat) : ∀ (vs : List Value) (o : Nat) (W : World) (cs : List Value) (ty : TypeId) (z : Nat × Nat), W.heap[b]? = some (Obj.cells cs.toArray ty z) → o + vs.length ≤ cs.length →
    (W.setCells b o vs).heap[b]? = some (Obj.cells (cs.take o ++ vs ++ cs.drop (o + vs.length)).toArray ty z)
  | [], o, W, cs, ty, z, h, _ => by simp [World.setCells, h]
  | v :: r, o, W, cs, ty, z, h, hl => by
    simp only [List.length_cons] at hl
    have h1 : (W.setCell ⟨b, o, none⟩ v).heap[b]? = some (Obj.cells (cs.set o v).toArray ty z) := by
      unfold World.setCell
      simp [Array.getElem?_modify, h]
    rw [World.setCells, setCells_heap b r (o + 1) _ (cs.set o v) ty z h1 (by simp; omega)]
    congr 3
    have ho : o < cs.length := by omega
    have e1 : (cs.set o v).take (o + 1) = cs.take o ++ [v] := by
      rw [List.set_eq_take_append_cons_drop, if_pos ho, List.take_append, List.length_take]
      simp [Nat.min_eq_left (Nat.le_of_lt ho), List.take_take]
    have e2 : (cs.set o v).drop (o + 1 + r.length) = cs.drop (o + (r.length + 1)) := by
      rw [List.drop_set_of_lt (by omega)]
      congr 1; omega
    rw [e1, e2]
    simp
theorem setCells_kept (S : Nat → Prop) {b : Nat} (hb : S b) : ∀ (vs : List Value) (o : Nat) (w W : World), Kept S w W → Kept S w (W.setCells b o vs)
  | [], _, _, _, h => h
  | v :: r, o, w, _, h => setCells_kept S hb r (o + 1) w _ (h.setCell (p := ⟨b, o, none⟩) hb v)

theorem watC_append (A : Ad) (X Y : List (Nat × Nat)) : watC A (X ++ Y) = watC A X ++ watC A Y := by simp [watC]
theorem watC_take (A : Ad) : ∀ (L : List (Nat × Nat)) (k : Nat), (watC A L).take (k * 2) = watC A (L.take k)
  | _, 0 => by simp [watC]
  | [], k + 1 => by simp [watC]
  | x :: L, k + 1 => by
    have : (k + 1) * 2 = k * 2 + 1 + 1 := by omega
    rw [this]
    simp only [watC, List.flatMap_cons, List.cons_append, List.nil_append, List.take_succ_cons]
    have e := watC_take A L k
    unfold watC at e
    rw [e]
theorem watC_drop (A : Ad) : ∀ (L : List (Nat × Nat)) (k : Nat), (watC A L).drop (k * 2) = watC A (L.drop k)
  | _, 0 => by simp
  | [], k + 1 => by simp [watC]
  | x :: L, k + 1 => by
    have : (k + 1) * 2 = k * 2 + 1 + 1 := by omega
    rw [this]
    simp only [watC, List.flatMap_cons, List.cons_append, List.nil_append, List.drop_succ_cons]
    have e := watC_drop A L k
    unfold watC at e
    rw [e]
theorem watC_get (A : Ad) {L : List (Nat × Nat)} {k c o : Nat} (h : L[k]? = some (c, o)) : (watC A L)[k * 2]? = some (A.ptr (.clause c)) ∧ (watC A L)[k * 2 + 1]? = some (i32 o) := by
  obtain ⟨hk, he⟩ := List.getElem?_eq_some_iff.1 h
  have e := watC_drop A L k
  rw [List.drop_eq_getElem_cons hk, he] at e
  constructor
  · have : ((watC A L).drop (k * 2))[0]? = some (A.ptr (.clause c)) := by rw [e]; simp [watC]
    simpa using this
  · have : ((watC A L).drop (k * 2))[1]? = some (i32 o) := by rw [e]; simp [watC]
    simpa using this

/-- Watches are written over. -/
theorem Mem.putWin {W : World} {A : Ad} {s : Sv} {l : Nat} {L : List (Nat × Nat)} (hl : l < s.ws.length) (h : Mem W A (s.setW l L)) {b : Nat} (hb : A.blk (.win l) = some b) (k : Nat) (Y : List (Nat × Nat)) (hk : k + Y.length ≤ L.length) :
    Mem (W.setCells b (k * 2) (watC A Y)) A (s.setW l (L.take k ++ Y ++ L.drop (k + Y.length))) := by
  have W1 := wat_setW hl L
  have W2 := wat_setW hl (L.take k ++ Y ++ L.drop (k + Y.length))
  have hlen : (L.take k ++ Y ++ L.drop (k + Y.length)).length = L.length := by simp; omega
  have hw2 : ∀ l', ((s.setW l (L.take k ++ Y ++ L.drop (k + Y.length))).wat l').length = ((s.setW l L).wat l').length := fun l' => by
    rw [W1, W2]
    split
    · exact hlen
    · rfl
  have hws : (s.setW l (L.take k ++ Y ++ L.drop (k + Y.length))).ws.map List.length = (s.setW l L).ws.map List.length := by
    simp only [Sv.setW, List.map_set, hlen]
  have hwo : cellsR A (s.setW l (L.take k ++ Y ++ L.drop (k + Y.length))) .wout = cellsR A (s.setW l L) .wout := by
    simp only [cellsR]
    apply List.ext_getElem?
    intro j
    rw [List.getElem?_mapIdx, List.getElem?_mapIdx]
    have := congrArg (fun x => x[j]?) hws
    simp only [List.getElem?_map] at this
    cases e1 : (s.setW l (L.take k ++ Y ++ L.drop (k + Y.length))).ws[j]? with
    | none => rw [e1] at this; cases e2 : (s.setW l L).ws[j]? with
      | none => rfl
      | some y => rw [e2] at this; simp at this
    | some x => rw [e1] at this; cases e2 : (s.setW l L).ws[j]? with
      | none => rw [e2] at this; simp at this
      | some y => rw [e2] at this; simp at this; simp [this]
  have hcell : ∀ r, r ≠ .win l → cellsR A (s.setW l (L.take k ++ Y ++ L.drop (k + Y.length))) r = cellsR A (s.setW l L) r := fun r hr => by
    cases r <;> first | rfl | exact hwo | skip
    case win l' =>
      have hne : l' ≠ l := fun e => hr (by rw [e])
      simp only [cellsR, W1, W2, if_neg hne]
  refine ⟨h.inj, fun r b1 h1 => ?_, h.fix, h.cls, h.rows, fun l' e => ?_, h.nil1, h.nil2, h.even, fun r hg => ?_, h.flat, h.lv, by simpa [Sv.setW] using h.lw, h.ls, h.lp, h.small, h.endk⟩
  · by_cases e1 : r = .win l
    · subst e1
      rw [hb] at h1
      cases h1
      have h3 := h.has _ _ hb
      simp only [cellsR, W1, if_true] at h3
      rw [setCells_heap b _ _ _ _ _ _ h3 (by simp [watC_len]; omega)]
      simp only [cellsR, W2, if_true]
      congr 3
      rw [List.take_append_of_le_length (by simp [watC_len]; omega), watC_take, watC_len, ← Nat.add_mul, List.drop_append_of_le_length (by simp [watC_len]; omega), watC_drop, watC_append, watC_append]
      simp
    · rw [hcell r e1, setCells_other b _ _ _ _ (fun e2 => e1 (h.inj _ _ _ h1 (by rw [e2]; exact hb)))]
      exact h.has r b1 h1
  · have := h.win l' e
    rw [W1] at this
    rw [W2]
    split
    · next e2 => subst e2; rw [hb] at e; cases e
    · next e2 => rwa [if_neg e2] at this
  · have hc := h.caps r hg
    have : lenR (s.setW l (L.take k ++ Y ++ L.drop (k + Y.length))) r = lenR (s.setW l L) r := by
      cases r <;> first | rfl | skip
      case win l' => exact hw2 l'
    rw [this]
    exact hc

/-- A row of watches is cut. -/
theorem Mem.cutWin {W : World} {A : Ad} {s : Sv} {l : Nat} {X Y : List (Nat × Nat)} (hl : l < s.ws.length) (h : Mem W A (s.setW l (X ++ Y))) {wb b : Nat} (hwb : A.blk .wout = some wb) (hb : A.blk (.win l) = some b) :
    Mem (W.setCell ⟨wb, l, none⟩ (.slice (some ⟨b, 0, none⟩) X.length (X.length + Y.length + (A.sp (.win l)).length / 2))) (A.up (.win l) b (watC A Y ++ A.sp (.win l))) (s.setW l X) := by
  have W1 := wat_setW hl (X ++ Y)
  have W2 := wat_setW hl X
  have hup : ∀ r, (A.up (.win l) b (watC A Y ++ A.sp (.win l))).blk r = A.blk r := fun r => by
    show (if r = .win l then some b else A.blk r) = _
    split
    · next e => rw [e, hb]
    · rfl
  have hus : ∀ r, r ≠ .win l → (A.up (.win l) b (watC A Y ++ A.sp (.win l))).sp r = A.sp r := fun r hr => if_neg hr
  have hus2 : (A.up (.win l) b (watC A Y ++ A.sp (.win l))).sp (.win l) = watC A Y ++ A.sp (.win l) := if_pos rfl
  have hslv : ∀ r k z, r ≠ .win l → (A.up (.win l) b (watC A Y ++ A.sp (.win l))).slv r k z = A.slv r k z := fun r k z hr => by unfold Ad.slv; rw [hup r, hus r hr]
  have hptr : ∀ r, (A.up (.win l) b (watC A Y ++ A.sp (.win l))).ptr r = A.ptr r := fun r => by unfold Ad.ptr; rw [hup r]
  have hwc : ∀ x, watC (A.up (.win l) b (watC A Y ++ A.sp (.win l))) x = watC A x := fun x => congrArg (fun f => x.flatMap f) (funext fun w => by rw [hptr])
  obtain ⟨kk, hkk⟩ := h.even (.win l) rfl
  have hkk : (A.sp (.win l)).length = kk * 2 := hkk
  have hdiv : (watC A Y ++ A.sp (.win l)).length / 2 = Y.length + kk := by
    rw [List.length_append, watC_len, hkk]; omega
  have hdiv2 : (A.sp (.win l)).length / 2 = kk := by rw [hkk]; omega
  have hslt : (A.up (.win l) b (watC A Y ++ A.sp (.win l))).slv (.win l) X.length 2 = .slice (some ⟨b, 0, none⟩) X.length (X.length + Y.length + (A.sp (.win l)).length / 2) := by
    unfold Ad.slv
    rw [hup, hb, hus2]
    simp only [hdiv, hdiv2, Nat.add_assoc]
  have hcell : ∀ r, r ≠ .win l → r ≠ .wout → cellsR (A.up (.win l) b (watC A Y ++ A.sp (.win l))) (s.setW l X) r = cellsR A (s.setW l (X ++ Y)) r := by
    intro r h1 h2
    cases r <;> first | exact absurd rfl h2 | skip
    case win l' =>
      have hne : l' ≠ l := fun e => h1 (by rw [e])
      simp only [cellsR, hwc, hus _ h1, W1, W2, if_neg hne]
    all_goals simp only [cellsR, searchC]
    all_goals first | rfl | skip
    all_goals simp [hslv, hus, hptr, Sv.setW, Sv.lits]
    all_goals first | rfl | exact ⟨rfl, rfl⟩
  have hout : cellsR (A.up (.win l) b (watC A Y ++ A.sp (.win l))) (s.setW l X) .wout = (cellsR A (s.setW l (X ++ Y)) .wout).set l (.slice (some ⟨b, 0, none⟩) X.length (X.length + Y.length + (A.sp (.win l)).length / 2)) := by
    simp only [cellsR, Sv.setW]
    apply List.ext_getElem?
    intro j
    by_cases e : l = j
    · subst e
      rw [List.getElem?_mapIdx, List.getElem?_set_self hl, List.getElem?_set_self (by simpa using hl)]
      simp [hslt]
    · rw [List.getElem?_mapIdx, List.getElem?_set_ne e, List.getElem?_set_ne e, List.getElem?_mapIdx, List.getElem?_set_ne e]
      cases s.ws[j]? with
      | none => rfl
      | some x => simp [hslv _ _ _ (show Role.win j ≠ .win l by intro e2; cases e2; exact e rfl)]
  refine ⟨fun r r' b1 h1 h2 => h.inj r r' b1 ((hup r).symm.trans h1) ((hup r').symm.trans h2), fun r b1 h1 => ?_, fun r hr => by rw [hup]; exact h.fix r hr, fun d => by rw [hup]; exact h.cls d, fun d => by rw [hup]; exact h.rows d, fun l' e => ?_, fun e => h.nil1 ((hup _).symm.trans e), fun e => h.nil2 ((hup _).symm.trans e), fun r hg => ?_, fun r hg => ?_, ?_, h.lv, by simpa [Sv.setW] using h.lw, h.ls, h.lp, h.small, h.endk⟩
  · rw [hup] at h1
    by_cases e1 : r = .win l
    · subst e1
      rw [hb] at h1
      cases h1
      have hne : b ≠ wb := fun e => by have := h.inj _ _ _ hb (e ▸ hwb); cases this
      rw [Below.heap_setCell _ _ _ _ hne, h.has _ _ hb]
      simp only [cellsR, hwc, W1, W2, if_true, hus2, watC_append, List.append_assoc]
    · by_cases e2 : r = .wout
      · subst e2
        rw [hwb] at h1
        cases h1
        have h3 := h.has _ _ hwb
        rw [hout]
        unfold World.setCell
        simp [Array.getElem?_modify, h3]
      · rw [hcell r e1 e2, Below.heap_setCell _ _ _ _ (fun e3 => e2 (h.inj _ _ _ h1 (by rw [hwb]; exact congrArg some e3.symm)))]
        exact h.has r b1 h1
  · rw [hup] at e
    have := h.win l' e
    rw [W2]
    split
    · next e2 => subst e2; rw [hb] at e; cases e
    · next e2 => rwa [W1, if_neg e2] at this
  · by_cases e1 : r = .win l
    · subst e1
      exact ⟨Y.length + kk, by rw [hus2, List.length_append, watC_len, hkk]; simp only [sizR]; omega⟩
    · rw [hus r e1]; exact h.even r hg
  · have hc := h.caps r hg
    by_cases e1 : r = .win l
    · subst e1
      simp only [lenR, W1, if_true, sizR, hdiv2, List.length_append] at hc
      simp only [lenR, W2, if_true, sizR, hus2, hdiv]
      omega
    · rw [hus r e1]
      have : lenR (s.setW l X) r = lenR (s.setW l (X ++ Y)) r := by
        cases r <;> first | rfl | skip
        case win l' =>
          have hne : l' ≠ l := fun e => e1 (by rw [e])
          simp only [lenR, W1, W2, if_neg hne]
      rw [this]; exact hc
  · have hf := h.flat
    refine ⟨?_, ?_, ?_, ?_, ?_, ?_, ?_, ?_, ?_⟩
    all_goals rw [hus _ (by intro e; cases e)]
    · exact hf.1
    · exact hf.2.1
    · exact hf.2.2.1
    · exact hf.2.2.2.1
    · exact hf.2.2.2.2.1
    · exact hf.2.2.2.2.2.1
    · exact hf.2.2.2.2.2.2.1
    · exact hf.2.2.2.2.2.2.2.1
    · exact hf.2.2.2.2.2.2.2.2

theorem Mem.alloc {W : World} {A : Ad} {s : Sv} (h : Mem W A s) (O : Obj) : Mem (W.alloc O) A s := h.keep (fun _ ⟨_, hr⟩ => Below.heap_alloc _ _ _ (h.lt hr))
theorem Step.alloc {w W : World} {A A1 : Ad} {s : Sv} (h : Step w W A A1 s) (O : Obj) : Step w (W.alloc O) A A1 s := h.trans ⟨h.mem.alloc O, (Kept.refl _ W).alloc O, fun _ hk => Or.inl hk⟩

end Go.Proofs.YtlehlgipbhfioaaGreat

namespace Go.Proofs.YtlehlgipbhfioaaGreat
open Go.RowKit Go.Maps

/-- append where there is room. -/
theorem wpList_append_put {P : Program} (w : World) {ops : Array Oper} {rest : List Oper} {o : Oper} {a : Act} {Q : Exit → Act → World → Prop}
    (hg : o.guard = none) (s x : Operand) (t : TypeId) (hop : o.op = Op.call { callee := Callee.builtin Builtin.append, args := #[s, x], argTypes := #[t, t] })
    (e : TypeId) (i : TypeInfo) (size : Nat) (h1 : P.underlying t = some (.slice e)) (h2 : P.info? e = some i) (h4 : i.size = size)
    (b n cap : Nat) (hs : a.eval s = .slice (some ⟨b, 0, none⟩) n cap)
    (ad : Addr) (m c : Nat) (news : List Value) (hx : a.eval x = .slice (some ad) m c) (hn : news.length = m * size) (hc : ∀ j u, news[j]? = some u → w.cell? (ad.add j) = some u) (h1c : ∀ u ∈ news, u.oneCell' = true)
    (hr : n + m ≤ cap) (hsp : ∀ j, j < news.length → (w.cell? ⟨b, n * size + j, none⟩).isSome = true ∧ w.frozen? ⟨b, n * size + j, none⟩ = false)
    (hK : wpList P ops Q rest (a.put o.dst (.slice (some ⟨b, 0, none⟩) (n + m) cap)) (w.setCells b (n * size) news)) :
    wpList P ops Q (o :: rest) a w := by
  refine wpList_plain hg fun K hK' => ?_
  subst h4
  have hrun := run_append_room_cells (P := P) w t o.type e i h1 h2 b 0 n cap ad m c news hn hc h1c hr (fun j hj => by rw [Nat.zero_add]; exact (hsp j hj).1) (fun j hj => by rw [Nat.zero_add]; exact (hsp j hj).2)
  rw [Nat.zero_add] at hrun
  unfold Oper.wp
  simp [execOp, hop, resolve, invoke, builtin, hs, hx, hrun, Result.andThen]
  exact hK' _ _ hK

def Ad.opt (A : Ad) : Option Nat → Value
  | none => .pointer none
  | some c => A.ptr (.clause c)


/-- Between two rounds of visit: i watches were looked at, k of them stay; what lies between is of no use. -/
def Vis (w W : World) (A : Ad) (s : Sv) (gone b i k : Nat) : Prop :=
  ∃ (A1 : Ad) (s1 : Sv) (stay mid : List (Nat × Nat)), stay.length = k ∧ stay.length + mid.length = i ∧ i ≤ (s.wat gone).length ∧ Step w W A A1 (s1.setW gone (stay ++ mid ++ (s.wat gone).drop i)) ∧
    Fit (s1.setW gone (stay ++ (s.wat gone).drop i)) ∧ s1.val gone = -1 ∧ Sv.visitL gone ((s.wat gone).drop i) stay s1 = s.visit gone ∧ A1.blk (.win gone) = some b ∧ A1.sp (.win gone) = A.sp (.win gone) ∧
    (∀ r, r ≠ .trail → (∀ l, r ≠ .win l) → A1.blk r = A.blk r ∧ A1.sp r = A.sp r) ∧ s1.n = s.n ∧ s1.cl.length = s.cl.length ∧ s1.ws.length = s.ws.length

theorem Mem.vcell {W : World} {A : Ad} {s : Sv} (h : Mem W A s) {vb : Nat} (hvb : A.blk .vals = some vb) {l : Nat} (hl : l < 2 * s.n + 2) : W.cell? ⟨vb, l, none⟩ = some (.int .i8 (s.val l)) := by
  refine h.cell hvb ?_
  show (s.vals.map _)[l]? = _
  have hl2 : l < s.vals.length := by rw [h.lv]; exact hl
  rw [List.getElem?_map, List.getElem?_eq_getElem hl2]
  simp [Sv.val, List.getElem?_eq_getElem hl2]

theorem Vis.start {w : World} {A : Ad} {s : Sv} (h : Mem w A s) (hF : Fit s) {gone b : Nat} (hg : gone < s.ws.length) (hv : s.val gone = -1) (hb : A.blk (.win gone) = some b) : Vis w w A s gone b 0 0 := by
  refine ⟨A, s, [], [], rfl, rfl, Nat.zero_le _, ?_, ?_, hv, rfl, hb, rfl, fun _ _ _ => ⟨rfl, rfl⟩, rfl, rfl, rfl⟩
  · simp only [List.nil_append, List.drop_zero]
    rw [setW_self hg]
    exact ⟨h, Kept.refl _ _, fun _ hk => Or.inl hk⟩
  · simp only [List.nil_append, List.drop_zero]
    rw [setW_self hg]
    exact hF

theorem watC_one (A : Ad) (c o : Nat) : watC A [(c, o)] = [A.ptr (.clause c), i32 o] := by simp [watC]

/-- A watch is kept: it is written behind those that stay. -/
theorem Step.push {w W : World} {A A1 : Ad} {s1 : Sv} {gone b : Nat} {stay mid rest : List (Nat × Nat)} {x : Nat × Nat} (hg : gone < s1.ws.length) (h : Step w W A A1 (s1.setW gone (stay ++ mid ++ x :: rest))) (hb : A1.blk (.win gone) = some b) (c o : Nat) :
    ∃ mid', mid'.length = mid.length ∧ Step w (W.setCells b (stay.length * 2) [A1.ptr (.clause c), i32 o]) A A1 (s1.setW gone (stay ++ [(c, o)] ++ mid' ++ rest)) := by
  have P := h.mem.putWin hg hb stay.length [(c, o)] (by simp; omega)
  rw [watC_one] at P
  obtain ⟨y, mid', hy⟩ : ∃ y mid', mid ++ [x] = y :: mid' := by
    cases mid with
    | nil => exact ⟨x, [], rfl⟩
    | cons z m => exact ⟨z, m ++ [x], rfl⟩
  have hlen : mid'.length = mid.length := by
    have := congrArg List.length hy
    simp at this
    omega
  have e : stay ++ mid ++ x :: rest = stay ++ (y :: (mid' ++ rest)) := by
    have : mid ++ x :: rest = (mid ++ [x]) ++ rest := by simp
    rw [List.append_assoc, this, hy]; rfl
  have e2 : (stay ++ mid ++ x :: rest).take stay.length ++ [(c, o)] ++ (stay ++ mid ++ x :: rest).drop (stay.length + [(c, o)].length) = stay ++ [(c, o)] ++ mid' ++ rest := by
    rw [e]
    simp [List.take_left', List.drop_append, List.append_assoc]
  rw [e2] at P
  exact ⟨mid', hlen, h.trans ⟨P, setCells_kept _ ⟨_, hb⟩ _ _ _ _ (Kept.refl _ _), fun _ hk => Or.inl hk⟩⟩

theorem Mem.spare {W : World} {A : Ad} {s : Sv} (h : Mem W A s) {r : Role} {b : Nat} (hb : A.blk r = some b) {i : Nat} (hi : i < (cellsR A s r).length) : (W.cell? ⟨b, i, none⟩).isSome = true ∧ W.frozen? ⟨b, i, none⟩ = false := by
  rw [h.cell hb (List.getElem?_eq_getElem hi)]
  exact ⟨rfl, h.frozen hb i⟩

theorem Mem.setSame {W : World} {A : Ad} {s : Sv} (h : Mem W A s) {r : Role} {b i : Nat} {v : Value} (hb : A.blk r = some b) (hi : (cellsR A s r)[i]? = some v) : Mem (W.setCell ⟨b, i, none⟩ v) A s := by
  refine { h with has := h.set hb i v ?_ (fun _ _ => rfl) }
  obtain ⟨h1, h2⟩ := List.getElem?_eq_some_iff.1 hi
  rw [← h2, List.set_getElem_self]

/-- append where there is room, as one step of a region that draws. -/
theorem step_append_put {P : Program} {ops : Array Oper} {o : Oper} {a : Act} {w : World} {K : Act → World → Prop} {Q : Exit → Act → World → Prop} {E : Prop}
    (hg : o.guard = none) (s x : Operand) (t : TypeId) (hop : o.op = Op.call { callee := Callee.builtin Builtin.append, args := #[s, x], argTypes := #[t, t] })
    (e : TypeId) (i : TypeInfo) (size : Nat) (h1 : P.underlying t = some (.slice e)) (h2 : P.info? e = some i) (h4 : i.size = size)
    (b n cap : Nat) (hs : a.eval s = .slice (some ⟨b, 0, none⟩) n cap)
    (ad : Addr) (m c : Nat) (news : List Value) (hx : a.eval x = .slice (some ad) m c) (hn : news.length = m * size) (hc : ∀ j u, news[j]? = some u → w.cell? (ad.add j) = some u) (h1c : ∀ u ∈ news, u.oneCell' = true)
    (hr : n + m ≤ cap) (hsp : ∀ j, j < news.length → (w.cell? ⟨b, n * size + j, none⟩).isSome = true ∧ w.frozen? ⟨b, n * size + j, none⟩ = false)
    (hK : ∀ w', w' = w.setCells b (n * size) news → K (a.put o.dst (.slice (some ⟨b, 0, none⟩) (n + m) cap)) w') :
    if Region.wanted o (yielded ops a.tmps) = true then Oper.wp P o a w K Q else E := by
  have hw : Region.wanted o (yielded ops a.tmps) = true := by simp [Region.wanted, hg]
  rw [if_pos hw]
  subst h4
  have hrun := run_append_room_cells (P := P) w t o.type e i h1 h2 b 0 n cap ad m c news hn hc h1c hr (fun j hj => by rw [Nat.zero_add]; exact (hsp j hj).1) (fun j hj => by rw [Nat.zero_add]; exact (hsp j hj).2)
  rw [Nat.zero_add] at hrun
  unfold Oper.wp
  simp [execOp, hop, resolve, invoke, builtin, hs, hx, hrun, Result.andThen]
  exact hK _ rfl

set_option maxRecDepth 100000 in
set_option maxHeartbeats 2000000 in
theorem visit_in (w : World) (A : Ad) (s : Sv) (h : Mem w A s) (hF : Fit s) (sb : Nat) (hsb : A.blk .search = some sb) (gone : Nat) (hgone : gone < 2 * s.n + 2) (hvg : s.val gone = -1) (hcl : s.cl.length ≤ 4398046511100) :
    Calls Tryz.prog 210 #[.pointer (some ⟨sb, 0, none⟩), i32 gone] w fun e w' => e = .returned (A.opt (s.visit gone).1) ∧ ∃ A', Step w w' A A' (s.visit gone).2 ∧ Fit (s.visit gone).2 ∧ ∀ r, r ≠ .trail → (∀ l, r ≠ .win l) → A'.blk r = A.blk r ∧ A'.sp r = A.sp r := by
  obtain ⟨wb, hwb⟩ := h.fix .wout rfl
  have c1 := h.cell hsb (i := 1) rfl
  simp only [Ad.slv, hwb, h.flat.2.1, List.length_nil, Nat.zero_div, Nat.add_zero] at c1
  have hgw : gone < s.ws.length := by rw [h.lw]; exact hgone
  have g1 := h.cell hwb (i := gone) (v := A.slv (.win gone) (s.wat gone).length 2) (by
    simp only [cellsR, List.getElem?_mapIdx, List.getElem?_eq_getElem hgw, Option.map_some, Sv.wat, Option.getD_some])
  have f1 := h.frozen hwb gone
  have dg : (gone : Int) < 2 * (s.n : Int) + 2 := by omega
  unfold i32
  cases hb : A.blk (.win gone) with
  | none =>
    have hnil := h.win gone hb
    simp only [Ad.slv, hb] at g1
    have HM : Hid _ := h
    have HF : Hid _ := hF
    clear h hF
    go_enter Tryz.func210, Tryz.ntmps210
    go_wp2_with fail
    go_loopw [6, 21] (fun t6 t21 W => t6 = .slice none 0 0 ∧ t21 = .int .i64 0 ∧ W = w) (fun _ _ _ => 0)
    case atStart => exact ⟨rfl, rfl, rfl⟩
    case round =>
      obtain ⟨rfl, rfl, rfl⟩ := hrel
      go_wp2_with fail
      go_ret
      have hv : s.visit gone = (none, s) := by
        unfold Sv.visit
        rw [hnil]
        have := setW_self hgw
        rw [hnil] at this
        exact congrArg (Prod.mk none) this
      rw [hv]
      have M2 : Mem (wr.setCell ⟨wb, gone, none⟩ (.slice none 0 0)) A s := HM.out.setSame hwb (by
        simp only [cellsR, List.getElem?_mapIdx, List.getElem?_eq_getElem hgw, Option.map_some, Ad.slv, hb])
      exact ⟨rfl, A, ⟨M2, (Kept.refl _ _).setCell (p := ⟨wb, gone, none⟩) ⟨_, hwb⟩ _, fun _ hk => Or.inl hk⟩, HF.out, fun _ _ _ => ⟨rfl, rfl⟩⟩
  | some b =>
    simp only [Ad.slv, hb] at g1
    have V0 := Vis.start h hF hgw hvg hb
    have hcap := h.caps (.win gone) rfl
    simp only [lenR, sizR] at hcap
    have hlc : (s.wat gone).length ≤ s.cl.length := hF.wat_le gone
    generalize hal : (s.wat gone).length = len at *
    generalize hcp : len + (A.sp (.win gone)).length / 2 = cap at *
    obtain ⟨vb, hvb⟩ := h.fix .vals rfl
    have hsm := h.small
    have hbn : b ≠ sb := fun e => by have := h.inj _ _ _ hb (e ▸ hsb); cases this
    have hlenA : ∀ j, j < len * 2 → j < (cellsR A s (.win gone)).length := fun j hj => by
      simp only [cellsR, List.length_append, watC_len, hal]; omega
    have hflat := h.flat.1
    clear h hF
    go_enter Tryz.func210, Tryz.ntmps210
    go_wp2_with fail
    go_loopw [6, 21] (fun t6 t21 W => ∃ i k : Nat, t6 = .slice (some ⟨b, 0, none⟩) k cap ∧ t21 = .int .i64 (i : Int) ∧ Vis w W A s gone b i k) (fun _ t21 _ => len - (intOf t21).toNat)
    case atStart => exact ⟨0, 0, rfl, rfl, V0⟩
    case round =>
      obtain ⟨i, k, rfl, rfl, A1, s1, stay, mid, hk, hki, hil, S1, F1, hv1, hvis, hb1, hsp1, hsame, hn1, hcl1, hws1⟩ := hrel
      rw [hal] at hil
      by_cases hlt : i < len
      · have di : decide ((i : Int) < (len : Int)) = true := decide_eq_true (by omega)
        have hia : i < (s.wat gone).length := by rw [hal]; exact hlt
        obtain ⟨c, o, hco⟩ : ∃ c o, (s.wat gone)[i] = (c, o) := ⟨_, _, rfl⟩
        have hdr : (s.wat gone).drop i = (c, o) :: (s.wat gone).drop (i + 1) := by rw [List.drop_eq_getElem_cons hia, hco]
        rw [hdr] at S1 F1 hvis
        have M1 := S1.mem
        have hgw1 : gone < s1.ws.length := by rw [hws1]; exact hgw
        have WW := wat_setW hgw1 (stay ++ mid ++ (c, o) :: (s.wat gone).drop (i + 1))
        obtain ⟨hc, ho, a0, b0, r0, hl0, hgab⟩ := F1.wat gone (c, o) (by rw [wat_setW hgw1, if_pos rfl]; simp)
        have hc : c < s1.cl.length := hc
        have ho : o ∈ s1.lits c := ho
        have hl0 : s1.lits c = a0 :: b0 :: r0 := hl0
        have hlts : ∀ l ∈ s1.lits c, l < 2 * s.n + 2 := fun l hl => by rw [← hn1]; exact (F1.cls c).2 l hl
        have hon := hlts o ho
        obtain ⟨cb, hcb⟩ := (M1.cls c).2 hc
        have hsb1 : A1.blk .search = some sb := (hsame .search (by decide) (by intro l e; cases e)).1.trans hsb
        have hvb1 : A1.blk .vals = some vb := (hsame .vals (by decide) (by intro l e; cases e)).1.trans hvb
        have hwb1 : A1.blk .wout = some wb := (hsame .wout (by decide) (by intro l e; cases e)).1.trans hwb
        have hget : (stay ++ mid ++ (c, o) :: (s.wat gone).drop (i + 1))[i]? = some (c, o) := by
          rw [List.getElem?_append_right (by simp; omega)]
          simp [hki]
        have hcellW : cellsR A1 (s1.setW gone (stay ++ mid ++ (c, o) :: (s.wat gone).drop (i + 1))) (.win gone) = watC A1 (stay ++ mid ++ (c, o) :: (s.wat gone).drop (i + 1)) ++ A1.sp (.win gone) := by
          simp only [cellsR, WW, if_true]
        have hlenW : (stay ++ mid ++ (c, o) :: (s.wat gone).drop (i + 1)).length = len := by simp; omega
        obtain ⟨q1, q2⟩ := watC_get A1 hget
        have e1 := M1.cell hb1 (i := i * 2) (v := .pointer (some ⟨cb, 0, none⟩)) (by rw [hcellW, List.getElem?_append_left (by rw [watC_len, hlenW]; omega), q1]; simp [Ad.ptr, hcb])
        have e2 := M1.cell hb1 (i := i * 2 + 1) (v := i32 o) (by rw [hcellW, List.getElem?_append_left (by rw [watC_len, hlenW]; omega), q2])
        have c0 := M1.cell hsb1 (i := 0) rfl
        simp only [Ad.slv, hvb1, M1.flat.1, List.length_nil, Nat.zero_div, Nat.add_zero, show (s1.setW gone (stay ++ mid ++ (c, o) :: (s.wat gone).drop (i + 1))).n = s.n from hn1] at c0
        have vo := M1.vcell hvb1 (l := o) (by show o < 2 * s1.n + 2; rw [hn1]; exact hon)
        rw [show (s1.setW gone (stay ++ mid ++ (c, o) :: (s.wat gone).drop (i + 1))).val o = s1.val o from rfl] at vo
        unfold i32 at e2
        have don : (o : Int) < 2 * (s.n : Int) + 2 := by omega
        have HM1 : Hid _ := M1
        have HS1 : Hid _ := S1
        have HF1 : Hid _ := F1
        have HV : Hid _ := hvis
        have HSA : Hid _ := hsame
        have HLT : Hid _ := hlts
        clear M1 S1 F1 hvis hsame hlts WW q1 q2 hget c0 vo
        go_wp2_with fail
        have hfoot : ¬ A1.Foot wr.heap.size := fun ⟨r, hr⟩ => by have := HM1.out.lt hr; omega
        have S2 := HS1.out.alloc (Obj.cells #[.pointer (some ⟨cb, 0, none⟩), .int .i32 (o : Int)] 274)
        have hbox : (wr.alloc (Obj.cells #[.pointer (some ⟨cb, 0, none⟩), .int .i32 (o : Int)] 274)).heap[wr.heap.size]? = some (Obj.cells #[.pointer (some ⟨cb, 0, none⟩), .int .i32 (o : Int)] 274) := heap_alloc_new _ _
        have hbxs : wr.heap.size < (wr.alloc (Obj.cells #[.pointer (some ⟨cb, 0, none⟩), .int .i32 (o : Int)] 274)).heap.size := by simp
        clear e1 e2 HM1 HS1
        generalize (wr.alloc (Obj.cells #[.pointer (some ⟨cb, 0, none⟩), .int .i32 (o : Int)] 274)) = w2 at *
        generalize wr.heap.size = bx at *
        have M2 := S2.mem
        have c0 := M2.cell hsb1 (i := 0) rfl
        simp only [Ad.slv, hvb1, M2.flat.1, List.length_nil, Nat.zero_div, Nat.add_zero, show (s1.setW gone (stay ++ mid ++ (c, o) :: (s.wat gone).drop (i + 1))).n = s.n from hn1] at c0
        have vo := M2.vcell hvb1 (l := o) (by show o < 2 * s1.n + 2; rw [hn1]; exact hon)
        rw [show (s1.setW gone (stay ++ mid ++ (c, o) :: (s.wat gone).drop (i + 1))).val o = s1.val o from rfl] at vo
        have x0 : w2.cell? ⟨bx, 0, none⟩ = some (.pointer (some ⟨cb, 0, none⟩)) := by simp [World.cell?, hbox]
        have x1 : w2.cell? ⟨bx, 1, none⟩ = some (.int .i32 (o : Int)) := by simp [World.cell?, hbox]
        have HM2 : Hid _ := M2
        have HS2 : Hid _ := S2
        have HBX : Hid _ := hbox
        have hwrap : IntKind.i64.wrap ((i : Int) + 1) = (i : Int) + 1 := by rw [IntKind.wrap_i64]; omega
        clear M2 S2 hbox
        have HSP : Hid (∀ (m : Nat) (O : Obj) (j : Nat), j < 2 → (((w2.drewN m).alloc O).cell? ⟨b, k * 2 + j, none⟩).isSome = true ∧ ((w2.drewN m).alloc O).frozen? ⟨b, k * 2 + j, none⟩ = false) := fun m O j hj => by
          refine ((HM2.out.keep (W' := w2.drewN m) (fun _ _ => rfl)).alloc O).spare hb1 ?_
          rw [hcellW, List.length_append, watC_len, hlenW]; omega
        obtain ⟨i0, hi0, hz0, hz1, hz2⟩ := info_parts infoWatch
        by_cases hvo : s1.val o = 1
        · rw [hvo] at vo
          go_quiet (fail)
          go_wp2_with (first | (at_builtin; refine Aside.out ?_))
          delta Aside
          refine wpList_append_put _ rfl _ _ 272 rfl 274 i0 2 Tryz.underlying272 hi0 hz1 b k cap rfl ⟨_, 0, none⟩ 1 1 [.pointer (some ⟨cb, 0, none⟩), .int .i32 (o : Int)] rfl rfl (cell_two1 (w2.drewN nq) _ _ _) (by simp [Value.oneCell']) (by omega) (HSP.out nq _) ?_
          go_wp2_with fail
          obtain ⟨mid', hm', S5⟩ := Step.push hgw1 ((HS2.out.trans (Step.drew HM2.out nq)).alloc (Obj.cells #[.pointer (some ⟨cb, 0, none⟩), .int .i32 (o : Int)] 274)) hb1 c o
          have hp : A1.ptr (.clause c) = .pointer (some ⟨cb, 0, none⟩) := by simp [Ad.ptr, hcb]
          rw [hp, hk] at S5
          have hvis2 := HV.out
          rw [Sv.visitL, if_pos hvo] at hvis2
          refine ⟨⟨i + 1, k + 1, rfl, by simp, A1, s1, stay ++ [(c, o)], mid', by simp [hk], by simp; omega, by omega, S5, ?_, hv1, hvis2, hb1, hsp1, HSA.out, hn1, hcl1, hws1⟩, by simp [intOf]; omega⟩
          have := HF1.out
          rwa [show stay ++ (c, o) :: (s.wat gone).drop (i + 1) = stay ++ [(c, o)] ++ (s.wat gone).drop (i + 1) from by simp] at this
        · have dvo : (s1.val o == 1) = false := by simpa using hvo
          have hvis2 := HV.out
          rw [Sv.visitL, if_neg hvo] at hvis2
          have HV2 : Hid _ := hvis2
          have HFM : Hid _ := Fit.moves hgw1 HF1.out hv1
          have MV : Hid (∀ m, Calls Tryz.prog 241 #[.pointer (some ⟨sb, 0, none⟩), .pointer (some ⟨cb, 0, none⟩), .int .i32 (gone : Int)] (w2.drewN m) fun e w' => e = .returned (.bool (s1.moves c gone).1) ∧ ∃ A', Step (w2.drewN m) w' A1 A' ((s1.moves c gone).2.setW gone (stay ++ mid ++ (c, o) :: (s.wat gone).drop (i + 1))) ∧ ∀ r, (∀ l, s1.val l ≠ -1 → r ≠ .win l) → A'.blk r = A1.blk r ∧ A'.sp r = A1.sp r) := fun m => by
            have C := moves_in (w2.drewN m) A1 (s1.setW gone (stay ++ mid ++ (c, o) :: (s.wat gone).drop (i + 1))) (HM2.out.keep (fun _ _ => rfl)) sb hsb1 c cb hcb a0 b0 r0 hl0 (fun l hl => by show l < 2 * s1.n + 2; rw [hn1]; exact HLT.out l hl) gone (by show gone < 2 * s1.n + 2; rw [hn1]; exact hgone) (by
              have h1 := HF1.out.lits_le c
              have h2 : (s1.lits c).length ≤ 2 * s1.n + 2 := h1
              show (s1.lits c).length ≤ 4002
              rw [hn1] at h2
              omega) (fun l => by
              rw [wat_setW hgw1]
              split
              · rw [hlenW]; omega
              · next e =>
                have h1 := HF1.out.wat_le l
                rw [wat_setW hgw1, if_neg e] at h1
                have h2 : (s1.wat l).length ≤ s1.cl.length := h1
                rw [hcl1] at h2
                omega)
            rw [moves_setW hv1] at C
            exact C
          clear HV
          generalize s1.val o = vlo at *
          have hgne : ∀ l, s1.val l ≠ -1 → Role.win gone ≠ .win l := fun l hl e => by cases e; exact hl hv1
          have HGN : Hid _ := hgne
          clear hgne
          obtain ⟨s2, hs2⟩ : ∃ s2, s2 = (s1.moves c gone).2 := ⟨_, rfl⟩
          have HFM' := HFM.out
          rw [← hs2] at HFM'
          obtain ⟨hn2, hvals2, htr2, hcl2, hws2, hmt, hmf⟩ := HFM'
          have HMT : Hid _ := hmt
          have HMF : Hid _ := hmf
          have hv2 : s2.val gone = -1 := by unfold Sv.val at hv1 ⊢; rw [hvals2]; exact hv1
          clear hmt hmf
          by_cases hm : (s1.moves c gone).1 = true
          · have MV1 := MV.out
            have HV3 := HV2.out
            simp only [hm, if_true, ← hs2] at MV1 HV3
            have HMV1 : Hid _ := MV1
            have HV4 : Hid _ := HV3
            clear MV1 HV3 MV HV2 HFM
            go_quiet (fail)
            go_wp2_with (first | (go_at_call 241; refine (HMV1.out nq).mono ?_; rintro e w3 ⟨rfl, A2, S3, hA2⟩))
            refine ⟨⟨i + 1, k, rfl, by simp, A2, s2, stay, mid ++ [(c, o)], hk, by simp; omega, by omega, ?_, HMT.out hm, hv2, HV4.out, (hA2 _ HGN.out).1.trans hb1, (hA2 _ HGN.out).2.trans hsp1, fun r h1 h2 => ?_, by rw [hn2, hn1], by rw [hcl2, hcl1], by rw [hws2, hws1]⟩, by simp [intOf]; omega⟩
            · have := (HS2.out.trans (Step.drew HM2.out nq)).trans S3
              rwa [show stay ++ mid ++ (c, o) :: (s.wat gone).drop (i + 1) = stay ++ (mid ++ [(c, o)]) ++ (s.wat gone).drop (i + 1) from by simp] at this
            · have h3 := hA2 r (fun l _ => h2 l)
              have h4 := HSA.out r h1 h2
              exact ⟨h3.1.trans h4.1, h3.2.trans h4.2⟩
          · have hm : (s1.moves c gone).1 = false := by simpa using hm
            have MV1 := MV.out
            have HV3 := HV2.out
            simp only [hm, Bool.false_eq_true, if_false, ← hs2] at MV1 HV3
            have HMV1 : Hid _ := MV1
            obtain ⟨m0, lr, hlm, hm0, hF3⟩ := HMF.out hm
            have hgd : (s2.lits c)[0]?.getD 0 = m0 := by rw [hlm]; rfl
            rw [hgd] at HV3
            have HV4 : Hid _ := HV3
            have HF3 : Hid _ := hF3
            clear MV1 HV3 MV HV2 HFM hgd hF3 hs2 HMT HMF hm
            go_quiet (fail)
            go_wp2_with (first | (go_at_call 241; refine (HMV1.out nq).mono ?_; rintro e w3 ⟨rfl, A2, S3, hA2⟩; refine Aside.out ?_))
            delta Aside
            have M3 := S3.mem
            have hb2 := (hA2 _ HGN.out).1.trans hb1
            have hsp2 := (hA2 _ HGN.out).2.trans hsp1
            have hcb2 : A2.blk (.clause c) = some cb := (hA2 (.clause c) (fun l _ e => by cases e)).1.trans hcb
            have hsb2 : A2.blk .search = some sb := (hA2 .search (fun l _ e => by cases e)).1.trans hsb1
            have hvb2 : A2.blk .vals = some vb := (hA2 .vals (fun l _ e => by cases e)).1.trans hvb1
            have hwb2 : A2.blk .wout = some wb := (hA2 .wout (fun l _ e => by cases e)).1.trans hwb1
            have hsame2 : ∀ r, r ≠ .trail → (∀ l, r ≠ .win l) → A2.blk r = A.blk r ∧ A2.sp r = A.sp r := fun r h1 h2 => by
              have h3 := hA2 r (fun l _ => h2 l)
              have h4 := HSA.out r h1 h2
              exact ⟨h3.1.trans h4.1, h3.2.trans h4.2⟩
            obtain ⟨rb, hrb⟩ := (M3.rows c).2 (show c < s2.cl.length by rw [hcl2]; exact hc)
            have hlen3 : (s2.lits c).length = lr.length + 1 := by rw [hlm]; rfl
            have k0 := M3.cell hcb2 (i := 0) rfl
            simp only [Ad.slv, hrb, show (s2.setW gone (stay ++ mid ++ (c, o) :: (s.wat gone).drop (i + 1))).lits c = m0 :: lr from hlm, List.length_cons] at k0
            have r0' := M3.cell hrb (i := 0) (v := i32 m0) (by
              show ((s2.lits c).map i32 ++ A2.sp (.crow c))[0]? = _
              rw [hlm]; rfl)
            unfold i32 at r0'
            have hblk3 : w3.heap[bx]? = w2.heap[bx]? := S3.kept.block bx hbxs hfoot
            have x0' : w3.cell? ⟨bx, 0, none⟩ = some (.pointer (some ⟨cb, 0, none⟩)) := (World.cell?_of_block (a := ⟨bx, 0, none⟩) hblk3).trans x0
            have hbx3 : bx < w3.heap.size := Nat.lt_of_lt_of_le hbxs S3.kept.size
            have hbxb : bx ≠ b := fun e => hfoot ⟨_, e ▸ hb1⟩
            have hwbx : wb ≠ bx := fun e => hfoot ⟨_, e ▸ hwb1⟩
            have HS3 : Hid _ := (HS2.out.trans (Step.drew HM2.out nq)).trans S3
            have HM3 : Hid _ := M3
            have HSA2 : Hid _ := hsame2
            have hcellW2 : cellsR A2 (s2.setW gone (stay ++ mid ++ (c, o) :: (s.wat gone).drop (i + 1))) (.win gone) = watC A2 (stay ++ mid ++ (c, o) :: (s.wat gone).drop (i + 1)) ++ A2.sp (.win gone) := by
              simp only [cellsR, wat_setW (show gone < s2.ws.length by rw [hws2]; exact hgw1), if_true]
            have HSP3 : Hid (∀ (O : Obj) (j : Nat), j < 2 → ((w3.alloc O).cell? ⟨b, k * 2 + j, none⟩).isSome = true ∧ (w3.alloc O).frozen? ⟨b, k * 2 + j, none⟩ = false) := fun O j hj => by
              refine (HM3.out.alloc O).spare hb2 ?_
              rw [hcellW2, List.length_append, watC_len, hlenW]; omega
            generalize hlr : lr.length + 1 = lrn at *
            generalize hcr : lrn + (A2.sp (.crow c)).length / 1 = crn at *
            have dlr : (0 : Int) < (lrn : Int) := by omega
            clear S3 M3 hsame2 hA2 hblk3 HSP hcellW2 x0 x1 c0 vo HMV1 HM2 HS2 hbxs
            apply_assumption
            go_wp2_with (first | (at_builtin; refine Aside.out ?_))
            delta Aside
            refine wpList_append_put _ rfl _ _ 272 rfl 274 i0 2 Tryz.underlying272 hi0 hz1 b k cap rfl ⟨_, 0, none⟩ 1 1 [.pointer (some ⟨cb, 0, none⟩), .int .i32 (m0 : Int)] rfl rfl (cell_two1 w3 _ _ _) (by simp [Value.oneCell']) (by omega) (HSP3.out _) ?_
            have hgw2 : gone < s2.ws.length := by rw [hws2]; exact hgw1
            obtain ⟨mid', hm', S4⟩ := Step.push hgw2 (HS3.out.alloc (Obj.cells #[.pointer (some ⟨cb, 0, none⟩), .int .i32 (m0 : Int)] 274)) hb2 c m0
            have hp : A2.ptr (.clause c) = .pointer (some ⟨cb, 0, none⟩) := by simp [Ad.ptr, hcb2]
            rw [hp, hk] at S4
            have x0'' : ((w3.alloc (Obj.cells #[.pointer (some ⟨cb, 0, none⟩), .int .i32 (m0 : Int)] 274)).setCells b (k * 2) [.pointer (some ⟨cb, 0, none⟩), .int .i32 (m0 : Int)]).cell? ⟨bx, 0, none⟩ = some (.pointer (some ⟨cb, 0, none⟩)) :=
              (World.cell?_of_block (a := ⟨bx, 0, none⟩) ((setCells_other b _ _ _ bx hbxb).trans (Below.heap_alloc _ _ _ hbx3))).trans x0'
            clear x0' k0 r0' HS3 HM3 HSP3 hlr hcr
            have S4 : Step w ((w3.alloc (Obj.cells #[.pointer (some ⟨cb, 0, none⟩), .int .i32 (m0 : Int)] 274)).setCells b (k * 2) [.pointer (some ⟨cb, 0, none⟩), .int .i32 (m0 : Int)]) A A2 (s2.setW gone (stay ++ [(c, m0)] ++ mid' ++ (s.wat gone).drop (i + 1))) := S4
            generalize ((w3.alloc (Obj.cells #[.pointer (some ⟨cb, 0, none⟩), .int .i32 (m0 : Int)] 274)).setCells b (k * 2) [.pointer (some ⟨cb, 0, none⟩), .int .i32 (m0 : Int)]) = w4 at *
            have M4 := S4.mem
            have c0 := M4.cell hsb2 (i := 0) rfl
            simp only [Ad.slv, hvb2, M4.flat.1, List.length_nil, Nat.zero_div, Nat.add_zero, show (s2.setW gone (stay ++ [(c, m0)] ++ mid' ++ (s.wat gone).drop (i + 1))).n = s.n from hn2.trans hn1] at c0
            have hm0n : m0 < 2 * s.n + 2 := by rw [← hn1]; exact hm0
            have vm := M4.vcell hvb2 (l := m0) (by show m0 < 2 * s2.n + 2; rw [hn2, hn1]; exact hm0n)
            rw [show (s2.setW gone (stay ++ [(c, m0)] ++ mid' ++ (s.wat gone).drop (i + 1))).val m0 = s2.val m0 from rfl] at vm
            have dm0 : (m0 : Int) < 2 * (s.n : Int) + 2 := by omega
            have HM4 : Hid _ := M4
            have HS4 : Hid _ := S4
            have eapp : stay ++ (c, m0) :: (s.wat gone).drop (i + 1) = stay ++ [(c, m0)] ++ (s.wat gone).drop (i + 1) := by simp
            have HF4 := HF3.out
            rw [eapp] at HF4
            have HF5 : Hid _ := HF4
            clear M4 S4 HF4 HF3 eapp
            have hn3 : s2.n = s.n := hn2.trans hn1
            have hcl3 : s2.cl.length = s.cl.length := hcl2.trans hcl1
            have hws3 : s2.ws.length = s.ws.length := hws2.trans hws1
            clear hn2 hcl2 hws2 hvals2 htr2 hn1 hcl1 hws1 hl0 hlm hlen3 HF1
            by_cases hv0 : s2.val m0 = 0
            · rw [hv0] at vm
              have HV5 := HV4.out
              rw [if_pos hv0] at HV5
              have HV6 : Hid _ := HV5
              have AS : Hid (∀ m, _) := fun m => assign_in (w4.drewN m) A2 _ (HM4.out.keep (fun _ _ => rfl)) sb hsb2 m0 (by show m0 < 2 * s2.n + 2; rw [hn3]; exact hm0n) (by
                have h1 := HF5.out.trail_le
                have h2 : s2.trail.length ≤ 2 * s2.n + 2 := h1
                show s2.trail.length ≤ _
                rw [hn3] at h2
                omega) (some ⟨cb, 0, none⟩)
              clear HV5 HV4
              unfold i32 at AS
              go_wp2_with (first | (go_at_call 161; refine (AS.out 0).mono ?_; rintro e w5 ⟨rfl, A3, S5, hA3⟩))
              have hlt2 : m0 < 2 * (s2.setW gone (stay ++ [(c, m0)] ++ (s.wat gone).drop (i + 1))).n + 2 := by show m0 < 2 * s2.n + 2; rw [hn3]; exact hm0n
              refine ⟨⟨i + 1, k + 1, rfl, by simp, A3, s2.assign m0, stay ++ [(c, m0)], mid', by simp [hk], by simp; omega, by omega, (HS4.out.trans (Step.drew HM4.out 0)).trans S5, HF5.out.assign hlt2 hv0, (Grow.assign HF5.out hlt2 hv0).no gone hv2, HV6.out, (hA3 _ (by intro e; cases e)).1.trans hb2, (hA3 _ (by intro e; cases e)).2.trans hsp2, fun r h1 h2 => ?_, hn3, hcl3, hws3⟩, by simp [intOf]; omega⟩
              have h3 := hA3 r h1
              have h4 := HSA2.out r h1 h2
              exact ⟨h3.1.trans h4.1, h3.2.trans h4.2⟩
            · have HV5 := HV4.out
              rw [if_neg hv0] at HV5
              have dv0 : (s2.val m0 == 0) = false := by simpa using hv0
              by_cases hvn : s2.val m0 = -1
              · rw [hvn] at vm
                rw [if_pos hvn] at HV5
                have HV6 : Hid _ := HV5
                clear HV5 HV4 dv0
                have c1' := HM4.out.cell hsb2 (i := 1) rfl
                simp only [Ad.slv, hwb2, HM4.out.flat.2.1, List.length_nil, Nat.zero_div, Nat.add_zero, show (s2.setW gone (stay ++ [(c, m0)] ++ mid' ++ (s.wat gone).drop (i + 1))).n = s.n from hn3] at c1'
                have HT : Hid (∀ (w8 : World), w8 = w4.drew.setCells b ((k + 1) * 2) (watC A2 ((s.wat gone).drop (i + 1))) → w8.cell? ⟨sb, 1, none⟩ = some (.slice (some ⟨wb, 0, none⟩) (2 * s.n + 2) (2 * s.n + 2)) ∧ w8.cell? ⟨wb, gone, none⟩ = some (.slice (some ⟨b, 0, none⟩) len cap) ∧ w8.frozen? ⟨wb, gone, none⟩ = false ∧ w8.cell? ⟨bx, 0, none⟩ = some (.pointer (some ⟨cb, 0, none⟩)) ∧
                    ∃ A', Step w (w8.setCell ⟨wb, gone, none⟩ (.slice (some ⟨b, 0, none⟩) (k + 1 + (len - (i + 1))) cap)) A A' (s2.setW gone (stay ++ [(c, m0)] ++ (s.wat gone).drop (i + 1))) ∧ ∀ r, r ≠ .trail → (∀ l, r ≠ .win l) → A'.blk r = A.blk r ∧ A'.sp r = A.sp r) := fun w8 hw8 => by
                  have hrl : ((s.wat gone).drop (i + 1)).length = len - (i + 1) := by simp [hal]
                  have hml : stay.length + 1 + mid'.length = i + 1 := by omega
                  have S6 : Step w w4.drew A A2 _ := HS4.out.trans (Step.drew HM4.out 1)
                  have P := S6.mem.putWin hgw2 hb2 (stay ++ [(c, m0)]).length ((s.wat gone).drop (i + 1)) (by simp; omega)
                  have ek : (stay ++ [(c, m0)]).length * 2 = (k + 1) * 2 := by simp [hk]
                  rw [ek, ← hw8] at P
                  have eL : (stay ++ [(c, m0)] ++ mid' ++ (s.wat gone).drop (i + 1)).take (stay ++ [(c, m0)]).length = stay ++ [(c, m0)] := by
                    rw [List.append_assoc (stay ++ [(c, m0)]), List.take_left' rfl]
                  rw [eL] at P
                  have hZ : ((stay ++ [(c, m0)] ++ mid' ++ (s.wat gone).drop (i + 1)).drop ((stay ++ [(c, m0)]).length + ((s.wat gone).drop (i + 1)).length)).length = mid'.length := by simp; omega
                  generalize (stay ++ [(c, m0)] ++ mid' ++ (s.wat gone).drop (i + 1)).drop ((stay ++ [(c, m0)]).length + ((s.wat gone).drop (i + 1)).length) = Z at P hZ
                  have hout : cellsR A2 (s2.setW gone (stay ++ [(c, m0)] ++ (s.wat gone).drop (i + 1) ++ Z)) .wout = cellsR A2 (s2.setW gone (stay ++ [(c, m0)] ++ (s.wat gone).drop (i + 1) ++ Z)) .wout := rfl
                  have S7 : Step w w8 A A2 (s2.setW gone (stay ++ [(c, m0)] ++ (s.wat gone).drop (i + 1) ++ Z)) := S6.trans ⟨P, by rw [hw8]; exact setCells_kept _ ⟨_, hb2⟩ _ _ _ _ (Kept.refl _ _), fun _ hk => Or.inl hk⟩
                  have CW := P.cutWin hgw2 hwb2 hb2
                  have eX : (stay ++ [(c, m0)] ++ (s.wat gone).drop (i + 1)).length = k + 1 + (len - (i + 1)) := by simp [hk, hal]; omega
                  have eC : k + 1 + (len - (i + 1)) + Z.length + (A2.sp (.win gone)).length / 2 = cap := by rw [hsp2, ← hcp, hZ]; omega
                  rw [eX, eC] at CW
                  refine ⟨?_, ?_, P.frozen hwb2 gone, ?_, _, S7.trans ⟨CW, (Kept.refl _ _).setCell (p := ⟨wb, gone, none⟩) ⟨_, hwb2⟩ _, fun q hq => ?_⟩, fun r h1 h2 => ?_⟩
                  · have := P.cell hsb2 (i := 1) rfl
                    simpa only [Ad.slv, hwb2, P.flat.2.1, List.length_nil, Nat.zero_div, Nat.add_zero, show (s2.setW gone (stay ++ [(c, m0)] ++ (s.wat gone).drop (i + 1) ++ Z)).n = s.n from hn3] using this
                  · refine P.cell hwb2 (i := gone) ?_
                    have hl2 : gone < (s2.setW gone (stay ++ [(c, m0)] ++ (s.wat gone).drop (i + 1) ++ Z)).ws.length := by simp only [Sv.setW, List.length_set]; exact hgw2
                    simp only [cellsR, List.getElem?_mapIdx, List.getElem?_eq_getElem hl2, Option.map_some]
                    simp only [Sv.setW, List.getElem_set_self, Ad.slv, hb2]
                    have eX2 : (stay ++ [(c, m0)] ++ (s.wat gone).drop (i + 1) ++ Z).length = len := by rw [List.length_append, eX, hZ]; omega
                    rw [eX2, hsp2, hcp]
                  · rw [hw8]
                    exact (World.cell?_of_block (a := ⟨bx, 0, none⟩) (setCells_other b _ _ _ bx hbxb)).trans x0''
                  · obtain ⟨r, hr⟩ := hq
                    by_cases er : r = .win gone
                    · subst er
                      have : q = b := by simpa [Ad.up] using hr.symm
                      subst this
                      exact Or.inl ⟨_, hb2⟩
                    · exact Or.inl ⟨r, by simpa [Ad.up, er] using hr⟩
                  · have := HSA2.out r h1 h2
                    exact ⟨(if_neg (h2 gone)).trans this.1, (if_neg (h2 gone)).trans this.2⟩
                have hcell4 : cellsR A2 (s2.setW gone (stay ++ [(c, m0)] ++ mid' ++ (s.wat gone).drop (i + 1))) (.win gone) = watC A2 (stay ++ [(c, m0)] ++ mid' ++ (s.wat gone).drop (i + 1)) ++ A2.sp (.win gone) := by
                  simp only [cellsR, wat_setW hgw2, if_true]
                have hlen4 : (stay ++ [(c, m0)] ++ mid' ++ (s.wat gone).drop (i + 1)).length = len := by simp; omega
                have hdrop4 : (stay ++ [(c, m0)] ++ mid' ++ (s.wat gone).drop (i + 1)).drop (i + 1) = (s.wat gone).drop (i + 1) := by
                  rw [List.drop_left' (by simp; omega)]
                obtain ⟨off, hoff, hnw⟩ : ∃ off, (if cap = i + 1 then some (⟨b, 0, none⟩ : Addr) else some ⟨b, (i + 1) * 2, none⟩) = some ⟨b, off, none⟩ ∧ ∀ (j : Nat) (u : Value), (watC A2 ((s.wat gone).drop (i + 1)))[j]? = some u → w4.drew.cell? ((⟨b, off, none⟩ : Addr).add j) = some u := by
                  have hx := watC_drop A2 (stay ++ [(c, m0)] ++ mid' ++ (s.wat gone).drop (i + 1)) (i + 1)
                  rw [hdrop4] at hx
                  by_cases e : cap = i + 1
                  · refine ⟨0, if_pos e, fun j u hj => ?_⟩
                    have := (List.getElem?_eq_some_iff.1 hj).1
                    rw [watC_len] at this
                    simp [hal] at this
                    omega
                  · refine ⟨(i + 1) * 2, if_neg e, fun j u hj => ?_⟩
                    rw [Go.WideShapes.add_plain]
                    refine (HM4.out.keep (W' := w4.drew) (fun _ _ => rfl)).cell hb2 ?_
                    have hj2 := (List.getElem?_eq_some_iff.1 hj).1
                    rw [watC_len] at hj2
                    simp [hal] at hj2
                    rw [← hx, List.getElem?_drop] at hj
                    rw [hcell4, List.getElem?_append_left (by rw [watC_len, hlen4]; omega), hj]
                have HNW : Hid _ := hnw
                have d0 : (0 : Int) ≤ (i : Int) + 1 := by omega
                clear hnw
                have HSP4 : Hid (∀ (j : Nat), j < (watC A2 ((s.wat gone).drop (i + 1))).length → (w4.drew.cell? ⟨b, (k + 1) * 2 + j, none⟩).isSome = true ∧ w4.drew.frozen? ⟨b, (k + 1) * 2 + j, none⟩ = false) := fun j hj => by
                  refine (HM4.out.keep (W' := w4.drew) (fun _ _ => rfl)).spare hb2 ?_
                  rw [watC_len] at hj
                  rw [hcell4, List.length_append, watC_len, hlen4]
                  simp [hal] at hj
                  omega
                have HNL : Hid ((watC A2 ((s.wat gone).drop (i + 1))).length = (len - (i + 1)) * 2) := by
                  show _ = _
                  rw [watC_len]; simp [hal]
                have HN1 : Hid (∀ u ∈ watC A2 ((s.wat gone).drop (i + 1)), u.oneCell' = true) := fun u hu => by
                  unfold watC at hu
                  obtain ⟨x, _, hx⟩ := List.mem_flatMap.1 hu
                  simp at hx
                  rcases hx with rfl | rfl
                  · simp [Ad.ptr, Value.oneCell']
                  · simp [i32, Value.oneCell']
                have dsl : ((i : Int) + 1 ≤ (len : Int)) := by omega
                have dlc : (len : Int) ≤ (cap : Int) := by omega
                have HOPT : Hid (A.opt (some c) = .pointer (some ⟨cb, 0, none⟩)) := by
                  show A.ptr (.clause c) = _
                  unfold Ad.ptr
                  rw [← (HSA2.out (.clause c) (by intro e; cases e) (by intro l e; cases e)).1, hcb2]
                  rfl
                clear hcell4 hlen4 hdrop4 HM4 HS4
                go_wp2_with fail
                refine wp_region_noPanic ?_
                go_region_law (first | (refine step_append_put rfl (.tmp 79) (.tmp 83) 272 rfl 274 i0 2 Tryz.underlying272 hi0 hz1 b (k + 1) cap (by (try simp only [Act.put, List.getElem_toArray, List.getElem_cons_succ, List.getElem_cons_zero, List.setIfInBounds_toArray, List.set_cons_succ, List.set_cons_zero]); first | rfl | (simp [Act.eval]; done)) ⟨b, off, none⟩ (len - (i + 1)) (cap - (i + 1)) (watC A2 ((s.wat gone).drop (i + 1))) (by (try simp only [Act.put, List.getElem_toArray, List.getElem_cons_succ, List.getElem_cons_zero, List.setIfInBounds_toArray, List.set_cons_succ, List.set_cons_zero]); first | rfl | (simp [Act.eval]; done)) HNL.out HNW.out HN1.out (by omega) HSP4.out ?_; intro w8 hw8; obtain ⟨y1, y2, y3, y4, A', ST, hsam⟩ := HT.out w8 hw8; have HFN : Hid (_ ∧ _) := And.intro ST hsam; clear ST hsam hw8))
                all_goals
                  try simp only [Act.put, List.getElem_toArray, List.getElem_cons_succ, List.getElem_cons_zero, List.setIfInBounds_toArray, List.set_cons_succ, List.set_cons_zero]
                  refine NoPanic.normal ?_
                  dsimp only [Exit.then]
                  apply_assumption
                  clear y1 y2 y3
                  have y5 : (w8.setCell ⟨wb, gone, none⟩ (.slice (some ⟨b, 0, none⟩) (k + 1 + (len - (i + 1))) cap)).cell? ⟨bx, 0, none⟩ = some (.pointer (some ⟨cb, 0, none⟩)) := (World.cell?_setCell_far _ ⟨wb, gone, none⟩ ⟨bx, 0, none⟩ _ hwbx).trans y4
                  go_wp2_with fail
                  go_ret
                  rw [← HV6.out]
                  exact ⟨HOPT.out.symm ▸ rfl, A', HFN.out.1, HF5.out, HFN.out.2⟩
              · rw [if_neg hvn] at HV5
                have dvn : (s2.val m0 == -1) = false := by simpa using hvn
                have HV6 : Hid _ := HV5
                clear HV5 HV4
                have hv2' : Hid (s2.val gone = -1) := hv2
                clear hv2
                generalize s2.val m0 = vm0 at *
                go_wp2_with fail
                refine ⟨⟨i + 1, k + 1, rfl, by simp, A2, s2, stay ++ [(c, m0)], mid', by simp [hk], by simp; omega, by omega, HS4.out, HF5.out, hv2'.out, HV6.out, hb2, hsp2, HSA2.out, hn3, hcl3, hws3⟩, by simp [intOf]; omega⟩
      · have di : decide ((i : Int) < (len : Int)) = false := decide_eq_false (by omega)
        have hie : i = len := by omega
        have hdr : (s.wat gone).drop i = [] := List.drop_of_length_le (by omega)
        rw [hdr] at S1 F1 hvis
        rw [List.append_nil] at S1 F1
        have hgw1 : gone < s1.ws.length := by rw [hws1]; exact hgw
        have hsb1 : A1.blk .search = some sb := (hsame .search (by decide) (by intro l e; cases e)).1.trans hsb
        have hwb1 : A1.blk .wout = some wb := (hsame .wout (by decide) (by intro l e; cases e)).1.trans hwb
        have c1' := S1.mem.cell hsb1 (i := 1) rfl
        simp only [Ad.slv, hwb1, S1.mem.flat.2.1, List.length_nil, Nat.zero_div, Nat.add_zero, show (s1.setW gone (stay ++ mid)).n = s.n from hn1] at c1'
        have g1' := (S1.mem.cell hwb1 (i := gone) (v := .slice (some ⟨b, 0, none⟩) len cap) (by
          have hl2 : gone < (s1.setW gone (stay ++ mid)).ws.length := by simp only [Sv.setW, List.length_set]; exact hgw1
          simp only [cellsR, List.getElem?_mapIdx, List.getElem?_eq_getElem hl2, Option.map_some]
          simp only [Sv.setW, List.getElem_set_self, Ad.slv, hb1, hsp1, List.length_append, hki]
          rw [hie, hcp]))
        have f1' := S1.mem.frozen hwb1 gone
        have CW := S1.mem.cutWin hgw1 hwb1 hb1
        rw [hki, hsp1, hie, hcp, hk] at CW
        have HS1 : Hid _ := S1
        have HF1 : Hid _ := F1
        have HV : Hid _ := hvis
        have HSA : Hid _ := hsame
        have HCW : Hid _ := CW
        clear S1 F1 hvis hsame CW c1 g1 f1
        go_wp2_with fail
        go_ret
        rw [← HV.out]
        refine ⟨rfl, _, HS1.out.trans ⟨HCW.out, (Kept.refl _ _).setCell (p := ⟨wb, gone, none⟩) ⟨_, hwb1⟩ _, fun q hq => ?_⟩, HF1.out, fun r h1 h2 => ?_⟩
        · obtain ⟨r, hr⟩ := hq
          by_cases er : r = .win gone
          · subst er
            have : q = b := by simpa [Ad.up] using hr.symm
            subst this
            exact Or.inl ⟨_, hb1⟩
          · exact Or.inl ⟨r, by simpa [Ad.up, er] using hr⟩
        · have := HSA.out r h1 h2
          exact ⟨(if_neg (h2 gone)).trans this.1, (if_neg (h2 gone)).trans this.2⟩

end Go.Proofs.YtlehlgipbhfioaaGreat

namespace Go.Proofs.YtlehlgipbhfioaaGreat
open Go.RowKit Go.Maps

/-- What visits leave as it was. -/
def Sim (s s' : Sv) : Prop := s'.n = s.n ∧ s'.seen = s.seen ∧ s'.starts = s.starts ∧ s'.hp = s.hp ∧ s'.fin = s.fin ∧ s'.cl.length = s.cl.length
theorem Sim.trans {s s1 s2 : Sv} (h : Sim s s1) (k : Sim s1 s2) : Sim s s2 := ⟨k.1.trans h.1, k.2.1.trans h.2.1, k.2.2.1.trans h.2.2.1, k.2.2.2.1.trans h.2.2.2.1, k.2.2.2.2.1.trans h.2.2.2.2.1, k.2.2.2.2.2.trans h.2.2.2.2.2⟩
theorem Sim.refl (s : Sv) : Sim s s := ⟨rfl, rfl, rfl, rfl, rfl, rfl⟩
theorem Sim.moves (s : Sv) (c g : Nat) : Sim s (s.moves c g).2 := by
  unfold Sv.moves
  split
  · exact ⟨rfl, rfl, rfl, rfl, rfl, by simp⟩
  · split
    · exact ⟨rfl, rfl, rfl, rfl, rfl, by simp⟩
    · exact ⟨rfl, rfl, rfl, rfl, rfl, by simp [Sv.addW]⟩
theorem Sim.visitL (g : Nat) : ∀ (rest stay : List (Nat × Nat)) (s : Sv), Sim s (Sv.visitL g rest stay s).2
  | [], stay, s => ⟨rfl, rfl, rfl, rfl, rfl, rfl⟩
  | w :: rest, stay, s => by
    rw [Sv.visitL]
    have hm := Sim.moves s w.1 g
    split
    · exact Sim.visitL g rest _ s
    · split
      · exact hm.trans (Sim.visitL g rest _ _)
      · split
        · exact (hm.trans ⟨rfl, rfl, rfl, rfl, rfl, rfl⟩).trans (Sim.visitL g rest _ _)
        · split
          · exact hm.trans ⟨rfl, rfl, rfl, rfl, rfl, rfl⟩
          · exact hm.trans (Sim.visitL g rest _ _)
theorem Sim.visit (s : Sv) (g : Nat) : Sim s (s.visit g).2 := Sim.visitL g _ _ s

theorem visitL_some (g : Nat) {c : Nat} : ∀ (rest stay : List (Nat × Nat)) (s : Sv), (Sv.visitL g rest stay s).1 = some c → ∃ w ∈ rest, w.1 = c
  | [], stay, s, h => by cases h
  | w :: rest, stay, s, h => by
    rw [Sv.visitL] at h
    have up : (∃ w ∈ rest, w.1 = c) → ∃ x ∈ w :: rest, x.1 = c := fun ⟨x, h1, h2⟩ => ⟨x, by simp [h1], h2⟩
    split at h
    · exact up (visitL_some g rest _ _ h)
    · split at h
      · exact up (visitL_some g rest _ _ h)
      · split at h
        · exact up (visitL_some g rest _ _ h)
        · split at h
          · cases h; exact ⟨w, by simp, rfl⟩
          · exact up (visitL_some g rest _ _ h)
theorem Fit.visit_some {s : Sv} (h : Fit s) {g c : Nat} (hc : (s.visit g).1 = some c) : c < s.cl.length := by
  obtain ⟨w, hw, rfl⟩ := visitL_some g _ _ _ hc
  exact (h.wat g w hw).1

/-- How many were looked at. -/
theorem Mem.setSeen {W : World} {A : Ad} {s : Sv} (h : Mem W A s) {sb : Nat} (hsb : A.blk .search = some sb) (k : Nat) : Mem (W.setCell ⟨sb, 5, none⟩ (.int .i64 (k : Int))) A { s with seen := k } :=
  { h with has := h.set hsb 5 (.int .i64 (k : Int)) rfl (fun r' hr => by cases r' <;> first | rfl | exact absurd rfl hr) }
theorem Fit.seen {s : Sv} (h : Fit s) (k : Nat) : Fit { s with seen := k } := ⟨h.lv, h.lw, h.sgn, h.tri, h.on, h.nd, h.cls, h.wnd, h.wat⟩

/-- Between two visits. -/
def Flw (w W : World) (A : Ad) (s : Sv) (o : Option Nat) (s' : Sv) : Prop :=
  ∃ (A1 : Ad) (s1 : Sv) (f : Nat), Step w W A A1 s1 ∧ Fit s1 ∧ Sv.follow f s1 = some (o, s') ∧ s1.n = s.n ∧ s1.cl.length = s.cl.length ∧ ∀ r, r ≠ .trail → (∀ l, r ≠ .win l) → A1.blk r = A.blk r ∧ A1.sp r = A.sp r

set_option maxRecDepth 100000 in
set_option maxHeartbeats 2000000 in
theorem follow_in (w : World) (A : Ad) (s : Sv) (h : Mem w A s) (hF : Fit s) (sb : Nat) (hsb : A.blk .search = some sb) (hcl : s.cl.length ≤ 4398046511100) (f : Nat) (o : Option Nat) (s' : Sv) (hfo : Sv.follow f s = some (o, s')) :
    Calls Tryz.prog 163 #[.pointer (some ⟨sb, 0, none⟩)] w fun e w' => e = .returned (A.opt o) ∧ (∀ c, o = some c → c < s.cl.length) ∧ ∃ A', Step w w' A A' s' ∧ Fit s' ∧ ∀ r, r ≠ .trail → (∀ l, r ≠ .win l) → A'.blk r = A.blk r ∧ A'.sp r = A.sp r := by
  have V0 : Flw w w A s o s' := ⟨A, s, f, ⟨h, Kept.refl _ _, fun _ hk => Or.inl hk⟩, hF, hfo, rfl, rfl, fun _ _ _ => ⟨rfl, rfl⟩⟩
  have hsm := h.small
  clear h hF hfo
  go_enter Tryz.func163, Tryz.ntmps163
  go_wp2_with fail
  go_loopw [] (fun W => Flw w W A s o s') (fun W => 2 * s.n + 3 - (intOf ((W.cell? ⟨sb, 5, none⟩).getD undef)).toNat)
  case atStart => exact V0
  case round =>
    obtain ⟨A1, s1, f1, S1, F1, hf1, hn1, hcl1, hsame⟩ := hrel
    have hsb1 : A1.blk .search = some sb := (hsame .search (by decide) (by intro l e; cases e)).1.trans hsb
    have M1 := S1.mem
    have c5 := M1.cell hsb1 (i := 5) rfl
    have c3 := M1.cell hsb1 (i := 3) rfl
    have htl := F1.trail_le
    rw [hn1] at htl
    cases f1 with
    | zero => cases hf1
    | succ f1 =>
    rw [Sv.follow] at hf1
    by_cases hlt : s1.seen < s1.trail.length
    · obtain ⟨l, hl⟩ : ∃ l, s1.trail[s1.seen]? = some l := ⟨_, List.getElem?_eq_getElem hlt⟩
      rw [hl] at hf1
      simp only at hf1
      obtain ⟨hln, hlv⟩ := (F1.on l).1 (List.mem_of_getElem? hl)
      have hlo : s1.val (opp l) = -1 := by rw [F1.sgn l hln, hlv]
      have holn : opp l < 2 * s1.n + 2 := opp_lt hln
      obtain ⟨tb, htb⟩ : ∃ tb, A1.blk .trail = some tb := by
        cases e : A1.blk .trail with
        | some tb => exact ⟨tb, rfl⟩
        | none => rw [M1.nil1 e] at hlt; simp at hlt
      simp only [Ad.slv, htb] at c3
      have tl := M1.cell htb (i := s1.seen) (v := i32 l) (by
        show (s1.trail.map i32 ++ A1.sp .trail)[s1.seen]? = _
        rw [List.getElem?_append_left (by simpa using hlt), List.getElem?_map, hl]; rfl)
      have f5 := M1.frozen hsb1 5
      have ds : decide ((s1.seen : Int) < (s1.trail.length : Int)) = true := decide_eq_true (by omega)
      have hwrap : IntKind.i64.wrap ((s1.seen : Int) + 1) = (s1.seen : Int) + 1 := by rw [IntKind.wrap_i64]; omega
      unfold i32 at tl
      have HM1 : Hid _ := M1
      have HS1 : Hid _ := S1
      have HF1 : Hid _ := F1
      have HSA : Hid _ := hsame
      have HFO : Hid _ := hf1
      have HC5 : Hid _ := c5
      have OP : Hid (∀ W : World, _) := fun W => opp_in W l (by omega)
      have ST : Hid (∀ m : Nat, Step w ((wr.drewN m).setCell ⟨sb, 5, none⟩ (.int .i64 ((s1.seen : Int) + 1))) A A1 { s1 with seen := s1.seen + 1 }) := fun m => by
        have h1 := (S1.mem.keep (W' := wr.drewN m) (fun _ _ => rfl)).setSeen hsb1 (s1.seen + 1)
        rw [show ((s1.seen + 1 : Nat) : Int) = (s1.seen : Int) + 1 from by simp] at h1
        exact (S1.trans (Step.drew S1.mem m)).trans ⟨h1, (Kept.refl _ _).setCell (p := ⟨sb, 5, none⟩) ⟨_, hsb1⟩ _, fun _ hk => Or.inl hk⟩
      have VI : Hid (∀ m : Nat, _) := fun m => visit_in ((wr.drewN m).setCell ⟨sb, 5, none⟩ (.int .i64 ((s1.seen : Int) + 1))) A1 { s1 with seen := s1.seen + 1 } (ST.out m).mem (F1.seen _) sb hsb1 (opp l) holn hlo (by show s1.cl.length ≤ _; rw [hcl1]; exact hcl)
      have hsim := Sim.visit { s1 with seen := s1.seen + 1 } (opp l)
      have HVS : Hid (∀ c, _ → _) := fun c (hc : (Sv.visit { s1 with seen := s1.seen + 1 } (opp l)).1 = some c) => (F1.seen (s1.seen + 1)).visit_some hc
      clear M1 S1 F1 hsame hf1
      unfold i32 at VI OP
      generalize Sv.visit { s1 with seen := s1.seen + 1 } (opp l) = v at *
      obtain ⟨vo, s2⟩ := v
      simp only at HFO VI HVS
      cases vo with
      | some c =>
        have h7 := HFO.out
        simp only [Option.some.injEq, Prod.mk.injEq] at h7
        obtain ⟨ho, hs2⟩ := h7
        obtain ⟨cb, hcb⟩ := (HM1.out.cls c).2 (HVS.out c rfl)
        have hclt : Hid (c < s1.cl.length) := HVS.out c rfl
        have hopt : A1.opt (some c) = .pointer (some ⟨cb, 0, none⟩) := by simp [Ad.opt, Ad.ptr, hcb]
        have HOPT : Hid (A.opt o = .pointer (some ⟨cb, 0, none⟩)) := by
          rw [← ho]
          show A.ptr (.clause c) = _
          unfold Ad.ptr
          rw [← (HSA.out (.clause c) (by intro e; cases e) (by intro l e; cases e)).1, hcb]
          rfl
        have HVI := VI.out
        simp only [hopt] at HVI
        have HVI2 : Hid _ := HVI
        clear HVI VI HFO hopt HVS
        subst hs2
        go_wp2_with fail
        go_quiet (fail)
        go_wp2_with fail
        go_quiet (fail)
        go_wp2_with (first | (go_at_call 210; refine (HVI2.out _).mono ?_; rintro e w3 ⟨rfl, A2, S3, F3, hA2⟩) | (go_at_call 177; refine (OP.out _).mono ?_; rintro e w3 ⟨rfl, rfl⟩))
        go_ret
        refine ⟨by rw [HOPT.out]; rfl, fun c' e => ?_, A2, (ST.out _).trans S3, F3, fun r h1 h2 => ?_⟩
        · rw [← ho] at e
          cases e
          rw [← hcl1]
          exact hclt.out
        have h3 := hA2 r h1 h2
        have h4 := HSA.out r h1 h2
        exact ⟨h3.1.trans h4.1, h3.2.trans h4.2⟩
      | none =>
        have HVI := VI.out
        simp only [Ad.opt] at HVI
        have HVI2 : Hid _ := HVI
        clear HVI VI HVS
        go_wp2_with fail
        go_quiet (fail)
        go_wp2_with fail
        go_quiet (fail)
        go_wp2_with (first | (go_at_call 210; refine (HVI2.out _).mono ?_; rintro e w3 ⟨rfl, A2, S3, F3, hA2⟩) | (go_at_call 177; refine (OP.out _).mono ?_; rintro e w3 ⟨rfl, rfl⟩))
        have hsb3 : A2.blk .search = some sb := (hA2 .search (by decide) (by intro l e; cases e)).1.trans hsb1
        have c5' := S3.mem.cell hsb3 (i := 5) rfl
        refine ⟨⟨A2, s2, f1, (ST.out _).trans S3, F3, HFO.out, hsim.1.trans hn1, hsim.2.2.2.2.2.trans hcl1, fun r h1 h2 => ?_⟩, ?_⟩
        · have h3 := hA2 r h1 h2
          have h4 := HSA.out r h1 h2
          exact ⟨h3.1.trans h4.1, h3.2.trans h4.2⟩
        · have hse : s2.seen = s1.seen + 1 := hsim.2.1
          rw [c5', HC5.out]
          simp only [Option.getD_some, intOf, hse]
          omega
    · have hnl : s1.trail[s1.seen]? = none := List.getElem?_eq_none_iff.2 (by omega)
      rw [hnl] at hf1
      simp only [Option.some.injEq, Prod.mk.injEq] at hf1
      obtain ⟨rfl, rfl⟩ := hf1
      obtain ⟨ta, tc, hts⟩ := slv_form M1 (r := .trail) rfl
      rw [show A1.slv .trail s1.trail.length 1 = .slice ta s1.trail.length tc from hts] at c3
      have ds : decide ((s1.seen : Int) < (s1.trail.length : Int)) = false := decide_eq_false (by omega)
      have HS1 : Hid _ := S1
      have HF1 : Hid _ := F1
      have HSA : Hid _ := hsame
      clear M1 S1 F1 hsame hts
      go_wp2_with fail
      go_quiet (fail)
      go_wp2_with fail
      go_ret
      exact ⟨rfl, fun c e => (by cases e), A1, HS1.out.trans (Step.drew HS1.out.mem _), HF1.out, HSA.out⟩

end Go.Proofs.YtlehlgipbhfioaaGreat

namespace Go.Proofs.YtlehlgipbhfioaaGreat
open Go.RowKit Go.Maps

set_option maxRecDepth 100000 in
set_option maxHeartbeats 400000 in
theorem eqNilC (w : World) : Sem.run Tryz.prog (binOp BinOp.eql 180 (.slice none 0 0) (.slice none 0 0)) w = .ok (.bool true) w := by
  kernel_rfl
set_option maxRecDepth 100000 in
set_option maxHeartbeats 400000 in
theorem clonC_in (w : World) : Calls Tryz.prog 236 #[.slice none 0 0] w fun e w' => e = .returned (.slice none 0 0) ∧ w = w' := by
  go_enter Tryz.func236, Tryz.ntmps236
  go_wp2_with fail
  rw [eqNilC]
  go_wp2_with fail
  go_ret
  exact ⟨rfl, rfl⟩

set_option maxHeartbeats 400000 in
theorem use_in (w : World) (A : Ad) (s : Sv) (h : Mem w A s) (sb : Nat) (hsb : A.blk .search = some sb) (c : Value) : Calls Tryz.prog 197 #[.pointer (some ⟨sb, 0, none⟩), c] w fun e w' => e = .returned (.tuple #[]) ∧ w = w' := by
  have c12 := h.cell hsb (i := 12) (v := .bool false) rfl
  clear h
  go_enter Tryz.func197, Tryz.ntmps197
  go_wp2_with fail
  exact ⟨rfl, .tuple #[], by simp [results, Tryz.results197], rfl, rfl⟩

set_option maxRecDepth 100000 in
set_option maxHeartbeats 1000000 in
theorem takeUsed_in (w : World) (A : Ad) (s : Sv) (h : Mem w A s) (sb : Nat) (hsb : A.blk .search = some sb) : Calls Tryz.prog 198 #[.pointer (some ⟨sb, 0, none⟩)] w fun e w' => e = .returned (.slice none 0 0) ∧ Step w w' A A s := by
  have c15 := h.cell hsb (i := 15) (v := .slice none 0 0) rfl
  have c16 := h.cell hsb (i := 16) (v := .slice none 0 0) rfl
  have f15 := h.frozen hsb 15
  have f16 := h.frozen hsb 16
  have HM : Hid _ := h
  clear h
  have ST : Hid (∀ m m2 : Nat, Step w ((((w.drewN m).setCell ⟨sb, 15, none⟩ (.slice none 0 0)).drewN m2).setCell ⟨sb, 16, none⟩ (.slice none 0 0)) A A s) := fun m m2 => by
    have S1 := Step.drew HM.out m
    have M1 : Mem ((w.drewN m).setCell ⟨sb, 15, none⟩ (.slice none 0 0)) A s := S1.mem.setSame hsb rfl
    have S2 := S1.cell hsb 15 _ M1
    have S3 := S2.trans (Step.drew S2.mem m2)
    exact S3.cell hsb 16 _ (S3.mem.setSame hsb rfl)
  go_enter Tryz.func198, Tryz.ntmps198
  go_wp2_with fail
  go_loopw [11] (fun t11 W => t11 = .int .i64 0 ∧ W = w) (fun _ _ => 0)
  case atStart => exact ⟨rfl, rfl⟩
  case round =>
    obtain ⟨rfl, rfl⟩ := hrel
    go_wp2_with (first | (go_at_call 236; refine (clonC_in _).mono ?_; rintro e w3 ⟨rfl, rfl⟩))
    go_ret
    exact ⟨rfl, ST.out 0 0⟩

theorem Mem.setEnd {W : World} {A : Ad} {s : Sv} (h : Mem W A s) {sb : Nat} (hsb : A.blk .search = some sb) (p : Addr) : Mem (W.setCell ⟨sb, 13, none⟩ (.pointer (some p))) { A with endv := .pointer (some p) } { s with fin := true } := by
  refine { h with has := fun r b hb => ?_, endk := ⟨p, rfl⟩ }
  have hb' : A.blk r = some b := hb
  by_cases e : r = .search
  · subst e
    rw [hsb] at hb'
    cases hb'
    have := h.has _ _ hsb
    unfold World.setCell
    simp only [Array.getElem?_modify, this, if_true, Option.map_some]
    simp [cellsR, searchC]
    exact ⟨rfl, rfl, rfl, rfl, rfl, rfl, rfl, rfl, rfl, rfl⟩
  · rw [Below.heap_setCell _ _ _ _ (fun e2 => e (h.inj _ _ _ hb' (by rw [hsb]; exact congrArg some e2.symm)))]
    have := h.has r b hb'
    rw [this]
    cases r <;> first | rfl | exact absurd rfl e

set_option maxRecDepth 100000 in
set_option maxHeartbeats 1000000 in
theorem finish_in (w : World) (A : Ad) (s : Sv) (h : Mem w A s) (sb : Nat) (hsb : A.blk .search = some sb) (c : Value) : Calls Tryz.prog 160 #[.pointer (some ⟨sb, 0, none⟩), c] w fun e w' => e = .returned (.tuple #[]) ∧ ∃ A', Step w w' A A' { s with fin := true } ∧ ∀ r, A'.blk r = A.blk r ∧ A'.sp r = A.sp r := by
  have US := use_in w A s h sb hsb c
  have TU := takeUsed_in w A s h sb hsb
  clear h
  go_enter Tryz.func160, Tryz.ntmps160
  go_wp2_with (first | (go_at_call 198; refine TU.mono ?_; rintro e w3 ⟨rfl, S3⟩; refine Aside.out ?_) | (go_at_call 197; refine US.mono ?_; rintro e w3 ⟨rfl, rfl⟩))
  delta Aside
  have S4 := S3.alloc (Obj.cells #[.slice none 0 0, .int .i64 0, .slice none 0 0, .int .i64 0, .bool false, .bool false] 182)
  have c13 := S4.mem.cell hsb (i := 13) rfl
  have f13 := S4.mem.frozen hsb 13
  have HS4 : Hid _ := S4
  clear S3 S4 US TU
  have hc13 : ∃ v13, (w3.alloc (Obj.cells #[.slice none 0 0, .int .i64 0, .slice none 0 0, .int .i64 0, .bool false, .bool false] 182)).cell? ⟨sb, 13, none⟩ = some v13 := ⟨_, c13⟩
  obtain ⟨v13, c13⟩ := hc13
  apply_assumption
  go_wp2_with fail
  exact ⟨rfl, .tuple #[], by simp [results, Tryz.results160], rfl, _, HS4.out.trans ⟨HS4.out.mem.setEnd hsb _, (Kept.refl _ _).setCell (p := ⟨sb, 13, none⟩) ⟨_, hsb⟩ _, fun _ hk => Or.inl hk⟩, fun _ => ⟨rfl, rfl⟩⟩

set_option maxRecDepth 100000 in
set_option maxHeartbeats 1000000 in
theorem addFact_in (w : World) (A : Ad) (s : Sv) (h : Mem w A s) (hF : Fit s) (sb : Nat) (hsb : A.blk .search = some sb) (c cb l : Nat) (hcb : A.blk (.clause c) = some cb) (hl : s.lits c = [l]) : Calls Tryz.prog 124 #[.pointer (some ⟨sb, 0, none⟩), .pointer (some ⟨cb, 0, none⟩)] w fun e w' => e = .returned (.tuple #[]) ∧ ∃ A', Step w w' A A' (s.addFact l) ∧ ∀ r, r ≠ .trail → A'.blk r = A.blk r ∧ A'.sp r = A.sp r := by
  obtain ⟨rb, hrb⟩ := (h.rows c).2 ((h.cls c).1 ⟨_, hcb⟩)
  obtain ⟨vb, hvb⟩ := h.fix .vals rfl
  have hll : l < 2 * s.n + 2 := (hF.cls c).2 l (by rw [hl]; simp)
  have k0 := h.cell hcb (i := 0) rfl
  simp only [Ad.slv, hrb, hl, List.length_singleton] at k0
  have r0 := h.cell hrb (i := 0) (v := i32 l) (by simp [cellsR, hl])
  unfold i32 at r0
  have c0 := h.cell hsb (i := 0) rfl
  simp only [Ad.slv, hvb, h.flat.1, List.length_nil, Nat.zero_div, Nat.add_zero] at c0
  have v0 := h.vcell hvb hll
  have dl : (l : Int) < 2 * (s.n : Int) + 2 := by omega
  generalize 1 + (A.sp (.crow c)).length / 1 = cap at k0
  have hsm := h.small
  have htl := hF.trail_le
  unfold Sv.addFact
  by_cases h1 : s.val l = -1
  · rw [h1] at v0
    have FI := finish_in w A s h sb hsb (.pointer (some ⟨cb, 0, none⟩))
    simp only [if_pos h1]
    clear h hF
    go_enter Tryz.func124, Tryz.ntmps124
    go_wp2_with (first | (go_at_call 160; refine FI.mono ?_; rintro e w3 ⟨rfl, A2, S3, hA2⟩))
    exact ⟨rfl, .tuple #[], by simp [results, Tryz.results124], rfl, A2, S3, fun r _ => hA2 r⟩
  · by_cases h0 : s.val l = 0
    · rw [h0] at v0
      have AS := assign_in w A s h sb hsb l hll (by omega) (some ⟨cb, 0, none⟩)
      unfold i32 at AS
      simp only [if_neg h1, if_pos h0]
      clear h hF
      go_enter Tryz.func124, Tryz.ntmps124
      go_wp2_with (first | (go_at_call 161; refine AS.mono ?_; rintro e w3 ⟨rfl, A2, S3, hA2⟩))
      exact ⟨rfl, .tuple #[], by simp [results, Tryz.results124], rfl, A2, S3, hA2⟩
    · have d1 : (s.val l == -1) = false := by simpa using h1
      have d0 : (s.val l == 0) = false := by simpa using h0
      simp only [if_neg h1, if_neg h0]
      have HM : Hid _ := h
      clear h hF
      generalize s.val l = vl at *
      go_enter Tryz.func124, Tryz.ntmps124
      go_wp2_with fail
      exact ⟨rfl, .tuple #[], by simp [results, Tryz.results124], rfl, A, ⟨HM.out, Kept.refl _ _, fun _ hk => Or.inl hk⟩, fun _ _ => ⟨rfl, rfl⟩⟩

end Go.Proofs.YtlehlgipbhfioaaGreat
