/- Package term: the parser, plainly. Package term: the parser's counts; reader and bank together. -/
import Derived.Test.YtlehlgipbhfioaaGreatP05
namespace Go.Proofs.YtlehlgipbhfioaaGreat
open Go.RowKit Go.Maps

/-- What reading answers: a value and where it goes on, or an error and its place; the bank's terms behind it. -/
inductive Res (α : Type) where
  | ok (x : α) (i : Nat) (l : List Tm)
  | bad (e p : Nat) (l : List Tm)

def Res.list {α : Type} : Res α → List Tm
  | .ok _ _ l => l
  | .bad _ _ l => l

/-- A term has ended: its name began at p. -/
def pEnd (t : Tm) (p i : Nat) (l : List Tm) : Res Nat := if fitsB l t then .ok (addN l t) i (addL l t) else .bad 5 p l

mutual
def pTerm (s : ByteArray) : Nat → Nat → Nat → List Tm → Res Nat
  | 0, _, _, l => .bad 0 0 l
  | f + 1, above, i, l =>
    if badNm s i then .bad 2 i l
    else if 12 < above then .bad 4 i l
    else if stands s (bl s (nmE s i)) 40 then
      match pArgs s f (above + 1) (behind s (bl s (nmE s i)) 40) l [] with
      | .bad e p l' => .bad e p l'
      | .ok xs k l' => pEnd ⟨s.extract i (nmE s i), xs⟩ i k l'
    else pEnd ⟨s.extract i (nmE s i), []⟩ i (bl s (nmE s i)) l
def pArgs (s : ByteArray) : Nat → Nat → Nat → List Tm → List Nat → Res (List Nat)
  | 0, _, _, l, _ => .bad 0 0 l
  | f + 1, above, i, l, xs =>
    if i = s.size then .bad 2 i l
    else if xs.length = 4 then .bad 3 i l
    else match pTerm s f above i l with
      | .bad e p l' => .bad e p l'
      | .ok n k l' =>
        if stands s k 41 then .ok (xs ++ [n]) (behind s k 41) l'
        else if stands s k 44 then pArgs s f above (behind s k 44) l' (xs ++ [n])
        else .bad 2 k l'
end

theorem addL_prefix (l : List Tm) (t : Tm) : l <+: addL l t := by
  unfold addL
  split
  · exact List.prefix_refl l
  · exact List.prefix_append l [t]
theorem pEnd_prefix (t : Tm) (p i : Nat) (l : List Tm) : l <+: (pEnd t p i l).list := by
  unfold pEnd
  split
  · exact addL_prefix l t
  · exact List.prefix_refl l

theorem behind_le {s : ByteArray} {i c : Nat} (h : i ≤ s.size) : behind s i c ≤ s.size := by
  unfold behind
  split
  · next hs => exact bl_le (of_decide_eq_true hs).1
  · exact h
theorem behind_lt {s : ByteArray} {i c : Nat} (h : stands s i c = true) : i < behind s i c := by
  rw [behind_true h]
  have := bl_ge s (i + 1)
  omega
theorem nm_lt {s : ByteArray} {i : Nat} (h : badNm s i = false) : i < nmE s i := by
  have h1 := nmE_ge s i
  have h2 : nmE s i ≠ i := fun e => by simp [badNm, e] at h
  omega

/-- The list grows at its end alone; the places grow. -/
theorem p_grows (s : ByteArray) : ∀ f : Nat, (∀ above i l, i ≤ s.size → l <+: (pTerm s f above i l).list ∧ ∀ n k l', pTerm s f above i l = .ok n k l' → i < k ∧ k ≤ s.size) ∧
    (∀ above i l xs, i ≤ s.size → l <+: (pArgs s f above i l xs).list ∧ ∀ x k l', pArgs s f above i l xs = .ok x k l' → i < k ∧ k ≤ s.size)
  | 0 => ⟨fun _ _ l _ => ⟨by rw [pTerm]; exact List.prefix_refl l, fun _ _ _ e => by rw [pTerm] at e; cases e⟩, fun _ _ l _ _ => ⟨by rw [pArgs]; exact List.prefix_refl l, fun _ _ _ e => by rw [pArgs] at e; cases e⟩⟩
  | f + 1 => by
    obtain ⟨IT, IA⟩ := p_grows s f
    constructor
    · intro above i l hi
      rw [pTerm]
      split
      · exact ⟨List.prefix_refl l, fun _ _ _ e => by cases e⟩
      · next hb =>
        have hb' : badNm s i = false := by simpa using hb
        have h1 := nm_lt hb'
        have h2 := nmE_le hi
        have h3 := bl_ge s (nmE s i)
        have h4 := bl_le h2
        split
        · exact ⟨List.prefix_refl l, fun _ _ _ e => by cases e⟩
        · split
          · next hs =>
            have h5 := behind_lt hs
            have h6 := behind_le (c := 40) h4
            obtain ⟨A1, A2⟩ := IA (above + 1) (behind s (bl s (nmE s i)) 40) l [] h6
            split
            · next e p l' hx => rw [hx] at A1; exact ⟨A1, fun _ _ _ e => by cases e⟩
            · next xs k l' hx =>
              rw [hx] at A1
              obtain ⟨B1, B2⟩ := A2 xs k l' hx
              refine ⟨A1.trans (pEnd_prefix _ _ _ _), fun n k' l2 e => ?_⟩
              unfold pEnd at e
              split at e
              · injection e with e1 e2 e3; omega
              · cases e
          · refine ⟨pEnd_prefix _ _ _ _, fun n k' l2 e => ?_⟩
            unfold pEnd at e
            split at e
            · injection e with e1 e2 e3; omega
            · cases e
    · intro above i l xs hi
      rw [pArgs]
      split
      · exact ⟨List.prefix_refl l, fun _ _ _ e => by cases e⟩
      · split
        · exact ⟨List.prefix_refl l, fun _ _ _ e => by cases e⟩
        · obtain ⟨A1, A2⟩ := IT above i l hi
          split
          · next e p l' hx => rw [hx] at A1; exact ⟨A1, fun _ _ _ e => by cases e⟩
          · next n k l' hx =>
            rw [hx] at A1
            obtain ⟨B1, B2⟩ := A2 n k l' hx
            split
            · next hs =>
              have h5 := behind_lt hs
              have h6 := behind_le (c := 41) B2
              refine ⟨A1, fun x k' l2 e => ?_⟩
              injection e with e1 e2 e3
              omega
            · split
              · next hs =>
                have h5 := behind_lt hs
                obtain ⟨C1, C2⟩ := IA above (behind s k 44) l' (xs ++ [n]) (behind_le B2)
                refine ⟨A1.trans C1, fun x k' l2 e => ?_⟩
                obtain ⟨D1, D2⟩ := C2 x k' l2 e
                omega
              · exact ⟨A1, fun _ _ _ e => by cases e⟩

end Go.Proofs.YtlehlgipbhfioaaGreat

namespace Go.Proofs.YtlehlgipbhfioaaGreat
open Go.RowKit Go.Maps

theorem nix_lt {l : List Tm} {t : Tm} {i : Nat} (h : nix l t = some i) : i < l.length := (List.findIdx?_eq_some_iff_getElem.1 h).1
theorem addN_lt (l : List Tm) (t : Tm) : addN l t < (addL l t).length := by
  unfold addN addL
  cases hi : nix l t with
  | some i => simpa using nix_lt hi
  | none => simp
theorem addL_len (l : List Tm) (t : Tm) : (addL l t).length ≤ l.length + 1 := by
  unfold addL
  split <;> simp
theorem addL_ge (l : List Tm) (t : Tm) : l.length ≤ (addL l t).length := (addL_prefix l t).length_le

/-- A term adds no more terms than it has bytes. -/
theorem p_count (s : ByteArray) : ∀ f : Nat,
    (∀ above i l n k l', i ≤ s.size → pTerm s f above i l = .ok n k l' → l'.length + i ≤ l.length + k ∧ n < l'.length) ∧
    (∀ above i l xs x k l', i ≤ s.size → xs.length ≤ 4 → (∀ a ∈ xs, a < l.length) → pArgs s f above i l xs = .ok x k l' → l'.length + i ≤ l.length + k ∧ x.length ≤ 4 ∧ ∀ a ∈ x, a < l'.length)
  | 0 => ⟨fun _ _ _ _ _ _ _ e => (by rw [pTerm] at e; cases e), fun _ _ _ _ _ _ _ _ _ _ e => (by rw [pArgs] at e; cases e)⟩
  | f + 1 => by
    obtain ⟨IT, IA⟩ := p_count s f
    obtain ⟨GT, GA⟩ := p_grows s f
    constructor
    · intro above i l n k l' hi e
      rw [pTerm] at e
      split at e
      · cases e
      · next hb =>
        have hb' : badNm s i = false := by simpa using hb
        have h1 := nm_lt hb'
        have h2 := nmE_le hi
        have h3 := bl_ge s (nmE s i)
        have h4 := bl_le h2
        split at e
        · cases e
        · split at e
          · next hs =>
            have h5 := behind_lt hs
            have h6 := behind_le (c := 40) h4
            split at e
            · cases e
            · next xs k2 l2 hx =>
              obtain ⟨A1, A2, A3⟩ := IA _ _ _ _ _ _ _ h6 (by simp) (by simp) hx
              unfold pEnd at e
              split at e
              · injection e with e1 e2 e3
                subst e1 e2 e3
                have := addL_len l2 ⟨s.extract i (nmE s i), xs⟩
                exact ⟨by omega, addN_lt _ _⟩
              · cases e
          · unfold pEnd at e
            split at e
            · injection e with e1 e2 e3
              subst e1 e2 e3
              have := addL_len l ⟨s.extract i (nmE s i), []⟩
              exact ⟨by omega, addN_lt _ _⟩
            · cases e
    · intro above i l xs x k l' hi hx4 hxs e
      rw [pArgs] at e
      split at e
      · cases e
      · split at e
        · cases e
        · next hn4 =>
          split at e
          · cases e
          · next n k2 l2 hx =>
            obtain ⟨A1, A2⟩ := IT _ _ _ _ _ _ hi hx
            obtain ⟨B0, B1⟩ := GT above i l hi
            obtain ⟨B2, B3⟩ := B1 n k2 l2 hx
            rw [hx] at B0
            have B4 : l.length ≤ l2.length := B0.length_le
            have hxs2 : ∀ a ∈ xs ++ [n], a < l2.length := by
              intro a ha
              rcases List.mem_append.1 ha with ha | ha
              · exact Nat.lt_of_lt_of_le (hxs a ha) B4
              · rw [List.mem_singleton.1 ha]; exact A2
            have hl4 : (xs ++ [n]).length ≤ 4 := by simp; omega
            split at e
            · next hs =>
              have h5 := behind_lt hs
              injection e with e1 e2 e3
              subst e1 e2 e3
              exact ⟨by omega, hl4, hxs2⟩
            · split at e
              · next hs =>
                have h5 := behind_lt hs
                obtain ⟨C1, C2, C3⟩ := IA _ _ _ _ _ _ _ (behind_le B3) hl4 hxs2 e
                exact ⟨by omega, C2, C3⟩
              · cases e

/-- What may change: what is told, and the bank. -/
def RFoot (X : Nat → Prop) (p : Nat) (ev : Value) (nb fb k : Nat) : Prop := X k ∨ BFoot p ev nb fb k

/-- A reader at r over the bank at p. -/
structure RB (w : World) (base r p : Nat) (ev : Value) (nb fb : Nat) (s : ByteArray) (i : Nat) (l : List Tm) : Prop where
  rd : Rd w r (.pointer (some ⟨p, 0, none⟩)) s i
  bk : Bk w base p ev nb fb l
  rp : r ≠ p
  rn : r ≠ nb
  rf : r ≠ fb
  er : ev.ownBlock ≠ some r
  bs : base ≤ w.heap.size

/-- From (w, ev) to (w', ev'): what was there and is not of X or the bank's has stayed; the row stayed or is new. -/
structure Grew (X : Nat → Prop) (p nb fb : Nat) (w : World) (ev : Value) (w' : World) (ev' : Value) : Prop where
  kept : Kept (RFoot X p ev nb fb) w w'
  row : ev'.ownBlock = ev.ownBlock ∨ ∀ k, ev'.ownBlock = some k → w.heap.size ≤ k

theorem Grew.refl (X : Nat → Prop) (p nb fb : Nat) (w : World) (ev : Value) : Grew X p nb fb w ev w ev := ⟨Kept.refl _ w, Or.inl rfl⟩
theorem Grew.mono {X Y : Nat → Prop} {p nb fb : Nat} {a b : World} {ea eb : Value} (h : Grew X p nb fb a ea b eb) (hXY : ∀ k, k < a.heap.size → X k → Y k) : Grew Y p nb fb a ea b eb :=
  ⟨Kept.mono h.kept (fun k hk e => e.elim (fun x => Or.inl (hXY k hk x)) Or.inr), h.row⟩
theorem Grew.trans {X : Nat → Prop} {p nb fb : Nat} {a b c : World} {ea eb ec : Value} (h : Grew X p nb fb a ea b eb) (k : Grew X p nb fb b eb c ec) : Grew X p nb fb a ea c ec := by
  refine ⟨⟨k.kept.os.trans h.kept.os, k.kept.tape.trans h.kept.tape, k.kept.output.trans h.kept.output, Nat.le_trans h.kept.size k.kept.size, ?_⟩, ?_⟩
  · intro x hx hs
    rw [k.kept.block x (Nat.lt_of_lt_of_le hx h.kept.size) ?_]
    · exact h.kept.block x hx hs
    · intro hr
      apply hs
      rcases hr with e | e | e | e | e
      · exact Or.inl e
      · exact Or.inr (Or.inl e)
      · exact Or.inr (Or.inr (Or.inl e))
      · exact Or.inr (Or.inr (Or.inr (Or.inl e)))
      · rcases h.row with e2 | e2
        · exact Or.inr (Or.inr (Or.inr (Or.inr (e2 ▸ e))))
        · have := e2 x e; omega
  · rcases k.row with e | e
    · rcases h.row with e2 | e2
      · exact Or.inl (e.trans e2)
      · exact Or.inr fun x hx => e2 x (e ▸ hx)
    · exact Or.inr fun x hx => Nat.le_trans h.kept.size (e x hx)
theorem Grew.setCell {X : Nat → Prop} {p nb fb : Nat} {a b : World} {ea eb : Value} (h : Grew X p nb fb a ea b eb) {x o : Nat} (hx : X x) (u : Value) : Grew X p nb fb a ea (b.setCell ⟨x, o, none⟩ u) eb :=
  ⟨Kept.setCell (p := ⟨x, o, none⟩) h.kept (Or.inl hx) u, h.row⟩
theorem Grew.drewN {X : Nat → Prop} {p nb fb : Nat} {a b : World} {ea eb : Value} (h : Grew X p nb fb a ea b eb) (m : Nat) : Grew X p nb fb a ea (b.drewN m) eb := ⟨Kept.drewN h.kept m, h.row⟩

/-- The reader alone has gone on. -/
theorem RB.read {w w' : World} {base r p : Nat} {ev : Value} {nb fb : Nat} {s : ByteArray} {i k : Nat} {l : List Tm} (h : RB w base r p ev nb fb s i l) (K : Kept1 r w w') (hR : Rd w' r (.pointer (some ⟨p, 0, none⟩)) s k) :
    RB w' base r p ev nb fb s k l ∧ Grew (fun k => k = r) p nb fb w ev w' ev :=
  ⟨⟨hR, h.bk.kept1 K (Ne.symm h.rp) (Ne.symm h.rn) (Ne.symm h.rf) h.er, h.rp, h.rn, h.rf, h.er, Nat.le_trans h.bs K.size⟩, ⟨Kept.mono K (fun _ _ e => Or.inl e), Or.inl rfl⟩⟩

theorem Rd.of_block {w w' : World} {r : Nat} {bp : Value} {s : ByteArray} {i : Nat} (h : Rd w r bp s i) (hb : w'.heap[r]? = w.heap[r]?) : Rd w' r bp s i := ⟨h.row.of_block hb, h.le, h.small⟩

/-- The bank alone has changed. -/
theorem RB.banked {w w' : World} {base r p : Nat} {ev ev' : Value} {nb fb : Nat} {s : ByteArray} {i : Nat} {l l' : List Tm} (h : RB w base r p ev nb fb s i l) (K : Kept (BFoot p ev nb fb) w w') (hB : Bk w' base p ev' nb fb l') (hr : ev'.ownBlock = ev.ownBlock ∨ ∀ k, ev'.ownBlock = some k → w.heap.size ≤ k) :
    RB w' base r p ev' nb fb s i l' ∧ Grew (fun k => k = r) p nb fb w ev w' ev' := by
  have hrl := h.rd.row.lt
  refine ⟨⟨h.rd.of_block (K.block r hrl ?_), hB, h.rp, h.rn, h.rf, ?_, Nat.le_trans h.bs K.size⟩, ⟨Kept.mono K (fun _ _ e => Or.inr e), hr⟩⟩
  · rintro (e | e | e | e)
    · exact h.rp e
    · exact h.rn e
    · exact h.rf e
    · exact h.er e
  · rcases hr with e | e
    · rw [e]; exact h.er
    · intro e2
      have := e r e2
      omega

theorem RB.kept0 {w w' : World} {base r p : Nat} {ev : Value} {nb fb : Nat} {s : ByteArray} {i : Nat} {l : List Tm} (h : RB w base r p ev nb fb s i l) (K : Kept0 w w') : RB w' base r p ev nb fb s i l ∧ Grew (fun k => k = r) p nb fb w ev w' ev :=
  h.banked (Kept.mono K (fun _ _ e => e.elim)) (h.bk.kept0 K) (Or.inl rfl)
theorem RB.drewN {w : World} {base r p : Nat} {ev : Value} {nb fb : Nat} {s : ByteArray} {i : Nat} {l : List Tm} (h : RB w base r p ev nb fb s i l) (m : Nat) : RB (w.drewN m) base r p ev nb fb s i l :=
  ⟨h.rd.drewN m, h.bk.drewN m, h.rp, h.rn, h.rf, h.er, h.bs⟩

/-- And an entry that is being read, at x. -/
structure RX (w : World) (base r p : Nat) (ev : Value) (nb fb : Nat) (s : ByteArray) (i : Nat) (l : List Tm) (x : Nat) (t : Tm) : Prop where
  rb : RB w base r p ev nb fb s i l
  box : Boxed w x t
  xr : x ≠ r
  xp : x ≠ p
  xn : x ≠ nb
  xf : x ≠ fb
  ex : ev.ownBlock ≠ some x

theorem RX.drewN {w : World} {base r p : Nat} {ev : Value} {nb fb : Nat} {s : ByteArray} {i : Nat} {l : List Tm} {x : Nat} {t : Tm} (h : RX w base r p ev nb fb s i l x t) (m : Nat) : RX (w.drewN m) base r p ev nb fb s i l x t :=
  ⟨h.rb.drewN m, World.rowIs.of_block h.box rfl, h.xr, h.xp, h.xn, h.xf, h.ex⟩
theorem RX.grew {w w' : World} {base r p : Nat} {ev ev' : Value} {nb fb : Nat} {s : ByteArray} {i k : Nat} {l l' : List Tm} {x : Nat} {t : Tm} (h : RX w base r p ev nb fb s i l x t) (G : Grew (fun k => k = r) p nb fb w ev w' ev') (R : RB w' base r p ev' nb fb s k l') : RX w' base r p ev' nb fb s k l' x t := by
  have hlt := World.rowIs.lt h.box
  refine ⟨R, World.rowIs.of_block h.box (G.kept.block x hlt ?_), h.xr, h.xp, h.xn, h.xf, ?_⟩
  · rintro (e | e | e | e | e)
    · exact h.xr e
    · exact h.xp e
    · exact h.xn e
    · exact h.xf e
    · exact h.ex e
  · rcases G.row with e | e
    · rw [e]; exact h.ex
    · intro e2
      have := e x e2
      omega

theorem RB.setOther {w : World} {base r p : Nat} {ev : Value} {nb fb : Nat} {s : ByteArray} {i : Nat} {l : List Tm} (h : RB w base r p ev nb fb s i l) {x : Nat} (xr : x ≠ r) (xp : x ≠ p) (xn : x ≠ nb) (xf : x ≠ fb) (ex : ev.ownBlock ≠ some x) (o : Nat) (u : Value) : RB (w.setCell ⟨x, o, none⟩ u) base r p ev nb fb s i l := by
  have K : Kept1 x w (w.setCell ⟨x, o, none⟩ u) := Kept1.set (Kept.refl _ w) o u
  exact ⟨h.rd.of_block (K.block r h.rd.row.lt (fun e => xr e.symm)), h.bk.kept1 K (Ne.symm xp) (Ne.symm xn) (Ne.symm xf) ex, h.rp, h.rn, h.rf, h.er, Nat.le_trans h.bs K.size⟩

/-- The entry has one more arg. -/
theorem RX.push {w : World} {base r p : Nat} {ev : Value} {nb fb : Nat} {s : ByteArray} {i : Nat} {l : List Tm} {x : Nat} {nm : ByteArray} {xs : List Nat} (h : RX w base r p ev nb fb s i l x ⟨nm, xs⟩) (h4 : xs.length < 4) (n : Nat) :
    RX ((w.setCell ⟨x, 2 + xs.length, none⟩ (.int .i64 (n : Int))).setCell ⟨x, 1, none⟩ (.int .i64 ((xs.length : Int) + 1))) base r p ev nb fb s i l x ⟨nm, xs ++ [n]⟩ := by
  refine ⟨(h.rb.setOther h.xr h.xp h.xn h.xf h.ex _ _).setOther h.xr h.xp h.xn h.xf h.ex _ _, ?_, h.xr, h.xp, h.xn, h.xf, h.ex⟩
  refine World.rowIs.congr (World.rowIs.set (World.rowIs.set h.box (2 + xs.length) (.int .i64 (n : Int))) 1 (.int .i64 ((xs.length : Int) + 1))) ?_
  intro j hj
  match xs, h4 with
  | [], _ => rcases (by omega : j = 0 ∨ j = 1 ∨ j = 2 ∨ j = 3 ∨ j = 4 ∨ j = 5) with rfl | rfl | rfl | rfl | rfl | rfl <;> rfl
  | [a], _ => rcases (by omega : j = 0 ∨ j = 1 ∨ j = 2 ∨ j = 3 ∨ j = 4 ∨ j = 5) with rfl | rfl | rfl | rfl | rfl | rfl <;> rfl
  | [a, b], _ => rcases (by omega : j = 0 ∨ j = 1 ∨ j = 2 ∨ j = 3 ∨ j = 4 ∨ j = 5) with rfl | rfl | rfl | rfl | rfl | rfl <;> rfl
  | [a, b, c], _ => rcases (by omega : j = 0 ∨ j = 1 ∨ j = 2 ∨ j = 3 ∨ j = 4 ∨ j = 5) with rfl | rfl | rfl | rfl | rfl | rfl <;> rfl
  | _ :: _ :: _ :: _ :: _, h4 => simp at h4; omega

end Go.Proofs.YtlehlgipbhfioaaGreat
