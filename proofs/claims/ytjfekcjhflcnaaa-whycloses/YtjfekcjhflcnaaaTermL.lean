/- Package term: the parser, plainly. -/
import Derived.Test.YtjfekcjhflcnaaaTermK
namespace Go.Proofs.Ytjfekcjhflcnaaa
open Go.RowKit Go.Maps

/-- What reading answers: a value and where it goes on, or an error and its place; the bank's terms behind it. -/
inductive Res (α : Type) where
  | ok (x : α) (i : Nat) (l : List Tm)
  | bad (e p : Nat) (l : List Tm)

def Res.list {α : Type} : Res α → List Tm
  | .ok _ _ l => l
  | .bad _ _ l => l

/-- A term has ended: its name began at p. -/
def pEnd (t : Tm) (p i : Nat) (l : List Tm) : Res Nat := if fitsB l t then .ok (addN l t) i (addL l t) else .bad 5 p l

mutual
def pTerm (s : ByteArray) : Nat → Nat → Nat → List Tm → Res Nat
  | 0, _, _, l => .bad 0 0 l
  | f + 1, above, i, l =>
    if badNm s i then .bad 2 i l
    else if 12 < above then .bad 4 i l
    else if stands s (bl s (nmE s i)) 40 then
      match pArgs s f (above + 1) (behind s (bl s (nmE s i)) 40) l [] with
      | .bad e p l' => .bad e p l'
      | .ok xs k l' => pEnd ⟨s.extract i (nmE s i), xs⟩ i k l'
    else pEnd ⟨s.extract i (nmE s i), []⟩ i (bl s (nmE s i)) l
def pArgs (s : ByteArray) : Nat → Nat → Nat → List Tm → List Nat → Res (List Nat)
  | 0, _, _, l, _ => .bad 0 0 l
  | f + 1, above, i, l, xs =>
    if i = s.size then .bad 2 i l
    else if xs.length = 4 then .bad 3 i l
    else match pTerm s f above i l with
      | .bad e p l' => .bad e p l'
      | .ok n k l' =>
        if stands s k 41 then .ok (xs ++ [n]) (behind s k 41) l'
        else if stands s k 44 then pArgs s f above (behind s k 44) l' (xs ++ [n])
        else .bad 2 k l'
end

theorem addL_prefix (l : List Tm) (t : Tm) : l <+: addL l t := by
  unfold addL
  split
  · exact List.prefix_refl l
  · exact List.prefix_append l [t]
theorem pEnd_prefix (t : Tm) (p i : Nat) (l : List Tm) : l <+: (pEnd t p i l).list := by
  unfold pEnd
  split
  · exact addL_prefix l t
  · exact List.prefix_refl l

theorem behind_le {s : ByteArray} {i c : Nat} (h : i ≤ s.size) : behind s i c ≤ s.size := by
  unfold behind
  split
  · next hs => exact bl_le (of_decide_eq_true hs).1
  · exact h
theorem behind_lt {s : ByteArray} {i c : Nat} (h : stands s i c = true) : i < behind s i c := by
  rw [behind_true h]
  have := bl_ge s (i + 1)
  omega
theorem nm_lt {s : ByteArray} {i : Nat} (h : badNm s i = false) : i < nmE s i := by
  have h1 := nmE_ge s i
  have h2 : nmE s i ≠ i := fun e => by simp [badNm, e] at h
  omega

/-- The list grows at its end alone; the places grow. -/
theorem p_grows (s : ByteArray) : ∀ f : Nat, (∀ above i l, i ≤ s.size → l <+: (pTerm s f above i l).list ∧ ∀ n k l', pTerm s f above i l = .ok n k l' → i < k ∧ k ≤ s.size) ∧
    (∀ above i l xs, i ≤ s.size → l <+: (pArgs s f above i l xs).list ∧ ∀ x k l', pArgs s f above i l xs = .ok x k l' → i < k ∧ k ≤ s.size)
  | 0 => ⟨fun _ _ l _ => ⟨by rw [pTerm]; exact List.prefix_refl l, fun _ _ _ e => by rw [pTerm] at e; cases e⟩, fun _ _ l _ _ => ⟨by rw [pArgs]; exact List.prefix_refl l, fun _ _ _ e => by rw [pArgs] at e; cases e⟩⟩
  | f + 1 => by
    obtain ⟨IT, IA⟩ := p_grows s f
    constructor
    · intro above i l hi
      rw [pTerm]
      split
      · exact ⟨List.prefix_refl l, fun _ _ _ e => by cases e⟩
      · next hb =>
        have hb' : badNm s i = false := by simpa using hb
        have h1 := nm_lt hb'
        have h2 := nmE_le hi
        have h3 := bl_ge s (nmE s i)
        have h4 := bl_le h2
        split
        · exact ⟨List.prefix_refl l, fun _ _ _ e => by cases e⟩
        · split
          · next hs =>
            have h5 := behind_lt hs
            have h6 := behind_le (c := 40) h4
            obtain ⟨A1, A2⟩ := IA (above + 1) (behind s (bl s (nmE s i)) 40) l [] h6
            split
            · next e p l' hx => rw [hx] at A1; exact ⟨A1, fun _ _ _ e => by cases e⟩
            · next xs k l' hx =>
              rw [hx] at A1
              obtain ⟨B1, B2⟩ := A2 xs k l' hx
              refine ⟨A1.trans (pEnd_prefix _ _ _ _), fun n k' l2 e => ?_⟩
              unfold pEnd at e
              split at e
              · injection e with e1 e2 e3; omega
              · cases e
          · refine ⟨pEnd_prefix _ _ _ _, fun n k' l2 e => ?_⟩
            unfold pEnd at e
            split at e
            · injection e with e1 e2 e3; omega
            · cases e
    · intro above i l xs hi
      rw [pArgs]
      split
      · exact ⟨List.prefix_refl l, fun _ _ _ e => by cases e⟩
      · split
        · exact ⟨List.prefix_refl l, fun _ _ _ e => by cases e⟩
        · obtain ⟨A1, A2⟩ := IT above i l hi
          split
          · next e p l' hx => rw [hx] at A1; exact ⟨A1, fun _ _ _ e => by cases e⟩
          · next n k l' hx =>
            rw [hx] at A1
            obtain ⟨B1, B2⟩ := A2 n k l' hx
            split
            · next hs =>
              have h5 := behind_lt hs
              have h6 := behind_le (c := 41) B2
              refine ⟨A1, fun x k' l2 e => ?_⟩
              injection e with e1 e2 e3
              omega
            · split
              · next hs =>
                have h5 := behind_lt hs
                obtain ⟨C1, C2⟩ := IA above (behind s k 44) l' (xs ++ [n]) (behind_le B2)
                refine ⟨A1.trans C1, fun x k' l2 e => ?_⟩
                obtain ⟨D1, D2⟩ := C2 x k' l2 e
                omega
              · exact ⟨A1, fun _ _ _ e => by cases e⟩
