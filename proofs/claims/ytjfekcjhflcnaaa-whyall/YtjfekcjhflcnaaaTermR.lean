/- Package term: how high terms are, and what they show, plainly. -/
import Derived.Test.YtjfekcjhflcnaaaTermQ
namespace Go.Proofs.Ytjfekcjhflcnaaa
open Go.RowKit Go.Maps

/-- A term that is at most f high. -/
def Hgt (l : List Tm) : Nat → Nat → Prop
  | 0, _ => False
  | f + 1, n => ∃ t, l[n]? = some t ∧ ∀ a ∈ t.args, Hgt l f a

theorem Hgt.lt {l : List Tm} {f n : Nat} (h : Hgt l f n) : n < l.length := by
  cases f with
  | zero => exact h.elim
  | succ f =>
    obtain ⟨t, ht, _⟩ := h
    exact (List.getElem?_eq_some_iff.1 ht).1
theorem Hgt.up {l : List Tm} : ∀ {f n : Nat}, Hgt l f n → Hgt l (f + 1) n
  | 0, _, h => h.elim
  | _ + 1, _, ⟨t, ht, ha⟩ => ⟨t, ht, fun a h => (ha a h).up⟩
theorem Hgt.mono {l : List Tm} {f g n : Nat} (h : Hgt l f n) (hfg : f ≤ g) : Hgt l g n := by
  induction hfg with
  | refl => exact h
  | step _ ih => exact ih.up
theorem Hgt.prefix {l l' : List Tm} (hl : l <+: l') : ∀ {f n : Nat}, Hgt l f n → Hgt l' f n
  | 0, _, h => h.elim
  | _ + 1, _, ⟨t, ht, ha⟩ => ⟨t, by
      obtain ⟨r, rfl⟩ := hl
      rw [List.getElem?_append_left (List.getElem?_eq_some_iff.1 ht).1]
      exact ht, fun a h => (ha a h).prefix hl⟩

/-- All are at most 13 high. -/
def Hs (l : List Tm) : Prop := ∀ n, n < l.length → Hgt l 13 n

theorem nix_get {l : List Tm} {t : Tm} {i : Nat} (h : nix l t = some i) : l[i]? = some t := by
  obtain ⟨hi, hp, _⟩ := List.findIdx?_eq_some_iff_getElem.1 h
  rw [List.getElem?_eq_getElem hi, of_decide_eq_true hp]
theorem addN_at (l : List Tm) (t : Tm) : (addL l t)[addN l t]? = some t := by
  unfold addL addN
  cases h : nix l t with
  | some i => simpa using nix_get h
  | none => simp

theorem Hs.add {l : List Tm} (h : Hs l) {t : Tm} {g : Nat} (hg : g ≤ 12) (ha : ∀ a ∈ t.args, Hgt l g a) : Hs (addL l t) ∧ Hgt (addL l t) (g + 1) (addN l t) := by
  have h1 : Hgt (addL l t) (g + 1) (addN l t) := ⟨t, addN_at l t, fun a x => (ha a x).prefix (addL_prefix l t)⟩
  refine ⟨fun n hn => ?_, h1⟩
  by_cases hl : n < l.length
  · exact (h n hl).prefix (addL_prefix l t)
  · have : n = addN l t := by
      unfold addL at hn
      cases hx : nix l t with
      | some i => simp [hx] at hn; omega
      | none => simp [hx] at hn; simp [addN, hx]; omega
    rw [this]
    exact h1.mono (by omega)

theorem p_hs (s : ByteArray) : ∀ f : Nat,
    (∀ above i l n k l', i ≤ s.size → Hs l → pTerm s f above i l = .ok n k l' → Hs l' ∧ above ≤ 12 ∧ Hgt l' (13 - above) n) ∧
    (∀ above i l xs x k l', i ≤ s.size → Hs l → (∀ a ∈ xs, Hgt l (13 - above) a) → pArgs s f above i l xs = .ok x k l' → Hs l' ∧ ∀ a ∈ x, Hgt l' (13 - above) a)
  | 0 => ⟨fun _ _ _ _ _ _ _ _ e => (by rw [pTerm] at e; cases e), fun _ _ _ _ _ _ _ _ _ _ e => (by rw [pArgs] at e; cases e)⟩
  | f + 1 => by
    obtain ⟨IT, IA⟩ := p_hs s f
    obtain ⟨GT, GA⟩ := p_grows s f
    constructor
    · intro above i l n k l' hi hs e
      rw [pTerm] at e
      split at e
      · cases e
      · have h4 := bl_le (nmE_le hi)
        split at e
        · cases e
        · next ha =>
          split at e
          · next hst =>
            have h6 := behind_le (c := 40) h4
            split at e
            · cases e
            · next xs k2 l2 hx =>
              obtain ⟨A1, A2⟩ := IA _ _ _ _ _ _ _ h6 hs (by simp) hx
              unfold pEnd at e
              split at e
              · injection e with e1 e2 e3
                subst e1 e2 e3
                obtain ⟨B1, B2⟩ := A1.add (t := ⟨s.extract i (nmE s i), xs⟩) (g := 13 - (above + 1)) (by omega) A2
                exact ⟨B1, by omega, by rw [show 13 - above = 13 - (above + 1) + 1 from by omega]; exact B2⟩
              · cases e
          · unfold pEnd at e
            split at e
            · injection e with e1 e2 e3
              subst e1 e2 e3
              obtain ⟨B1, B2⟩ := hs.add (t := ⟨s.extract i (nmE s i), []⟩) (g := 13 - (above + 1)) (by omega) (by simp)
              exact ⟨B1, by omega, by rw [show 13 - above = 13 - (above + 1) + 1 from by omega]; exact B2⟩
            · cases e
    · intro above i l xs x k l' hi hs hxs e
      rw [pArgs] at e
      split at e
      · cases e
      · split at e
        · cases e
        · split at e
          · cases e
          · next n k2 l2 hx =>
            obtain ⟨A1, _, A2⟩ := IT _ _ _ _ _ _ hi hs hx
            obtain ⟨B0, B1⟩ := GT above i l hi
            obtain ⟨B2, B3⟩ := B1 n k2 l2 hx
            rw [hx] at B0
            have hxs2 : ∀ a ∈ xs ++ [n], Hgt l2 (13 - above) a := by
              intro a ha
              rcases List.mem_append.1 ha with ha | ha
              · exact (hxs a ha).prefix B0
              · rw [List.mem_singleton.1 ha]; exact A2
            split at e
            · injection e with e1 e2 e3
              subst e1 e2 e3
              exact ⟨A1, hxs2⟩
            · split at e
              · exact IA _ _ _ _ _ _ _ (behind_le B3) A1 hxs2 e
              · cases e

/-- f 0, f 1 .. with commas between, up to k. -/
def joinTo (f : Nat → List UInt8) : Nat → List UInt8
  | 0 => []
  | k + 1 => joinTo f k ++ ((if k = 0 then [] else [44]) ++ f k)
theorem joinTo_congr {f g : Nat → List UInt8} : ∀ {k : Nat}, (∀ j, j < k → f j = g j) → joinTo f k = joinTo g k
  | 0, _ => rfl
  | k + 1, h => by rw [joinTo, joinTo, joinTo_congr (fun j hj => h j (by omega)), h k (by omega)]

/-- What a term shows. -/
def shw (l : List Tm) : Nat → Nat → List UInt8
  | 0, _ => []
  | f + 1, n => match l[n]? with
    | none => []
    | some t => t.name.data.toList ++ (if t.args.length = 0 then [] else 40 :: (joinTo (fun j => shw l f (t.arg j)) t.args.length ++ [41]))

theorem arg_mem {t : Tm} {j : Nat} (h : j < t.args.length) : t.arg j ∈ t.args := by
  unfold Tm.arg
  rw [List.getD_eq_getElem?_getD, List.getElem?_eq_getElem h]
  simp

theorem shw_up {l : List Tm} : ∀ {f n : Nat}, Hgt l f n → shw l (f + 1) n = shw l f n
  | 0, _, h => h.elim
  | f + 1, n, ⟨t, ht, ha⟩ => by
    rw [shw, shw, ht]
    simp only
    rw [joinTo_congr (fun j hj => shw_up (ha _ (arg_mem hj)))]
theorem shw_mono {l : List Tm} {f g n : Nat} (h : Hgt l f n) (hfg : f ≤ g) : shw l g n = shw l f n := by
  induction hfg with
  | refl => rfl
  | step hle ih => rw [shw_up (h.mono hle), ih]
theorem shw_prefix {l l' : List Tm} (hl : l <+: l') : ∀ {f n : Nat}, Hgt l f n → shw l' f n = shw l f n
  | 0, _, h => h.elim
  | f + 1, n, ⟨t, ht, ha⟩ => by
    have ht' : l'[n]? = some t := by
      obtain ⟨r, rfl⟩ := hl
      rw [List.getElem?_append_left (List.getElem?_eq_some_iff.1 ht).1]
      exact ht
    rw [shw, shw, ht, ht']
    simp only
    rw [joinTo_congr (fun j hj => shw_prefix hl (ha _ (arg_mem hj)))]

theorem joinTo_len {f : Nat → List UInt8} {M : Nat} : ∀ {k : Nat}, (∀ j, j < k → (f j).length ≤ M) → (joinTo f k).length ≤ k * (M + 1)
  | 0, _ => by simp [joinTo]
  | k + 1, h => by
    rw [joinTo]
    have h1 := joinTo_len (k := k) (fun j hj => h j (by omega))
    have h2 := h k (by omega)
    rw [List.length_append, List.length_append, Nat.succ_mul]
    have h3 : (if k = 0 then ([] : List UInt8) else [44]).length ≤ 1 := by split <;> simp
    omega

theorem shw_len {l : List Tm} (hok : ∀ t ∈ l, t.ok) : ∀ (f n : Nat), (shw l f n).length ≤ 12 * 5 ^ f
  | 0, n => by simp [shw]
  | f + 1, n => by
    rw [shw]
    cases ht : l[n]? with
    | none => simp
    | some t =>
      simp only
      have hk := hok t (List.mem_of_getElem? ht)
      have h1 : t.name.data.toList.length ≤ 6 := by simpa using hk.name
      have hp : 1 ≤ 5 ^ f := Nat.one_le_pow _ _ (by omega)
      rw [List.length_append, Nat.pow_succ]
      split
      · rw [List.length_nil]; omega
      · have h2 := joinTo_len (f := fun j => shw l f (t.arg j)) (k := t.args.length) (fun j _ => shw_len hok f (t.arg j))
        have h3 : t.args.length * (12 * 5 ^ f + 1) ≤ 4 * (12 * 5 ^ f + 1) := Nat.mul_le_mul_right _ hk.args
        rw [List.length_cons, List.length_append]
        simp only [List.length_cons, List.length_nil]
        omega

/-- While the program writes: k args are written. -/
def accW (f : Nat → List UInt8) (k : Nat) : List UInt8 := if k = 0 then [] else 40 :: joinTo f k
def signW (k : Nat) : Nat := if k = 0 then 40 else 44
theorem accW_step (f : Nat → List UInt8) (k : Nat) : accW f (k + 1) = accW f k ++ (UInt8.ofNat (signW k) :: f k) := by
  unfold accW signW
  by_cases h : k = 0
  · subst h; simp [joinTo]
  · simp [h, joinTo]
