/- TermBack: what reading keeps besides; reading back. -/
import Derived.Test.YtjfekcjhflcnaaaBackB
namespace Go.Proofs.Ytjfekcjhflcnaaa
open Go.RowKit

/-- Args come ahead. -/
def Ahd (l : List Tm) : Prop := ∀ (i : Nat) (t : Tm), l[i]? = some t → ∀ a ∈ t.args, a < i

structure Nq (l : List Tm) : Prop where
  nms : Nms l
  ahd : Ahd l

theorem Nq.add {l : List Tm} (h : Nq l) {t : Tm} (hn : NmOk t.name) (ha : ∀ a ∈ t.args, a < l.length) : Nq (addL l t) := by
  unfold addL
  cases hx : nix l t with
  | some i => exact h
  | none =>
    refine ⟨fun u hu => ?_, fun i u hi a hau => ?_⟩
    · simp only [List.mem_append, List.mem_singleton] at hu
      rcases hu with hu | rfl
      · exact h.nms u hu
      · exact hn
    · by_cases hl : i < l.length
      · rw [List.getElem?_append_left hl] at hi
        exact h.ahd i u hi a hau
      · have hlt := (List.getElem?_eq_some_iff.1 hi).1
        have e : i = l.length := by simp at hlt; omega
        subst e
        simp at hi
        subst hi
        exact ha a hau

theorem p_nq (s : ByteArray) : ∀ f : Nat,
    (∀ above i l n k l', i ≤ s.size → Nq l → pTerm s f above i l = .ok n k l' → Nq l') ∧
    (∀ above i l xs x k l', i ≤ s.size → xs.length ≤ 4 → (∀ a ∈ xs, a < l.length) → Nq l → pArgs s f above i l xs = .ok x k l' → Nq l')
  | 0 => ⟨fun _ _ _ _ _ _ _ _ e => (by rw [pTerm] at e; cases e), fun _ _ _ _ _ _ _ _ _ _ _ e => (by rw [pArgs] at e; cases e)⟩
  | f + 1 => by
    obtain ⟨IT, IA⟩ := p_nq s f
    obtain ⟨GT, GA⟩ := p_grows s f
    obtain ⟨CT, CA⟩ := p_count s f
    constructor
    · intro above i l n k l' hi hq e
      rw [pTerm] at e
      split at e
      · cases e
      · next hb =>
        have hb' : badNm s i = false := by simpa using hb
        have hnm := nm_ok hi hb'
        have h4 := bl_le (nmE_le hi)
        split at e
        · cases e
        · split at e
          · have h6 := behind_le (c := 40) h4
            split at e
            · cases e
            · next xs k2 l2 hx =>
              have A1 := IA _ _ _ _ _ _ _ h6 (by simp) (by simp) hq hx
              obtain ⟨_, _, A3⟩ := CA _ _ _ _ _ _ _ h6 (by simp) (by simp) hx
              unfold pEnd at e
              split at e
              · injection e with e1 e2 e3
                subst e3
                exact A1.add (t := ⟨s.extract i (nmE s i), xs⟩) hnm A3
              · cases e
          · unfold pEnd at e
            split at e
            · injection e with e1 e2 e3
              subst e3
              exact hq.add (t := ⟨s.extract i (nmE s i), []⟩) hnm (by simp)
            · cases e
    · intro above i l xs x k l' hi hx4 hxs hq e
      rw [pArgs] at e
      split at e
      · cases e
      · split at e
        · cases e
        · split at e
          · cases e
          · next n k2 l2 hx =>
            have A1 := IT _ _ _ _ _ _ hi hq hx
            obtain ⟨B0, B1⟩ := GT above i l hi
            obtain ⟨B2, B3⟩ := B1 n k2 l2 hx
            obtain ⟨_, C2⟩ := CT _ _ _ _ _ _ hi hx
            rw [hx] at B0
            have B4 : l.length ≤ l2.length := B0.length_le
            have hl4 : (xs ++ [n]).length ≤ 4 := by simp; omega
            have hxs2 : ∀ a ∈ xs ++ [n], a < l2.length := by
              intro a ha
              rcases List.mem_append.1 ha with ha | ha
              · exact Nat.lt_of_lt_of_le (hxs a ha) B4
              · rw [List.mem_singleton.1 ha]; exact C2
            split at e
            · injection e with e1 e2 e3
              subst e3
              exact A1
            · split at e
              · exact IA _ _ _ _ _ _ _ (behind_le B3) hl4 hxs2 A1 e
              · cases e

theorem Nq.nil : Nq [] := ⟨fun t h => by simp at h, fun i t h => by simp at h⟩
theorem Nq.read {l : List Tm} (h : Nq l) (s : ByteArray) : Nq (pRead s l).2.2.2 := by
  unfold pRead
  split
  · exact h
  · unfold pWhole
    have hb := bl_le (s := s) (i := 0) (by omega)
    split
    · exact h
    · next n k l' hx =>
      split
      · exact h
      · split
        · exact h
        · exact (p_nq s _).1 0 (bl s 0) l n k l' hb h hx

theorem At.whole (x : List UInt8) : At (bt x) 0 x := fun j u hj => by
  have hlt := (List.getElem?_eq_some_iff.1 hj).1
  rw [Nat.zero_add, bt_size, byt_bt, hj]
  exact ⟨hlt, rfl⟩

/-- Reading what is shown. -/
theorem read_back {l : List Tm} (hnd : l.Nodup) (hk : Kp l) (hq : Nq l) {n : Nat} (hn : n < l.length) (hs : (shw l 13 n).length ≤ 400) : pRead (bt (shw l 13 n)) l = (n, 0, 0, l) := by
  have hA := At.whole (shw l 13 n)
  have hH := hk.hs n hn
  have h1 := shw_first hq.nms hH hA
  have hb : bl (bt (shw l 13 n)) 0 = 0 := bl_end fun x => isNm_not h1.2 x.2
  have hz := bt_size (shw l 13 n)
  have tm := back hnd hk.good hq.nms (bt (shw l 13 n)) 13 n hH 0 0 (2 * (bt (shw l 13 n)).size + 1) (by omega) hA (Or.inl (by omega)) (by omega) (by omega)
  have hl := hk.len
  unfold pRead pWhole
  rw [if_neg (by omega), hb, tm]
  simp only [Nat.zero_add]
  rw [if_neg (by omega), if_neg (by omega)]
/-- No two show the same. -/
theorem shw_inj {l : List Tm} (hnd : l.Nodup) (hk : Kp l) (hq : Nq l) {n m : Nat} (hn : n < l.length) (hm : m < l.length) (hs : (shw l 13 n).length ≤ 400) (he : shw l 13 m = shw l 13 n) : m = n := by
  have h1 := read_back hnd hk hq hn hs
  have h2 := read_back hnd hk hq hm (by rw [he]; exact hs)
  rw [he, h1] at h2
  injection h2 with h3
  exact h3.symm
