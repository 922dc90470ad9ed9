/- Package logic: the parser, plainly. A term that is read off its own piece of a text is read as in the text. -/
import Derived.Test.YtinphcnknionmaaP19
import Derived.Test.YtinphcnknionmaaP13
namespace Go.Proofs.Ytinphcnknionmaa
open Go.RowKit Go.Maps

/-- What reading answers: a value, or an error. -/
def Res.bind {α β : Type} (r : Res α) (g : α → Nat → List Tm → Res β) : Res β := match r with
  | .ok x i l => g x i l
  | .bad e p l => .bad e p l

def gEqu (s : ByteArray) (i : Nat) (l : List Tm) : Res Fo :=
  (lTerm s i l).bind fun a k l1 =>
    if stands s (if byt s k = 33 then k + 1 else k) 61 then
      (lTerm s (bl s ((if byt s k = 33 then k + 1 else k) + 1)) l1).bind fun b k2 l2 => .ok (if byt s k = 33 then .neg (.eq a b) else .eq a b) k2 l2
    else .bad 2 (if byt s k = 33 then k + 1 else k) l1

def sgn (lev : Nat) : Nat := if lev = 1 then 124 else 38
def opn (lev : Nat) : Int := if lev = 1 then 3 else 2

mutual
/-- form, or, and, not: the levels 0 to 3. -/
def gp (s : ByteArray) : Nat → Nat → Nat → Nat → List Tm → Res Fo
  | 0, _, _, _, l => .bad 0 0 l
  | f + 1, lev, d, i, l =>
    if lev = 0 then
      (gp s f 1 d i l).bind fun a k l1 =>
        if byt s k = 45 then
          if stands s (k + 1) 62 then (gp s f 0 d (bl s (k + 1 + 1)) l1).bind fun b k2 l2 => .ok (.two 4 a b) k2 l2
          else .bad 2 (k + 1) l1
        else .ok a k l1
    else if lev = 3 then
      if byt s i = 33 then
        if 20 ≤ d then .bad 4 i l else (gp s f 3 (d + 1) (bl s (i + 1)) l).bind fun a k l1 => .ok (.neg a) k l1
      else if byt s i = 40 then
        if 20 ≤ d then .bad 4 i l else (gp s f 0 (d + 1) (bl s (i + 1)) l).bind fun a k l1 => if stands s k 41 then .ok a (bl s (k + 1)) l1 else .bad 2 k l1
      else gEqu s i l
    else (gp s f (lev + 1) d i l).bind fun a k l1 => gl s f lev d k l1 a
/-- The rest of a row. -/
def gl (s : ByteArray) : Nat → Nat → Nat → Nat → List Tm → Fo → Res Fo
  | 0, _, _, _, l, _ => .bad 0 0 l
  | f + 1, lev, d, k, l, a =>
    if byt s k = sgn lev then (gp s f (lev + 1) d (bl s (k + 1)) l).bind fun b k2 l2 => gl s f lev d k2 l2 (.two (opn lev) a b)
    else .ok a k l
end

theorem byt_in {s : ByteArray} {i c : Nat} (h : byt s i = c) (hc : c ≠ 0) : i < s.size := by
  refine Decidable.byContradiction fun hn => ?_
  simp [byt, hn] at h
  exact hc h.symm
theorem stands_of {s : ByteArray} {i c : Nat} (h : byt s i = c) (hc : c ≠ 0) : stands s i c = true := stands_true (byt_in h hc) h

theorem gEqu_ok {s : ByteArray} {i : Nat} {l : List Tm} (hi : i ≤ s.size) {f : Fo} {k : Nat} {l' : List Tm} (h : gEqu s i l = .ok f k l') : i < k ∧ k ≤ s.size := by
  unfold gEqu at h
  cases h1 : lTerm s i l with
  | bad e p l1 => rw [h1] at h; simp [Res.bind] at h
  | ok a k1 l1 =>
    obtain ⟨b1, b2⟩ := lTerm_ok hi h1
    rw [h1] at h
    simp only [Res.bind] at h
    have hq1 : k1 ≤ (if byt s k1 = 33 then k1 + 1 else k1) := by split <;> omega
    generalize (if byt s k1 = 33 then k1 + 1 else k1) = q at h hq1
    cases hs : stands s q 61 with
    | false => rw [hs] at h; simp at h
    | true =>
      rw [hs, if_pos rfl] at h
      have hk := (of_decide_eq_true hs).1
      have hbl := bl_le (s := s) (i := q + 1) (by omega)
      have hbg := bl_ge s (q + 1)
      cases h2 : lTerm s (bl s (q + 1)) l1 with
      | bad e p l2 => rw [h2] at h; simp at h
      | ok b k2 l2 =>
        obtain ⟨c1, c2⟩ := lTerm_ok hbl h2
        rw [h2] at h
        simp only at h
        injection h with _ e2 _
        omega

/-- Places grow. -/
theorem gp_ok (s : ByteArray) : ∀ f : Nat, (∀ lev d i l a k l', i ≤ s.size → gp s f lev d i l = .ok a k l' → i < k ∧ k ≤ s.size) ∧
    (∀ lev d i l a b k l', i ≤ s.size → gl s f lev d i l a = .ok b k l' → i ≤ k ∧ k ≤ s.size)
  | 0 => ⟨fun _ _ _ _ _ _ _ _ e => (by rw [gp] at e; cases e), fun _ _ _ _ _ _ _ _ _ e => (by rw [gl] at e; cases e)⟩
  | f + 1 => by
    obtain ⟨IP, IL⟩ := gp_ok s f
    constructor
    · intro lev d i l a k l' hi h
      rw [gp] at h
      split at h
      · cases h1 : gp s f 1 d i l with
        | bad e p l1 => rw [h1] at h; simp [Res.bind] at h
        | ok a1 k1 l1 =>
          obtain ⟨b1, b2⟩ := IP _ _ _ _ _ _ _ hi h1
          rw [h1] at h
          simp only [Res.bind] at h
          split at h
          · split at h
            · next hs =>
              have hk := (of_decide_eq_true hs).1
              have hbl := bl_le (s := s) (i := k1 + 1 + 1) (by omega)
              have hbg := bl_ge s (k1 + 1 + 1)
              split at h
              · next b k2 l2 h2 =>
                obtain ⟨c1, c2⟩ := IP _ _ _ _ _ _ _ hbl h2
                injection h with _ e2 _
                omega
              · cases h
            · cases h
          · injection h with _ e2 _
            omega
      · split at h
        · split at h
          · next h33 =>
            have hi2 := byt_in h33 (by omega)
            have hbl := bl_le (s := s) (i := i + 1) (by omega)
            have hbg := bl_ge s (i + 1)
            split at h
            · cases h
            · cases h1 : gp s f 3 (d + 1) (bl s (i + 1)) l with
              | bad e p l1 => rw [h1] at h; simp [Res.bind] at h
              | ok a1 k1 l1 =>
                obtain ⟨b1, b2⟩ := IP _ _ _ _ _ _ _ hbl h1
                rw [h1] at h
                simp only [Res.bind] at h
                injection h with _ e2 _
                omega
          · split at h
            · next h40 =>
              have hi2 := byt_in h40 (by omega)
              have hbl := bl_le (s := s) (i := i + 1) (by omega)
              have hbg := bl_ge s (i + 1)
              split at h
              · cases h
              · cases h1 : gp s f 0 (d + 1) (bl s (i + 1)) l with
                | bad e p l1 => rw [h1] at h; simp [Res.bind] at h
                | ok a1 k1 l1 =>
                  obtain ⟨b1, b2⟩ := IP _ _ _ _ _ _ _ hbl h1
                  rw [h1] at h
                  simp only [Res.bind] at h
                  split at h
                  · next hs =>
                    have hk := (of_decide_eq_true hs).1
                    have hbl2 := bl_le (s := s) (i := k1 + 1) (by omega)
                    have hbg2 := bl_ge s (k1 + 1)
                    injection h with _ e2 _
                    omega
                  · cases h
            · exact gEqu_ok hi h
        · cases h1 : gp s f (lev + 1) d i l with
          | bad e p l1 => rw [h1] at h; simp [Res.bind] at h
          | ok a1 k1 l1 =>
            obtain ⟨b1, b2⟩ := IP _ _ _ _ _ _ _ hi h1
            rw [h1] at h
            simp only [Res.bind] at h
            have := IL _ _ _ _ _ _ _ _ b2 h
            omega
    · intro lev d i l a b k l' hi h
      rw [gl] at h
      split at h
      · next hb =>
        have hi2 := byt_in hb (by unfold sgn; split <;> omega)
        have hbl := bl_le (s := s) (i := i + 1) (by omega)
        have hbg := bl_ge s (i + 1)
        cases h1 : gp s f (lev + 1) d (bl s (i + 1)) l with
        | bad e p l1 => rw [h1] at h; simp [Res.bind] at h
        | ok a1 k1 l1 =>
          obtain ⟨b1, b2⟩ := IP _ _ _ _ _ _ _ hbl h1
          rw [h1] at h
          simp only [Res.bind] at h
          have := IL _ _ _ _ _ _ _ _ b2 h
          omega
      · injection h with _ e2 _
        omega

end Go.Proofs.Ytinphcnknionmaa

namespace Go.Proofs.Ytinphcnknionmaa

section
variable {s : ByteArray} {i t : Nat}

theorem byt_ext (ht : t ≤ s.size) {j : Nat} (hij : i ≤ j) (hj : j < t) : byt (s.extract i t) (j - i) = byt s j := by
  have hz : (s.extract i t).size = t - i := ext_size (by omega) ht
  have h1 : j - i < (s.extract i t).size := by omega
  have h2 : j < s.size := by omega
  simp only [byt, h1, h2, dif_pos]
  rw [ByteArray.getElem_extract]
  have e : i + (j - i) = j := by omega
  simp [e]
theorem byt_end (ht : t ≤ s.size) (hit : i ≤ t) : byt (s.extract i t) (t - i) = 0 := by
  have hz : (s.extract i t).size = t - i := ext_size hit ht
  simp [byt, hz]

/-- The bracket that closes so many stands right ahead of t. -/
def Cl (s : ByteArray) (t j o : Nat) : Prop := 1 ≤ o ∧ j ≤ s.size ∧ clo s j o = t

theorem clo_le {s : ByteArray} {j o : Nat} (hj : j ≤ s.size) : j ≤ clo s j o ∧ clo s j o ≤ s.size ∧ (j < s.size → j < clo s j o) := by
  by_cases h : j < s.size
  · rw [clo_in h]
    generalize (if byt s j = 40 then o + 1 else if byt s j = 41 then o - 1 else o) = o2
    split
    · omega
    · have := clo_le (s := s) (j := j + 1) (o := o2) (by omega)
      omega
  · rw [clo_out h]
    omega
termination_by s.size - j
theorem Cl.le {s : ByteArray} {t j o : Nat} (h : Cl s t j o) : j ≤ t ∧ t ≤ s.size ∧ (j < s.size → j < t) := by
  have := clo_le (s := s) (o := o) h.2.1
  rw [h.2.2] at this
  exact this
theorem Cl.skip {s : ByteArray} {t j o : Nat} (h : Cl s t j o) (hj : j < s.size) (h1 : ¬ byt s j = 40) (h2 : ¬ byt s j = 41) : Cl s t (j + 1) o := by
  obtain ⟨a, b, c⟩ := h
  rw [clo_in hj, if_neg h1, if_neg h2, if_neg (by omega)] at c
  exact ⟨a, hj, c⟩
theorem Cl.opened {s : ByteArray} {t j o : Nat} (h : Cl s t j o) (hj : j < s.size) (h1 : byt s j = 40) : Cl s t (j + 1) (o + 1) := by
  obtain ⟨a, b, c⟩ := h
  rw [clo_in hj, if_pos h1, if_neg (by omega)] at c
  exact ⟨by omega, hj, c⟩
theorem Cl.closed {s : ByteArray} {t j o : Nat} (h : Cl s t j o) (hj : j < s.size) (h1 : byt s j = 41) : (o = 1 ∧ t = j + 1) ∨ (2 ≤ o ∧ Cl s t (j + 1) (o - 1)) := by
  obtain ⟨a, b, c⟩ := h
  rw [clo_in hj, if_neg (show ¬ byt s j = 40 by omega), if_pos h1] at c
  by_cases ho : o = 1
  · subst ho
    rw [if_pos rfl] at c
    exact Or.inl ⟨rfl, c.symm⟩
  · rw [if_neg (by omega)] at c
    exact Or.inr ⟨by omega, by omega, hj, c⟩

theorem isNm_no {c : Nat} (h : isNm c = true) : ¬ c = 40 ∧ ¬ c = 41 := by
  constructor
  · rintro rfl; revert h; decide
  · rintro rfl; revert h; decide
theorem Cl.bl {s : ByteArray} {t j o : Nat} (h : Cl s t j o) : Cl s t (bl s j) o := by
  by_cases hb : j < s.size ∧ byt s j = 32
  · rw [bl_at hb.1 hb.2]
    exact Cl.bl (h.skip hb.1 (by omega) (by omega))
  · rw [bl_end hb]
    exact h
termination_by s.size - j
theorem Cl.nm {s : ByteArray} {t j o : Nat} (h : Cl s t j o) : Cl s t (nmE s j) o := by
  by_cases hb : j < s.size ∧ isNm (byt s j) = true
  · rw [nmE_at hb.1 hb.2]
    have := isNm_no hb.2
    exact Cl.nm (h.skip hb.1 this.1 this.2)
  · rw [nmE_end hb]
    exact h
termination_by s.size - j

/-- What is looked at ahead of t is the same in the piece. -/
theorem stands_x (ht : t ≤ s.size) {j : Nat} (hij : i ≤ j) (hj : j ≤ t) (he : j < s.size → j < t) (c : Nat) : stands (s.extract i t) (j - i) c = stands s j c := by
  have hz : (s.extract i t).size = t - i := ext_size (by omega) ht
  by_cases h : j < t
  · unfold stands
    rw [byt_ext ht hij h, hz]
    simp only [decide_eq_decide]
    omega
  · have h1 : ¬ j < s.size := fun x => h (he x)
    rw [stands_end h1, stands_end (by omega)]
theorem bl_x (ht : t ≤ s.size) {j o : Nat} (hij : i ≤ j) (h : Cl s t j o) : bl (s.extract i t) (j - i) = bl s j - i := by
  have hl := h.le
  have hz : (s.extract i t).size = t - i := ext_size (by omega) ht
  by_cases hb : j < s.size ∧ byt s j = 32
  · have hjt := hl.2.2 hb.1
    have hbx : byt (s.extract i t) (j - i) = 32 := by rw [byt_ext ht hij hjt]; exact hb.2
    rw [bl_at hb.1 hb.2, bl_at (by omega) hbx, show j - i + 1 = j + 1 - i by omega]
    exact bl_x ht (by omega) (h.skip hb.1 (by omega) (by omega))
  · rw [bl_end hb, bl_end]
    intro hx
    rw [hz] at hx
    have hjt : j < t := by omega
    rw [byt_ext ht hij hjt] at hx
    exact hb ⟨by omega, hx.2⟩
termination_by s.size - j
theorem nm_x (ht : t ≤ s.size) {j o : Nat} (hij : i ≤ j) (h : Cl s t j o) : nmE (s.extract i t) (j - i) = nmE s j - i := by
  have hl := h.le
  have hz : (s.extract i t).size = t - i := ext_size (by omega) ht
  by_cases hb : j < s.size ∧ isNm (byt s j) = true
  · have hjt := hl.2.2 hb.1
    have hbx : isNm (byt (s.extract i t) (j - i)) = true := by rw [byt_ext ht hij hjt]; exact hb.2
    have := isNm_no hb.2
    rw [nmE_at hb.1 hb.2, nmE_at (by omega) hbx, show j - i + 1 = j + 1 - i by omega]
    exact nm_x ht (by omega) (h.skip hb.1 this.1 this.2)
  · rw [nmE_end hb, nmE_end]
    intro hx
    rw [hz] at hx
    have hjt : j < t := by omega
    rw [byt_ext ht hij hjt] at hx
    exact hb ⟨by omega, hx.2⟩
termination_by s.size - j
theorem badNm_x (ht : t ≤ s.size) {j o : Nat} (hij : i ≤ j) (h : Cl s t j o) : badNm (s.extract i t) (j - i) = badNm s j := by
  have hl := h.le
  have hg := nmE_ge s j
  unfold badNm
  rw [nm_x ht hij h]
  have e1 : decide (nmE s j - i = j - i) = decide (nmE s j = j) := by simp only [decide_eq_decide]; omega
  have e2 : decide (6 < nmE s j - i - (j - i)) = decide (6 < nmE s j - j) := by simp only [decide_eq_decide]; omega
  have e3 : isDig (byt (s.extract i t) (j - i)) = isDig (byt s j) := by
    by_cases hj : j < t
    · rw [byt_ext ht hij hj]
    · have h1 : ¬ j < s.size := fun x => hj (hl.2.2 x)
      have hz : (s.extract i t).size = t - i := ext_size (by omega) ht
      have a : byt s j = 0 := by simp [byt, h1]
      have b : byt (s.extract i t) (j - i) = 0 := by
        have : ¬ j - i < (s.extract i t).size := by omega
        unfold byt
        rw [dif_neg this]
      rw [a, b]
  rw [e1, e2, e3]
theorem ext_x {a b : Nat} (hia : i ≤ a) (hab : a ≤ b) (hb : b ≤ t) : (s.extract i t).extract (a - i) (b - i) = s.extract a b := by
  rw [ByteArray.extract_extract]
  have e1 : i + (a - i) = a := by omega
  have e2 : min (i + (b - i)) t = b := by omega
  rw [e1, e2]

end

/-- pTerm, pArgs in the piece and in the text. -/
def SimT (s : ByteArray) (i t f : Nat) : Prop := ∀ d j l o, i ≤ j → Cl s t j o → match pTerm s f d j l with
  | .ok n k l' => pTerm (s.extract i t) f d (j - i) l = .ok n (k - i) l' ∧ Cl s t k o ∧ i ≤ k
  | .bad c q l' => pTerm (s.extract i t) f d (j - i) l = .bad c (q - i) l' ∧ (c = 0 ∨ i ≤ q)
def SimA (s : ByteArray) (i t f : Nat) : Prop := ∀ d j l xs o, i ≤ j → Cl s t j o → match pArgs s f d j l xs with
  | .ok ys k l' => (2 ≤ o ∧ pArgs (s.extract i t) f d (j - i) l xs = .ok ys (k - i) l' ∧ Cl s t k (o - 1) ∧ i ≤ k) ∨ (o = 1 ∧ pArgs (s.extract i t) f d (j - i) l xs = .ok ys (t - i) l' ∧ k = bl s t)
  | .bad c q l' => pArgs (s.extract i t) f d (j - i) l xs = .bad c (q - i) l' ∧ (c = 0 ∨ i ≤ q)

theorem sim (s : ByteArray) (i t : Nat) (ht : t ≤ s.size) : ∀ f, SimT s i t f ∧ SimA s i t f
  | 0 => by
    constructor
    · intro d j l o _ _
      rw [pTerm]
      exact ⟨by rw [pTerm]; simp, Or.inl rfl⟩
    · intro d j l xs o _ _
      rw [pArgs]
      exact ⟨by rw [pArgs]; simp, Or.inl rfl⟩
  | f + 1 => by
    obtain ⟨IT, IA⟩ := sim s i t ht f
    constructor
    · intro d j l o hij hC
      have hz : (s.extract i t).size = t - i := ext_size (by have := hC.le; omega) ht
      have hn := hC.nm
      have hng := nmE_ge s j
      have hm := hn.bl
      have hmg := bl_ge s (nmE s j)
      have hml := hm.le
      have hnl := hn.le
      have ex : (s.extract i t).extract (j - i) (nmE s j - i) = s.extract j (nmE s j) := ext_x hij hng hnl.1
      have bx : bl (s.extract i t) (nmE s j - i) = bl s (nmE s j) - i := bl_x ht (by omega) hn
      rw [pTerm, pTerm, badNm_x ht hij hC, nm_x ht hij hC, bx, stands_x ht (by omega) hml.1 hml.2.2, ex]
      by_cases h1 : badNm s j = true
      · rw [if_pos h1, if_pos h1]
        exact ⟨rfl, Or.inr hij⟩
      · rw [if_neg h1, if_neg h1]
        by_cases h2 : 12 < d
        · rw [if_pos h2, if_pos h2]
          exact ⟨rfl, Or.inr hij⟩
        · rw [if_neg h2, if_neg h2]
          by_cases h3 : stands s (bl s (nmE s j)) 40 = true
          · rw [if_pos h3, if_pos h3]
            obtain ⟨hlt, h40⟩ := of_decide_eq_true h3
            have ho := hm.opened hlt h40
            have e1 : behind s (bl s (nmE s j)) 40 = bl s (bl s (nmE s j) + 1) := behind_true h3
            have h3x : stands (s.extract i t) (bl s (nmE s j) - i) 40 = true := by rw [stands_x ht (by omega) hml.1 hml.2.2]; exact h3
            have e2 : behind (s.extract i t) (bl s (nmE s j) - i) 40 = bl s (bl s (nmE s j) + 1) - i := by
              rw [behind_true h3x, show bl s (nmE s j) - i + 1 = bl s (nmE s j) + 1 - i by omega]
              exact bl_x ht (by omega) ho
            rw [e1, e2]
            have hq := bl_ge s (bl s (nmE s j) + 1)
            have A := IA (d + 1) (bl s (bl s (nmE s j) + 1)) l [] (o + 1) (by omega) ho.bl
            cases hp : pArgs s f (d + 1) (bl s (bl s (nmE s j) + 1)) l [] with
            | bad c q l' =>
              rw [hp] at A
              obtain ⟨A1, A2⟩ := A
              rw [A1]
              exact ⟨rfl, A2⟩
            | ok ys k l' =>
              rw [hp] at A
              rcases A with ⟨_, A1, A2, A3⟩ | ⟨A0, _⟩
              · rw [A1]
                simp only [pEnd]
                by_cases h4 : fitsB l' ⟨s.extract j (nmE s j), ys⟩ = true
                · rw [if_pos h4, if_pos h4]
                  exact ⟨rfl, by simpa using A2, A3⟩
                · rw [if_neg h4, if_neg h4]
                  exact ⟨rfl, Or.inr hij⟩
              · have := hC.1
                omega
          · rw [if_neg h3, if_neg h3]
            simp only [pEnd]
            by_cases h4 : fitsB l ⟨s.extract j (nmE s j), []⟩ = true
            · rw [if_pos h4, if_pos h4]
              exact ⟨rfl, hm, by omega⟩
            · rw [if_neg h4, if_neg h4]
              exact ⟨rfl, Or.inr hij⟩
    · intro d j l xs o hij hC
      have hl := hC.le
      have hz : (s.extract i t).size = t - i := ext_size (by omega) ht
      rw [pArgs, pArgs, hz]
      by_cases h1 : j = s.size
      · rw [if_pos h1, if_pos (show j - i = t - i by omega)]
        exact ⟨rfl, Or.inr hij⟩
      · have hjs : j < s.size := by have := hC.2.1; omega
        have hne : ¬ j - i = t - i := by have := hl.2.2 hjs; omega
        rw [if_neg h1, if_neg hne]
        by_cases h2 : xs.length = 4
        · rw [if_pos h2, if_pos h2]
          exact ⟨rfl, Or.inr hij⟩
        · rw [if_neg h2, if_neg h2]
          have T := IT d j l o hij hC
          cases hp : pTerm s f d j l with
          | bad c q l' =>
            rw [hp] at T
            obtain ⟨T1, T2⟩ := T
            rw [T1]
            exact ⟨rfl, T2⟩
          | ok n k l' =>
            rw [hp] at T
            obtain ⟨T1, T2, T3⟩ := T
            rw [T1]
            have kl := T2.le
            simp only []
            rw [stands_x ht T3 kl.1 kl.2.2, stands_x ht T3 kl.1 kl.2.2]
            by_cases h3 : stands s k 41 = true
            · rw [if_pos h3, if_pos h3]
              obtain ⟨hlt, h41⟩ := of_decide_eq_true h3
              have e1 : behind s k 41 = bl s (k + 1) := behind_true h3
              have h3x : stands (s.extract i t) (k - i) 41 = true := by rw [stands_x ht T3 kl.1 kl.2.2]; exact h3
              have e2 : behind (s.extract i t) (k - i) 41 = bl (s.extract i t) (k + 1 - i) := by
                rw [behind_true h3x, show k - i + 1 = k + 1 - i by omega]
              rw [e1, e2]
              rcases T2.closed hlt h41 with ⟨ho, hk⟩ | ⟨ho, hc⟩
              · refine Or.inr ⟨ho, ?_, by rw [hk]⟩
                rw [← hk, bl_end]
                intro hx
                rw [hz] at hx
                omega
              · have hg := bl_ge s (k + 1)
                exact Or.inl ⟨ho, by rw [bl_x ht (by omega) hc], hc.bl, by omega⟩
            · rw [if_neg h3, if_neg h3]
              by_cases h4 : stands s k 44 = true
              · rw [if_pos h4, if_pos h4]
                obtain ⟨hlt, h44⟩ := of_decide_eq_true h4
                have hs := T2.skip hlt (by omega) (by omega)
                have e1 : behind s k 44 = bl s (k + 1) := behind_true h4
                have h4x : stands (s.extract i t) (k - i) 44 = true := by rw [stands_x ht T3 kl.1 kl.2.2]; exact h4
                have e2 : behind (s.extract i t) (k - i) 44 = bl s (k + 1) - i := by
                  rw [behind_true h4x, show k - i + 1 = k + 1 - i by omega]
                  exact bl_x ht (by omega) hs
                rw [e1, e2]
                have hg := bl_ge s (k + 1)
                exact IA d (bl s (k + 1)) l' (xs ++ [n]) o (by omega) hs.bl
              · rw [if_neg h4, if_neg h4]
                exact ⟨rfl, Or.inr T3⟩

section
variable {s : ByteArray} {i t : Nat}
theorem nm_t (ht : t ≤ s.size) {j : Nat} (hij : i ≤ j) (h : nmE s j ≤ t) : nmE (s.extract i t) (j - i) = nmE s j - i := by
  have hz : (s.extract i t).size = t - i := ext_size (by have := nmE_ge s j; omega) ht
  by_cases hb : j < s.size ∧ isNm (byt s j) = true
  · have hg := nmE_ge s (j + 1)
    rw [nmE_at hb.1 hb.2] at h
    have hjt : j < t := by omega
    have hbx : isNm (byt (s.extract i t) (j - i)) = true := by rw [byt_ext ht hij hjt]; exact hb.2
    rw [nmE_at hb.1 hb.2, nmE_at (by omega) hbx, show j - i + 1 = j + 1 - i by omega]
    exact nm_t ht (by omega) h
  · rw [nmE_end hb, nmE_end]
    intro hx
    rw [hz] at hx
    have hjt : j < t := by omega
    rw [byt_ext ht hij hjt] at hx
    exact hb ⟨by omega, hx.2⟩
termination_by s.size - j
theorem bl_t (ht : t ≤ s.size) {j : Nat} (hij : i ≤ j) (h : bl s j ≤ t) : bl (s.extract i t) (j - i) = bl s j - i := by
  have hz : (s.extract i t).size = t - i := ext_size (by have := bl_ge s j; omega) ht
  by_cases hb : j < s.size ∧ byt s j = 32
  · have hg := bl_ge s (j + 1)
    rw [bl_at hb.1 hb.2] at h
    have hjt : j < t := by omega
    have hbx : byt (s.extract i t) (j - i) = 32 := by rw [byt_ext ht hij hjt]; exact hb.2
    rw [bl_at hb.1 hb.2, bl_at (by omega) hbx, show j - i + 1 = j + 1 - i by omega]
    exact bl_t ht (by omega) h
  · rw [bl_end hb, bl_end]
    intro hx
    rw [hz] at hx
    have hjt : j < t := by omega
    rw [byt_ext ht hij hjt] at hx
    exact hb ⟨by omega, hx.2⟩
termination_by s.size - j
theorem badNm_t (ht : t ≤ s.size) (h : nmE s i ≤ t) : badNm (s.extract i t) 0 = badNm s i := by
  have hg := nmE_ge s i
  have hn := nm_t (i := i) (j := i) ht (Nat.le_refl _) h
  rw [Nat.sub_self] at hn
  unfold badNm
  rw [hn]
  by_cases hi : i < t
  · have e3 := byt_ext ht (Nat.le_refl i) hi
    rw [Nat.sub_self] at e3
    rw [e3]
    have e1 : decide (nmE s i - i = 0) = decide (nmE s i = i) := by simp only [decide_eq_decide]; omega
    rw [e1, Nat.sub_zero]
  · have e : nmE s i = i := by omega
    simp [e]
end

/-- A term in the text, plainly: as the document reads it. -/
def rTm (i : Nat) (l : List Tm) (r : Res Nat) : Res Nat := match r with
  | .bad c q _ => .bad c q l
  | .ok n k l' => if 150 < l'.length then .bad 6 i l else .ok n k l'

theorem p_more (s : ByteArray) {f : Nat} (above i : Nat) (l : List Tm) (hi : i ≤ s.size) (hf : 2 * (s.size - i) + 1 ≤ f) (n : Nat) : pTerm s (f + n) above i l = pTerm s f above i l := by
  induction n with
  | zero => rfl
  | succ n ih => rw [← Nat.add_assoc, (p_fuel s (f + n)).1 above i l hi (by omega), ih]

theorem top_sim (s : ByteArray) (i : Nat) (l : List Tm) (hi : i ≤ s.size) (f : Nat) : match pTerm s (f + 1) 0 i l with
    | .ok n k l' => pTerm (s.extract i (tEnd s i)) (f + 1) 0 0 l = .ok n (tEnd s i - i) l' ∧ k = bl s (tEnd s i)
    | .bad c q l' => pTerm (s.extract i (tEnd s i)) (f + 1) 0 0 l = .bad c (q - i) l' ∧ (c = 0 ∨ i ≤ q) := by
  obtain ⟨hit, hts⟩ := tEnd_bd hi
  have hg := nmE_ge s i
  have hmg := bl_ge s (nmE s i)
  have hml : bl s (nmE s i) ≤ s.size := bl_le (nmE_le hi)
  by_cases h40 : byt s (bl s (nmE s i)) = 40
  · have hlt := byt_in h40 (by decide)
    have he : tEnd s i = clo s (bl s (nmE s i) + 1) 1 := by
      unfold tEnd
      rw [if_pos h40, clo_in hlt, if_pos h40, if_neg (by omega)]
    have hC : Cl s (tEnd s i) (bl s (nmE s i) + 1) 1 := ⟨Nat.le_refl _, hlt, he.symm⟩
    generalize tEnd s i = t at *
    have hcl := hC.le
    have hn := nm_t (i := i) (j := i) hts (Nat.le_refl _) (show nmE s i ≤ t by omega)
    rw [Nat.sub_self] at hn
    have bx := bl_t (i := i) (j := nmE s i) hts hg (show bl s (nmE s i) ≤ t by omega)
    have ex : (s.extract i t).extract 0 (nmE s i - i) = s.extract i (nmE s i) := by
      have := ext_x (s := s) (Nat.le_refl i) hg (show nmE s i ≤ t by omega)
      rw [Nat.sub_self] at this
      exact this
    have sx := stands_x (i := i) hts (show i ≤ bl s (nmE s i) by omega) (by omega) (fun _ => by omega) 40
    have h3 := stands_true hlt h40
    rw [pTerm, pTerm, badNm_t hts (show nmE s i ≤ t by omega), hn, bx, sx, h3, ex]
    by_cases h1 : badNm s i = true
    · rw [if_pos h1, if_pos h1]
      exact ⟨by simp, Or.inr (Nat.le_refl _)⟩
    · rw [if_neg h1, if_neg h1, if_neg (show ¬ 12 < 0 by omega), if_neg (show ¬ 12 < 0 by omega), if_pos rfl, if_pos rfl]
      have e1 : behind s (bl s (nmE s i)) 40 = bl s (bl s (nmE s i) + 1) := behind_true h3
      have e2 : behind (s.extract i t) (bl s (nmE s i) - i) 40 = bl s (bl s (nmE s i) + 1) - i := by
        rw [behind_true (sx.trans h3), show bl s (nmE s i) - i + 1 = bl s (nmE s i) + 1 - i by omega]
        exact bl_x hts (by omega) hC
      rw [e1, e2]
      have hq := bl_ge s (bl s (nmE s i) + 1)
      have A := (sim s i t hts f).2 (0 + 1) (bl s (bl s (nmE s i) + 1)) l [] 1 (by omega) hC.bl
      cases hp : pArgs s f (0 + 1) (bl s (bl s (nmE s i) + 1)) l [] with
      | bad c q l' =>
        rw [hp] at A
        obtain ⟨A1, A2⟩ := A
        rw [A1]
        exact ⟨rfl, A2⟩
      | ok ys k l' =>
        rw [hp] at A
        rcases A with ⟨A0, _⟩ | ⟨_, A1, A2⟩
        · omega
        · rw [A1]
          simp only [pEnd]
          by_cases h4 : fitsB l' ⟨s.extract i (nmE s i), ys⟩ = true
          · rw [if_pos h4, if_pos h4]
            exact ⟨rfl, A2⟩
          · rw [if_neg h4, if_neg h4]
            exact ⟨by simp, Or.inr (Nat.le_refl _)⟩
  · have he : tEnd s i = nmE s i := by unfold tEnd; rw [if_neg h40]
    rw [he] at hit hts ⊢
    have hz : (s.extract i (nmE s i)).size = nmE s i - i := ext_size hg hts
    have hn := nm_t (i := i) (j := i) hts (Nat.le_refl _) (Nat.le_refl (nmE s i))
    rw [Nat.sub_self] at hn
    have ex : (s.extract i (nmE s i)).extract 0 (nmE s i - i) = s.extract i (nmE s i) := by
      have := ext_x (s := s) (Nat.le_refl i) hg (Nat.le_refl (nmE s i))
      rw [Nat.sub_self] at this
      exact this
    have bx : bl (s.extract i (nmE s i)) (nmE s i - i) = nmE s i - i := bl_end (fun h => by rw [hz] at h; omega)
    have sx : stands (s.extract i (nmE s i)) (nmE s i - i) 40 = false := stands_end (by omega)
    have h3 : stands s (bl s (nmE s i)) 40 = false := stands_ne h40
    rw [pTerm, pTerm, badNm_t hts (Nat.le_refl _), hn, bx, sx, h3, ex]
    by_cases h1 : badNm s i = true
    · rw [if_pos h1, if_pos h1]
      exact ⟨by simp, Or.inr (Nat.le_refl _)⟩
    · rw [if_neg h1, if_neg h1, if_neg (show ¬ 12 < 0 by omega), if_neg (show ¬ 12 < 0 by omega)]
      simp only [Bool.false_eq_true, if_false, pEnd]
      by_cases h4 : fitsB l ⟨s.extract i (nmE s i), []⟩ = true
      · rw [if_pos h4, if_pos h4]
        exact ⟨rfl, rfl⟩
      · rw [if_neg h4, if_neg h4]
        exact ⟨by simp, Or.inr (Nat.le_refl _)⟩

theorem lterm_eq (s : ByteArray) (i : Nat) (l : List Tm) (hi : i ≤ s.size) (hb : bl s i = i) (hs : s.size ≤ 400) {F : Nat} (hF : 2 * (s.size - i) + 1 ≤ F) : lTerm s i l = rTm i l (pTerm s F 0 i l) := by
  obtain ⟨hit, hts⟩ := tEnd_bd hi
  obtain ⟨f, rfl⟩ : ∃ f, F = f + 1 := ⟨F - 1, by omega⟩
  have T := top_sim s i l hi f
  have hz : (s.extract i (tEnd s i)).size = tEnd s i - i := ext_size hit hts
  have hbx : bl (s.extract i (tEnd s i)) 0 = 0 := by
    apply bl_end
    intro h
    rw [hz] at h
    have e := byt_ext hts (Nat.le_refl i) (show i < tEnd s i by omega)
    rw [Nat.sub_self] at e
    rw [e] at h
    have : bl s i = bl s (i + 1) := bl_at (by omega) h.2
    have := bl_ge s (i + 1)
    omega
  have hfu : pTerm (s.extract i (tEnd s i)) (2 * (s.extract i (tEnd s i)).size + 1) 0 0 l = pTerm (s.extract i (tEnd s i)) (f + 1) 0 0 l := by
    have := p_more (s.extract i (tEnd s i)) (f := 2 * (s.extract i (tEnd s i)).size + 1) 0 0 l (by omega) (by omega) (f + 1 - (2 * (s.extract i (tEnd s i)).size + 1))
    rw [show 2 * (s.extract i (tEnd s i)).size + 1 + (f + 1 - (2 * (s.extract i (tEnd s i)).size + 1)) = f + 1 by omega] at this
    exact this.symm
  have hpr : pRead (s.extract i (tEnd s i)) l = match pTerm (s.extract i (tEnd s i)) (f + 1) 0 0 l with
      | .bad c q _ => (0, c, q, l)
      | .ok n k l' => if k < (s.extract i (tEnd s i)).size then (0, 2, k, l) else if 150 < l'.length then (0, 6, 0, l) else (n, 0, 0, l') := by
    rw [pRead, if_neg (by omega), pWhole, hbx, hfu]
    cases pTerm (s.extract i (tEnd s i)) (f + 1) 0 0 l <;> rfl
  unfold lTerm rTm
  cases hp : pTerm s (f + 1) 0 i l with
  | bad c q l' =>
    rw [hp] at T
    obtain ⟨T1, T2⟩ := T
    have hc := (p_bad s (f + 1)).1 0 i l c q l' hi hF hp
    rw [hpr, T1]
    simp only []
    rw [if_neg (by omega), show i + (q - i) = q by omega]
  | ok n k l' =>
    rw [hp] at T
    obtain ⟨T1, T2⟩ := T
    rw [hpr, T1, hz]
    simp only [Nat.lt_irrefl, if_false]
    by_cases h : 150 < l'.length
    · simp [h]
    · simp [h, T2]

end Go.Proofs.Ytinphcnknionmaa
