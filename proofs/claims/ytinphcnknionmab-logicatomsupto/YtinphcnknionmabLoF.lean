/- Package logic: the parser, plainly. -/
import Derived.Test.YtinphcnknionmabP16
namespace Go.Proofs.Ytinphcnknionmab
open Go.RowKit Go.Maps

/-- What reading answers: a value, or an error. -/
def Res.bind {α β : Type} (r : Res α) (g : α → Nat → List Tm → Res β) : Res β := match r with
  | .ok x i l => g x i l
  | .bad e p l => .bad e p l

def gEqu (s : ByteArray) (i : Nat) (l : List Tm) : Res Fo :=
  (lTerm s i l).bind fun a k l1 =>
    if stands s (if byt s k = 33 then k + 1 else k) 61 then
      (lTerm s (bl s ((if byt s k = 33 then k + 1 else k) + 1)) l1).bind fun b k2 l2 => .ok (if byt s k = 33 then .neg (.eq a b) else .eq a b) k2 l2
    else .bad 2 (if byt s k = 33 then k + 1 else k) l1

def sgn (lev : Nat) : Nat := if lev = 1 then 124 else 38
def opn (lev : Nat) : Int := if lev = 1 then 3 else 2

mutual
/-- form, or, and, not: the levels 0 to 3. -/
def gp (s : ByteArray) : Nat → Nat → Nat → Nat → List Tm → Res Fo
  | 0, _, _, _, l => .bad 0 0 l
  | f + 1, lev, d, i, l =>
    if lev = 0 then
      (gp s f 1 d i l).bind fun a k l1 =>
        if byt s k = 45 then
          if stands s (k + 1) 62 then (gp s f 0 d (bl s (k + 1 + 1)) l1).bind fun b k2 l2 => .ok (.two 4 a b) k2 l2
          else .bad 2 (k + 1) l1
        else .ok a k l1
    else if lev = 3 then
      if byt s i = 33 then
        if 20 ≤ d then .bad 4 i l else (gp s f 3 (d + 1) (bl s (i + 1)) l).bind fun a k l1 => .ok (.neg a) k l1
      else if byt s i = 40 then
        if 20 ≤ d then .bad 4 i l else (gp s f 0 (d + 1) (bl s (i + 1)) l).bind fun a k l1 => if stands s k 41 then .ok a (bl s (k + 1)) l1 else .bad 2 k l1
      else gEqu s i l
    else (gp s f (lev + 1) d i l).bind fun a k l1 => gl s f lev d k l1 a
/-- The rest of a row. -/
def gl (s : ByteArray) : Nat → Nat → Nat → Nat → List Tm → Fo → Res Fo
  | 0, _, _, _, l, _ => .bad 0 0 l
  | f + 1, lev, d, k, l, a =>
    if byt s k = sgn lev then (gp s f (lev + 1) d (bl s (k + 1)) l).bind fun b k2 l2 => gl s f lev d k2 l2 (.two (opn lev) a b)
    else .ok a k l
end

theorem byt_in {s : ByteArray} {i c : Nat} (h : byt s i = c) (hc : c ≠ 0) : i < s.size := by
  refine Decidable.byContradiction fun hn => ?_
  simp [byt, hn] at h
  exact hc h.symm
theorem stands_of {s : ByteArray} {i c : Nat} (h : byt s i = c) (hc : c ≠ 0) : stands s i c = true := stands_true (byt_in h hc) h

theorem gEqu_ok {s : ByteArray} {i : Nat} {l : List Tm} (hi : i ≤ s.size) {f : Fo} {k : Nat} {l' : List Tm} (h : gEqu s i l = .ok f k l') : i < k ∧ k ≤ s.size := by
  unfold gEqu at h
  cases h1 : lTerm s i l with
  | bad e p l1 => rw [h1] at h; simp [Res.bind] at h
  | ok a k1 l1 =>
    obtain ⟨b1, b2⟩ := lTerm_ok hi h1
    rw [h1] at h
    simp only [Res.bind] at h
    have hq1 : k1 ≤ (if byt s k1 = 33 then k1 + 1 else k1) := by split <;> omega
    generalize (if byt s k1 = 33 then k1 + 1 else k1) = q at h hq1
    cases hs : stands s q 61 with
    | false => rw [hs] at h; simp at h
    | true =>
      rw [hs, if_pos rfl] at h
      have hk := (of_decide_eq_true hs).1
      have hbl := bl_le (s := s) (i := q + 1) (by omega)
      have hbg := bl_ge s (q + 1)
      cases h2 : lTerm s (bl s (q + 1)) l1 with
      | bad e p l2 => rw [h2] at h; simp at h
      | ok b k2 l2 =>
        obtain ⟨c1, c2⟩ := lTerm_ok hbl h2
        rw [h2] at h
        simp only at h
        injection h with _ e2 _
        omega

/-- Places grow. -/
theorem gp_ok (s : ByteArray) : ∀ f : Nat, (∀ lev d i l a k l', i ≤ s.size → gp s f lev d i l = .ok a k l' → i < k ∧ k ≤ s.size) ∧
    (∀ lev d i l a b k l', i ≤ s.size → gl s f lev d i l a = .ok b k l' → i ≤ k ∧ k ≤ s.size)
  | 0 => ⟨fun _ _ _ _ _ _ _ _ e => (by rw [gp] at e; cases e), fun _ _ _ _ _ _ _ _ _ e => (by rw [gl] at e; cases e)⟩
  | f + 1 => by
    obtain ⟨IP, IL⟩ := gp_ok s f
    constructor
    · intro lev d i l a k l' hi h
      rw [gp] at h
      split at h
      · cases h1 : gp s f 1 d i l with
        | bad e p l1 => rw [h1] at h; simp [Res.bind] at h
        | ok a1 k1 l1 =>
          obtain ⟨b1, b2⟩ := IP _ _ _ _ _ _ _ hi h1
          rw [h1] at h
          simp only [Res.bind] at h
          split at h
          · split at h
            · next hs =>
              have hk := (of_decide_eq_true hs).1
              have hbl := bl_le (s := s) (i := k1 + 1 + 1) (by omega)
              have hbg := bl_ge s (k1 + 1 + 1)
              split at h
              · next b k2 l2 h2 =>
                obtain ⟨c1, c2⟩ := IP _ _ _ _ _ _ _ hbl h2
                injection h with _ e2 _
                omega
              · cases h
            · cases h
          · injection h with _ e2 _
            omega
      · split at h
        · split at h
          · next h33 =>
            have hi2 := byt_in h33 (by omega)
            have hbl := bl_le (s := s) (i := i + 1) (by omega)
            have hbg := bl_ge s (i + 1)
            split at h
            · cases h
            · cases h1 : gp s f 3 (d + 1) (bl s (i + 1)) l with
              | bad e p l1 => rw [h1] at h; simp [Res.bind] at h
              | ok a1 k1 l1 =>
                obtain ⟨b1, b2⟩ := IP _ _ _ _ _ _ _ hbl h1
                rw [h1] at h
                simp only [Res.bind] at h
                injection h with _ e2 _
                omega
          · split at h
            · next h40 =>
              have hi2 := byt_in h40 (by omega)
              have hbl := bl_le (s := s) (i := i + 1) (by omega)
              have hbg := bl_ge s (i + 1)
              split at h
              · cases h
              · cases h1 : gp s f 0 (d + 1) (bl s (i + 1)) l with
                | bad e p l1 => rw [h1] at h; simp [Res.bind] at h
                | ok a1 k1 l1 =>
                  obtain ⟨b1, b2⟩ := IP _ _ _ _ _ _ _ hbl h1
                  rw [h1] at h
                  simp only [Res.bind] at h
                  split at h
                  · next hs =>
                    have hk := (of_decide_eq_true hs).1
                    have hbl2 := bl_le (s := s) (i := k1 + 1) (by omega)
                    have hbg2 := bl_ge s (k1 + 1)
                    injection h with _ e2 _
                    omega
                  · cases h
            · exact gEqu_ok hi h
        · cases h1 : gp s f (lev + 1) d i l with
          | bad e p l1 => rw [h1] at h; simp [Res.bind] at h
          | ok a1 k1 l1 =>
            obtain ⟨b1, b2⟩ := IP _ _ _ _ _ _ _ hi h1
            rw [h1] at h
            simp only [Res.bind] at h
            have := IL _ _ _ _ _ _ _ _ b2 h
            omega
    · intro lev d i l a b k l' hi h
      rw [gl] at h
      split at h
      · next hb =>
        have hi2 := byt_in hb (by unfold sgn; split <;> omega)
        have hbl := bl_le (s := s) (i := i + 1) (by omega)
        have hbg := bl_ge s (i + 1)
        cases h1 : gp s f (lev + 1) d (bl s (i + 1)) l with
        | bad e p l1 => rw [h1] at h; simp [Res.bind] at h
        | ok a1 k1 l1 =>
          obtain ⟨b1, b2⟩ := IP _ _ _ _ _ _ _ hbl h1
          rw [h1] at h
          simp only [Res.bind] at h
          have := IL _ _ _ _ _ _ _ _ b2 h
          omega
      · injection h with _ e2 _
        omega

end Go.Proofs.Ytinphcnknionmab
