/- TermBack: what is shown is read as the same term. -/
import Derived.Test.YtjfekcjhflcnaaaBackA
namespace Go.Proofs.Ytjfekcjhflcnaaa
open Go.RowKit

theorem pEnd_has {l : List Tm} (hnd : l.Nodup) (hg : Good l) {n : Nat} {t : Tm} (h : l[n]? = some t) (p k : Nat) : pEnd t p k l = .ok n k l := by
  have hf : fitsB l t = true := by
    have := clash_fits hg t
    have hc : clashB l t = false := List.any_eq_false.2 fun u hu => by
      simp only [clashP, Bool.and_eq_true, decide_eq_true_eq, not_and, ne_eq, Decidable.not_not]
      intro e
      exact hg.one u hu t (List.mem_of_getElem? h) e
    rw [hc] at this
    simpa using this.symm
  have hx := nix_at hnd h
  unfold pEnd
  rw [hf]
  simp [addN, addL, hx]

/-- The text from arg k on: m more behind it, and the bracket. -/
def rst (F : Nat → List UInt8) : Nat → Nat → List UInt8
  | 0, k => F k ++ [41]
  | m + 1, k => F k ++ 44 :: rst F m (k + 1)
theorem rst_join (F : Nat → List UInt8) : ∀ m k, joinTo F (k + m + 1) ++ [41] = joinTo F k ++ ((if k = 0 then [] else [44]) ++ rst F m k)
  | 0, k => by simp [joinTo, rst]
  | m + 1, k => by
    have := rst_join F m (k + 1)
    rw [show k + (m + 1) + 1 = (k + 1) + m + 1 from by omega, this, joinTo, rst]
    simp

theorem back_args {l : List Tm} {s : ByteArray} {above : Nat} (F : Nat → List UInt8) (xs : List Nat) (h4 : xs.length ≤ 4)
    (IH : ∀ k, k < xs.length → ∀ i G, At s i (F k) → Stop s (i + (F k).length) → 2 * (s.size - i) + 1 ≤ G → i ≤ s.size → pTerm s G above i l = .ok (xs.getD k 0) (i + (F k).length) l)
    (hne : ∀ k, k < xs.length → ∀ i, At s i (F k) → i < s.size ∧ isNm (byt s i) = true) :
    ∀ (m k i G : Nat), k + m + 1 = xs.length → At s i (rst F m k) → i ≤ s.size → Stop s (i + (rst F m k).length) → 2 * (s.size - i) + 2 ≤ G → pArgs s G above i l (xs.take k) = .ok xs (i + (rst F m k).length) l
  | 0, k, i, G, hk, ha, hi, hst, hG => by
    obtain ⟨G, rfl⟩ : ∃ g, G = g + 1 := ⟨G - 1, by omega⟩
    have a1 : At s i (F k) := ha.left
    have a2 := (At.right (x := F k) ha).head
    obtain ⟨n1, n2⟩ := hne k (by omega) i a1
    have q : byt s (i + (F k).length) = 41 := a2.2
    have st : Stop s (i + (F k).length) := Or.inr ⟨a2.1, Or.inr q⟩
    have tm := IH k (by omega) i G a1 st (by omega) hi
    have hl : (rst F 0 k).length = (F k).length + 1 := by simp [rst]
    rw [hl] at hst ⊢
    have b41 : stands s (i + (F k).length) 41 = true := stands_true a2.1 q
    have bh : behind s (i + (F k).length) 41 = i + ((F k).length + 1) := by
      rw [behind_true b41]
      exact Stop.bl (by rwa [show i + (F k).length + 1 = i + ((F k).length + 1) from by omega])
    have hx : xs.take k ++ [xs.getD k 0] = xs := by
      have e : xs.take (k + 1) = xs := List.take_of_length_le (by omega)
      have e2 : xs.take k ++ [xs.getD k 0] = xs.take (k + 1) := by
        rw [List.take_add_one, List.getElem?_eq_getElem (by omega), List.getD_eq_getElem?_getD, List.getElem?_eq_getElem (by omega)]
        simp
      rw [e2, e]
    rw [pArgs, if_neg (by omega), if_neg (by rw [List.length_take]; omega), tm]
    simp only [b41, if_true, bh, hx]
  | m + 1, k, i, G, hk, ha, hi, hst, hG => by
    obtain ⟨G, rfl⟩ : ∃ g, G = g + 1 := ⟨G - 1, by omega⟩
    have a1 : At s i (F k) := ha.left
    have a2 := At.right (x := F k) ha
    have a3 := a2.head
    have a4 := a2.tail
    obtain ⟨n1, n2⟩ := hne k (by omega) i a1
    have q : byt s (i + (F k).length) = 44 := a3.2
    have st : Stop s (i + (F k).length) := Or.inr ⟨a3.1, Or.inl q⟩
    have tm := IH k (by omega) i G a1 st (by omega) hi
    have hl : (rst F (m + 1) k).length = (F k).length + 1 + (rst F m (k + 1)).length := by simp [rst]; omega
    have b41 : stands s (i + (F k).length) 41 = false := stands_ne (by omega)
    have b44 : stands s (i + (F k).length) 44 = true := stands_true a3.1 q
    have a5 : At s (i + (F k).length + 1) (F (k + 1)) := by
      cases m with
      | zero => exact a4.left
      | succ m => exact a4.left
    obtain ⟨n3, n4⟩ := hne (k + 1) (by omega) _ a5
    have bh : behind s (i + (F k).length) 44 = i + (F k).length + 1 := by
      rw [behind_true b44]
      exact bl_end fun x => isNm_not n4 x.2
    have hx : xs.take k ++ [xs.getD k 0] = xs.take (k + 1) := by
      rw [List.take_add_one, List.getElem?_eq_getElem (by omega), List.getD_eq_getElem?_getD, List.getElem?_eq_getElem (by omega)]
      simp
    have nx := back_args F xs h4 IH hne m (k + 1) (i + (F k).length + 1) G (by omega) a4 (by omega) (by rw [hl] at hst; rwa [show i + (F k).length + 1 + (rst F m (k + 1)).length = i + ((F k).length + 1 + (rst F m (k + 1)).length) from by omega]) (by omega)
    rw [pArgs, if_neg (by omega), if_neg (by rw [List.length_take]; omega), tm]
    simp only [b41, Bool.false_eq_true, if_false, b44, if_true, bh, hx]
    rw [nx, hl]
    congr 1
    omega

/-- What is shown is read as the term it shows; nothing is added. -/
theorem back {l : List Tm} (hnd : l.Nodup) (hg : Good l) (hn : Nms l) (s : ByteArray) : ∀ (f n : Nat), Hgt l f n → ∀ (above i G : Nat), above + f ≤ 13 → At s i (shw l f n) → Stop s (i + (shw l f n).length) → 2 * (s.size - i) + 1 ≤ G → i ≤ s.size →
    pTerm s G above i l = .ok n (i + (shw l f n).length) l
  | 0, _, h => h.elim
  | f + 1, n, h => by
    intro above i G hab ha hst hG hi
    obtain ⟨G, rfl⟩ : ∃ g, G = g + 1 := ⟨G - 1, by omega⟩
    obtain ⟨t, ht, hargs⟩ := h
    have hk := hn t (List.mem_of_getElem? ht)
    have h4 := hg.four t (List.mem_of_getElem? ht)
    have hnl : t.name.data.toList.length = t.name.size := by simp
    have hsh : shw l (f + 1) n = t.name.data.toList ++ (if t.args.length = 0 then [] else 40 :: (joinTo (fun j => shw l f (t.arg j)) t.args.length ++ [41])) := by rw [shw, ht]
    rw [hsh] at ha hst ⊢
    have a1 : At s i t.name.data.toList := ha.left
    have a2 := ha.right
    rw [hnl] at a2
    by_cases hz : t.args.length = 0
    · rw [if_pos hz, List.append_nil, hnl] at hst ⊢
      obtain ⟨e1, e2⟩ := name_at hk a1 hi hst.nm
      rw [pTerm, e2, e1, hst.bl, hst.open]
      simp only [Bool.false_eq_true, if_false, show ¬ 12 < above from by omega]
      rw [At.extract a1 hi]
      have e3 : (⟨t.name, []⟩ : Tm) = t := by
        cases t with
        | mk nm xs => simp at hz; simp [hz]
      rw [e3]
      exact pEnd_has hnd hg ht _ _
    · rw [if_neg hz] at hst a2 ⊢
      have a3 := a2.head
      have a4 := a2.tail
      obtain ⟨m, hm⟩ : ∃ m, t.args.length = 0 + m + 1 := ⟨t.args.length - 1, by omega⟩
      have hj := rst_join (fun j => shw l f (t.arg j)) m 0
      rw [← hm] at hj
      simp only [joinTo, if_true, List.nil_append] at hj
      rw [hj] at a4 hst ⊢
      have q40 : byt s (i + t.name.size) = 40 := a3.2
      have hnx : ¬ (i + t.name.size < s.size ∧ isNm (byt s (i + t.name.size)) = true) := fun x => by rw [q40] at x; exact absurd x.2 (by decide)
      obtain ⟨e1, e2⟩ := name_at hk a1 hi hnx
      have eb : bl s (i + t.name.size) = i + t.name.size := bl_end fun x => by omega
      have es : stands s (i + t.name.size) 40 = true := stands_true a3.1 q40
      have hne : ∀ k, k < t.args.length → ∀ i, At s i (shw l f (t.arg k)) → i < s.size ∧ isNm (byt s i) = true := fun k hk2 i hA => shw_first hn (hargs _ (arg_mem hk2)) hA
      have a5 : At s (i + t.name.size + 1) (shw l f (t.arg 0)) := by
        cases m with
        | zero => exact a4.left
        | succ m => exact a4.left
      obtain ⟨n1, n2⟩ := hne 0 (by omega) _ a5
      have eh : behind s (i + t.name.size) 40 = i + t.name.size + 1 := by
        rw [behind_true es]
        exact bl_end fun x => isNm_not n2 x.2
      have hlen : i + (t.name.data.toList ++ 40 :: rst (fun j => shw l f (t.arg j)) m 0).length = i + t.name.size + 1 + (rst (fun j => shw l f (t.arg j)) m 0).length := by
        rw [List.length_append, List.length_cons, hnl]
        omega
      rw [hlen] at hst ⊢
      have ar := back_args (l := l) (s := s) (above := above + 1) (fun j => shw l f (t.arg j)) t.args h4 (fun k hk2 i G hA hS hG hi => back hnd hg hn s f (t.arg k) (hargs _ (arg_mem hk2)) (above + 1) i G (by omega) hA hS hG hi) hne m 0 (i + t.name.size + 1) G (by omega) a4 (by omega) hst (by omega)
      rw [List.take_zero] at ar
      rw [pTerm, e2, e1, eb, es, eh]
      simp only [Bool.false_eq_true, if_false, show ¬ 12 < above from by omega, if_true, ar]
      rw [At.extract a1 hi]
      exact pEnd_has hnd hg ht _ _
