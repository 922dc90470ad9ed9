/- TermBack: what is shown, as bytes of a text. TermBack: what is shown is read as the same term. TermBack: what reading keeps besides; reading back. TermBack's walk. -/
import Derived.Test.YtinphcnknionmaaG33
namespace Go.Proofs.Ytinphcnknionmaa
open Go.RowKit

theorem byt_bt (l : List UInt8) (i : Nat) : byt (bt l) i = (l[i]?.map UInt8.toNat).getD 0 := by
  unfold byt
  by_cases h : i < l.length
  · have h' : i < (bt l).size := by rw [bt_size]; exact h
    rw [dif_pos h', List.getElem?_eq_getElem h]
    simp [bt]
    rfl
  · have h' : ¬ i < (bt l).size := by rw [bt_size]; exact h
    rw [dif_neg h', List.getElem?_eq_none (by omega)]
    rfl

/-- A name as the bank has it: letters and digits, the first a letter. -/
def NmOk (n : ByteArray) : Prop := 0 < n.size ∧ n.size ≤ 6 ∧ (∀ i, i < n.size → isNm (byt n i) = true) ∧ isDig (byt n 0) = false

theorem nmE_run {s : ByteArray} {i k : Nat} (hk : i + k ≤ s.size) (h : ∀ j, j < k → isNm (byt s (i + j)) = true) (he : ¬ (i + k < s.size ∧ isNm (byt s (i + k)) = true)) : nmE s i = i + k := by
  induction k generalizing i with
  | zero => exact nmE_end he
  | succ k ih =>
    rw [nmE_at (by omega) (by simpa using h 0 (by omega)), ih (by omega) (fun j hj => by have := h (j + 1) (by omega); rwa [show i + 1 + j = i + (j + 1) from by omega]) (by rwa [show i + 1 + k = i + (k + 1) from by omega])]
    omega

/-- The name that is read is one. -/
theorem nm_run {s : ByteArray} {i : Nat} : ∀ j, i ≤ j → j < nmE s i → isNm (byt s j) = true := by
  induction i using nmE.induct s with
  | case1 i h ih =>
    intro j h1 h2
    rw [nmE_at h.1 h.2] at h2
    by_cases e : j = i
    · rw [e]; exact h.2
    · exact ih j (by omega) h2
  | case2 i h =>
    intro j h1 h2
    rw [nmE_end h] at h2
    omega
theorem byt_extract {s : ByteArray} {i k j : Nat} (hk : k ≤ s.size) (hj : i + j < k) : byt (s.extract i k) j = byt s (i + j) := by
  have h1 : (s.extract i k).size = k - i := ext_size (by omega) hk
  unfold byt
  rw [dif_pos (by omega), dif_pos (by omega)]
  simp [ByteArray.getElem_extract]
theorem nm_ok {s : ByteArray} {i : Nat} (hi : i ≤ s.size) (h : badNm s i = false) : NmOk (s.extract i (nmE s i)) := by
  have h1 := nm_lt h
  have h2 := nmE_le hi
  have h3 := nm_small h hi
  have h4 : (s.extract i (nmE s i)).size = nmE s i - i := ext_size (by omega) h2
  refine ⟨by omega, h3, fun j hj => ?_, ?_⟩
  · rw [byt_extract h2 (by omega)]
    exact nm_run (i := i) _ (by omega) (by omega)
  · rw [byt_extract h2 (by omega)]
    cases hd : isDig (byt s (i + 0)) with
    | false => rfl
    | true =>
      rw [Nat.add_zero] at hd
      simp [badNm, hd] at h

/-- The bytes x stand in s from i on. -/
def At (s : ByteArray) (i : Nat) (x : List UInt8) : Prop := ∀ j u, x[j]? = some u → i + j < s.size ∧ byt s (i + j) = u.toNat
theorem At.left {s : ByteArray} {i : Nat} {x y : List UInt8} (h : At s i (x ++ y)) : At s i x := fun j u hj => h j u (by rw [List.getElem?_append_left (List.getElem?_eq_some_iff.1 hj).1]; exact hj)
theorem At.right {s : ByteArray} {i : Nat} {x y : List UInt8} (h : At s i (x ++ y)) : At s (i + x.length) y := fun j u hj => by
  have := h (x.length + j) u (by rw [List.getElem?_append_right (by omega)]; simpa using hj)
  rwa [show i + x.length + j = i + (x.length + j) from by omega]
theorem At.le {s : ByteArray} {i : Nat} {x : List UInt8} (h : At s i x) (hi : i ≤ s.size) : i + x.length ≤ s.size := by
  by_cases hx : x.length = 0
  · omega
  · have hlt : x.length - 1 < x.length := by omega
    have := (h (x.length - 1) x[x.length - 1] (List.getElem?_eq_getElem hlt)).1
    omega
theorem At.head {s : ByteArray} {i : Nat} {u : UInt8} {x : List UInt8} (h : At s i (u :: x)) : i < s.size ∧ byt s i = u.toNat := by simpa using h 0 u rfl
theorem At.tail {s : ByteArray} {i : Nat} {u : UInt8} {x : List UInt8} (h : At s i (u :: x)) : At s (i + 1) x := fun j v hj => by
  have := h (j + 1) v (by simpa using hj)
  rwa [show i + 1 + j = i + (j + 1) from by omega]

theorem At.extract {s : ByteArray} {i : Nat} {n : ByteArray} (h : At s i n.data.toList) (hi : i ≤ s.size) : s.extract i (i + n.size) = n := by
  have hl : n.data.toList.length = n.size := by simp
  have hle := h.le hi
  rw [hl] at hle
  apply toList_name
  rw [ByteArray.toList_eq, ByteArray.toList_eq]
  apply List.ext_getElem
  · have := ext_size (s := s) (i := i) (k := i + n.size) (by omega) hle
    have e1 : (s.extract i (i + n.size)).data.toList.length = (s.extract i (i + n.size)).size := by rw [Array.length_toList]; rfl
    rw [e1, this, hl]
    omega
  · intro j h1 h2
    have h3 : j < n.size := by rw [← hl]; exact h2
    obtain ⟨h4, h5⟩ := h j n.data.toList[j] (List.getElem?_eq_getElem h2)
    have e := byt_extract (s := s) (i := i) (k := i + n.size) (j := j) hle (by omega)
    rw [h5] at e
    have h6 : j < (s.extract i (i + n.size)).size := by
      rw [ext_size (by omega) hle]; omega
    have e2 : byt (s.extract i (i + n.size)) j = ((s.extract i (i + n.size)).data.toList[j]).toNat := by
      rw [← byt_lt h6]; rfl
    rw [e2] at e
    exact UInt8.toNat_inj.1 e

/-- A term ends at k. -/
def Stop (s : ByteArray) (k : Nat) : Prop := k = s.size ∨ (k < s.size ∧ (byt s k = 44 ∨ byt s k = 41))
theorem Stop.bl {s : ByteArray} {k : Nat} (h : Stop s k) : bl s k = k := bl_end fun x => by rcases h with e | ⟨_, e | e⟩ <;> omega
theorem Stop.nm {s : ByteArray} {k : Nat} (h : Stop s k) : ¬ (k < s.size ∧ isNm (byt s k) = true) := fun x => by
  rcases h with e | ⟨_, e | e⟩
  · omega
  · rw [e] at x; exact absurd x.2 (by decide)
  · rw [e] at x; exact absurd x.2 (by decide)
theorem Stop.open {s : ByteArray} {k : Nat} (h : Stop s k) : stands s k 40 = false := decide_eq_false fun x => by rcases h with e | ⟨_, e | e⟩ <;> omega
theorem isNm_not {c : Nat} (h : isNm c = true) : c ≠ 32 := fun e => by rw [e] at h; exact absurd h (by decide)

/-- What the bank's names keep to. -/
def Nms (l : List Tm) : Prop := ∀ t ∈ l, NmOk t.name

theorem name_at {s : ByteArray} {i : Nat} {n : ByteArray} (hn : NmOk n) (h : At s i n.data.toList) (hi : i ≤ s.size) (he : ¬ (i + n.size < s.size ∧ isNm (byt s (i + n.size)) = true)) : nmE s i = i + n.size ∧ badNm s i = false := by
  have hl : n.data.toList.length = n.size := by simp
  have hle := h.le hi
  rw [hl] at hle
  have hb : ∀ j, j < n.size → byt s (i + j) = byt n j := fun j hj => by
    have hj' : j < n.data.toList.length := by omega
    rw [(h j n.data.toList[j] (List.getElem?_eq_getElem hj')).2, ← byt_lt hj]
    rfl
  have h1 := nmE_run (s := s) (i := i) (k := n.size) hle (fun j hj => by rw [hb j hj]; exact hn.2.2.1 j hj) he
  refine ⟨h1, ?_⟩
  have h2 : isDig (byt s i) = false := by
    have := hb 0 hn.1
    rw [Nat.add_zero] at this
    rw [this]; exact hn.2.2.2
  have h3 := hn.1
  have h4 := hn.2.1
  unfold badNm
  rw [h1, h2, decide_eq_false (by omega), decide_eq_false (by omega)]
  rfl

theorem shw_first {l : List Tm} (hn : Nms l) {f n : Nat} (h : Hgt l f n) {s : ByteArray} {i : Nat} (ha : At s i (shw l f n)) : i < s.size ∧ isNm (byt s i) = true := by
  cases f with
  | zero => exact h.elim
  | succ f =>
    obtain ⟨t, ht, _⟩ := h
    rw [shw, ht] at ha
    have hk := hn t (List.mem_of_getElem? ht)
    have hl : 0 < t.name.data.toList.length := by simpa using hk.1
    obtain ⟨h1, h2⟩ := ha.left 0 t.name.data.toList[0] (List.getElem?_eq_getElem hl)
    rw [Nat.add_zero] at h1 h2
    refine ⟨h1, ?_⟩
    have h3 := hk.2.2.1 0 hk.1
    rw [h2]
    rw [← byt_lt hk.1] at h3
    exact h3

end Go.Proofs.Ytinphcnknionmaa

namespace Go.Proofs.Ytinphcnknionmaa
open Go.RowKit

theorem pEnd_has {l : List Tm} (hnd : l.Nodup) (hg : Good l) {n : Nat} {t : Tm} (h : l[n]? = some t) (p k : Nat) : pEnd t p k l = .ok n k l := by
  have hf : fitsB l t = true := by
    have := clash_fits hg t
    have hc : clashB l t = false := List.any_eq_false.2 fun u hu => by
      simp only [clashP, Bool.and_eq_true, decide_eq_true_eq, not_and, ne_eq, Decidable.not_not]
      intro e
      exact hg.one u hu t (List.mem_of_getElem? h) e
    rw [hc] at this
    simpa using this.symm
  have hx := nix_at hnd h
  unfold pEnd
  rw [hf]
  simp [addN, addL, hx]

/-- The text from arg k on: m more behind it, and the bracket. -/
def rst (F : Nat → List UInt8) : Nat → Nat → List UInt8
  | 0, k => F k ++ [41]
  | m + 1, k => F k ++ 44 :: rst F m (k + 1)
theorem rst_join (F : Nat → List UInt8) : ∀ m k, joinTo F (k + m + 1) ++ [41] = joinTo F k ++ ((if k = 0 then [] else [44]) ++ rst F m k)
  | 0, k => by simp [joinTo, rst]
  | m + 1, k => by
    have := rst_join F m (k + 1)
    rw [show k + (m + 1) + 1 = (k + 1) + m + 1 from by omega, this, joinTo, rst]
    simp

theorem back_args {l : List Tm} {s : ByteArray} {above : Nat} (F : Nat → List UInt8) (xs : List Nat) (h4 : xs.length ≤ 4)
    (IH : ∀ k, k < xs.length → ∀ i G, At s i (F k) → Stop s (i + (F k).length) → 2 * (s.size - i) + 1 ≤ G → i ≤ s.size → pTerm s G above i l = .ok (xs.getD k 0) (i + (F k).length) l)
    (hne : ∀ k, k < xs.length → ∀ i, At s i (F k) → i < s.size ∧ isNm (byt s i) = true) :
    ∀ (m k i G : Nat), k + m + 1 = xs.length → At s i (rst F m k) → i ≤ s.size → Stop s (i + (rst F m k).length) → 2 * (s.size - i) + 2 ≤ G → pArgs s G above i l (xs.take k) = .ok xs (i + (rst F m k).length) l
  | 0, k, i, G, hk, ha, hi, hst, hG => by
    obtain ⟨G, rfl⟩ : ∃ g, G = g + 1 := ⟨G - 1, by omega⟩
    have a1 : At s i (F k) := ha.left
    have a2 := (At.right (x := F k) ha).head
    obtain ⟨n1, n2⟩ := hne k (by omega) i a1
    have q : byt s (i + (F k).length) = 41 := a2.2
    have st : Stop s (i + (F k).length) := Or.inr ⟨a2.1, Or.inr q⟩
    have tm := IH k (by omega) i G a1 st (by omega) hi
    have hl : (rst F 0 k).length = (F k).length + 1 := by simp [rst]
    rw [hl] at hst ⊢
    have b41 : stands s (i + (F k).length) 41 = true := stands_true a2.1 q
    have bh : behind s (i + (F k).length) 41 = i + ((F k).length + 1) := by
      rw [behind_true b41]
      exact Stop.bl (by rwa [show i + (F k).length + 1 = i + ((F k).length + 1) from by omega])
    have hx : xs.take k ++ [xs.getD k 0] = xs := by
      have e : xs.take (k + 1) = xs := List.take_of_length_le (by omega)
      have e2 : xs.take k ++ [xs.getD k 0] = xs.take (k + 1) := by
        rw [List.take_add_one, List.getElem?_eq_getElem (by omega), List.getD_eq_getElem?_getD, List.getElem?_eq_getElem (by omega)]
        simp
      rw [e2, e]
    rw [pArgs, if_neg (by omega), if_neg (by rw [List.length_take]; omega), tm]
    simp only [b41, if_true, bh, hx]
  | m + 1, k, i, G, hk, ha, hi, hst, hG => by
    obtain ⟨G, rfl⟩ : ∃ g, G = g + 1 := ⟨G - 1, by omega⟩
    have a1 : At s i (F k) := ha.left
    have a2 := At.right (x := F k) ha
    have a3 := a2.head
    have a4 := a2.tail
    obtain ⟨n1, n2⟩ := hne k (by omega) i a1
    have q : byt s (i + (F k).length) = 44 := a3.2
    have st : Stop s (i + (F k).length) := Or.inr ⟨a3.1, Or.inl q⟩
    have tm := IH k (by omega) i G a1 st (by omega) hi
    have hl : (rst F (m + 1) k).length = (F k).length + 1 + (rst F m (k + 1)).length := by simp [rst]; omega
    have b41 : stands s (i + (F k).length) 41 = false := stands_ne (by omega)
    have b44 : stands s (i + (F k).length) 44 = true := stands_true a3.1 q
    have a5 : At s (i + (F k).length + 1) (F (k + 1)) := by
      cases m with
      | zero => exact a4.left
      | succ m => exact a4.left
    obtain ⟨n3, n4⟩ := hne (k + 1) (by omega) _ a5
    have bh : behind s (i + (F k).length) 44 = i + (F k).length + 1 := by
      rw [behind_true b44]
      exact bl_end fun x => isNm_not n4 x.2
    have hx : xs.take k ++ [xs.getD k 0] = xs.take (k + 1) := by
      rw [List.take_add_one, List.getElem?_eq_getElem (by omega), List.getD_eq_getElem?_getD, List.getElem?_eq_getElem (by omega)]
      simp
    have nx := back_args F xs h4 IH hne m (k + 1) (i + (F k).length + 1) G (by omega) a4 (by omega) (by rw [hl] at hst; rwa [show i + (F k).length + 1 + (rst F m (k + 1)).length = i + ((F k).length + 1 + (rst F m (k + 1)).length) from by omega]) (by omega)
    rw [pArgs, if_neg (by omega), if_neg (by rw [List.length_take]; omega), tm]
    simp only [b41, Bool.false_eq_true, if_false, b44, if_true, bh, hx]
    rw [nx, hl]
    congr 1
    omega

/-- What is shown is read as the term it shows; nothing is added. -/
theorem back {l : List Tm} (hnd : l.Nodup) (hg : Good l) (hn : Nms l) (s : ByteArray) : ∀ (f n : Nat), Hgt l f n → ∀ (above i G : Nat), above + f ≤ 13 → At s i (shw l f n) → Stop s (i + (shw l f n).length) → 2 * (s.size - i) + 1 ≤ G → i ≤ s.size →
    pTerm s G above i l = .ok n (i + (shw l f n).length) l
  | 0, _, h => h.elim
  | f + 1, n, h => by
    intro above i G hab ha hst hG hi
    obtain ⟨G, rfl⟩ : ∃ g, G = g + 1 := ⟨G - 1, by omega⟩
    obtain ⟨t, ht, hargs⟩ := h
    have hk := hn t (List.mem_of_getElem? ht)
    have h4 := hg.four t (List.mem_of_getElem? ht)
    have hnl : t.name.data.toList.length = t.name.size := by simp
    have hsh : shw l (f + 1) n = t.name.data.toList ++ (if t.args.length = 0 then [] else 40 :: (joinTo (fun j => shw l f (t.arg j)) t.args.length ++ [41])) := by rw [shw, ht]
    rw [hsh] at ha hst ⊢
    have a1 : At s i t.name.data.toList := ha.left
    have a2 := ha.right
    rw [hnl] at a2
    by_cases hz : t.args.length = 0
    · rw [if_pos hz, List.append_nil, hnl] at hst ⊢
      obtain ⟨e1, e2⟩ := name_at hk a1 hi hst.nm
      rw [pTerm, e2, e1, hst.bl, hst.open]
      simp only [Bool.false_eq_true, if_false, show ¬ 12 < above from by omega]
      rw [At.extract a1 hi]
      have e3 : (⟨t.name, []⟩ : Tm) = t := by
        cases t with
        | mk nm xs => simp at hz; simp [hz]
      rw [e3]
      exact pEnd_has hnd hg ht _ _
    · rw [if_neg hz] at hst a2 ⊢
      have a3 := a2.head
      have a4 := a2.tail
      obtain ⟨m, hm⟩ : ∃ m, t.args.length = 0 + m + 1 := ⟨t.args.length - 1, by omega⟩
      have hj := rst_join (fun j => shw l f (t.arg j)) m 0
      rw [← hm] at hj
      simp only [joinTo, if_true, List.nil_append] at hj
      rw [hj] at a4 hst ⊢
      have q40 : byt s (i + t.name.size) = 40 := a3.2
      have hnx : ¬ (i + t.name.size < s.size ∧ isNm (byt s (i + t.name.size)) = true) := fun x => by rw [q40] at x; exact absurd x.2 (by decide)
      obtain ⟨e1, e2⟩ := name_at hk a1 hi hnx
      have eb : bl s (i + t.name.size) = i + t.name.size := bl_end fun x => by omega
      have es : stands s (i + t.name.size) 40 = true := stands_true a3.1 q40
      have hne : ∀ k, k < t.args.length → ∀ i, At s i (shw l f (t.arg k)) → i < s.size ∧ isNm (byt s i) = true := fun k hk2 i hA => shw_first hn (hargs _ (arg_mem hk2)) hA
      have a5 : At s (i + t.name.size + 1) (shw l f (t.arg 0)) := by
        cases m with
        | zero => exact a4.left
        | succ m => exact a4.left
      obtain ⟨n1, n2⟩ := hne 0 (by omega) _ a5
      have eh : behind s (i + t.name.size) 40 = i + t.name.size + 1 := by
        rw [behind_true es]
        exact bl_end fun x => isNm_not n2 x.2
      have hlen : i + (t.name.data.toList ++ 40 :: rst (fun j => shw l f (t.arg j)) m 0).length = i + t.name.size + 1 + (rst (fun j => shw l f (t.arg j)) m 0).length := by
        rw [List.length_append, List.length_cons, hnl]
        omega
      rw [hlen] at hst ⊢
      have ar := back_args (l := l) (s := s) (above := above + 1) (fun j => shw l f (t.arg j)) t.args h4 (fun k hk2 i G hA hS hG hi => back hnd hg hn s f (t.arg k) (hargs _ (arg_mem hk2)) (above + 1) i G (by omega) hA hS hG hi) hne m 0 (i + t.name.size + 1) G (by omega) a4 (by omega) hst (by omega)
      rw [List.take_zero] at ar
      rw [pTerm, e2, e1, eb, es, eh]
      simp only [Bool.false_eq_true, if_false, show ¬ 12 < above from by omega, if_true, ar]
      rw [At.extract a1 hi]
      exact pEnd_has hnd hg ht _ _

end Go.Proofs.Ytinphcnknionmaa

namespace Go.Proofs.Ytinphcnknionmaa
open Go.RowKit

/-- Args come ahead. -/
def Ahd (l : List Tm) : Prop := ∀ (i : Nat) (t : Tm), l[i]? = some t → ∀ a ∈ t.args, a < i

structure Nq (l : List Tm) : Prop where
  nms : Nms l
  ahd : Ahd l

theorem Nq.add {l : List Tm} (h : Nq l) {t : Tm} (hn : NmOk t.name) (ha : ∀ a ∈ t.args, a < l.length) : Nq (addL l t) := by
  unfold addL
  cases hx : nix l t with
  | some i => exact h
  | none =>
    refine ⟨fun u hu => ?_, fun i u hi a hau => ?_⟩
    · simp only [List.mem_append, List.mem_singleton] at hu
      rcases hu with hu | rfl
      · exact h.nms u hu
      · exact hn
    · by_cases hl : i < l.length
      · rw [List.getElem?_append_left hl] at hi
        exact h.ahd i u hi a hau
      · have hlt := (List.getElem?_eq_some_iff.1 hi).1
        have e : i = l.length := by simp at hlt; omega
        subst e
        simp at hi
        subst hi
        exact ha a hau

theorem p_nq (s : ByteArray) : ∀ f : Nat,
    (∀ above i l n k l', i ≤ s.size → Nq l → pTerm s f above i l = .ok n k l' → Nq l') ∧
    (∀ above i l xs x k l', i ≤ s.size → xs.length ≤ 4 → (∀ a ∈ xs, a < l.length) → Nq l → pArgs s f above i l xs = .ok x k l' → Nq l')
  | 0 => ⟨fun _ _ _ _ _ _ _ _ e => (by rw [pTerm] at e; cases e), fun _ _ _ _ _ _ _ _ _ _ _ e => (by rw [pArgs] at e; cases e)⟩
  | f + 1 => by
    obtain ⟨IT, IA⟩ := p_nq s f
    obtain ⟨GT, GA⟩ := p_grows s f
    obtain ⟨CT, CA⟩ := p_count s f
    constructor
    · intro above i l n k l' hi hq e
      rw [pTerm] at e
      split at e
      · cases e
      · next hb =>
        have hb' : badNm s i = false := by simpa using hb
        have hnm := nm_ok hi hb'
        have h4 := bl_le (nmE_le hi)
        split at e
        · cases e
        · split at e
          · have h6 := behind_le (c := 40) h4
            split at e
            · cases e
            · next xs k2 l2 hx =>
              have A1 := IA _ _ _ _ _ _ _ h6 (by simp) (by simp) hq hx
              obtain ⟨_, _, A3⟩ := CA _ _ _ _ _ _ _ h6 (by simp) (by simp) hx
              unfold pEnd at e
              split at e
              · injection e with e1 e2 e3
                subst e3
                exact A1.add (t := ⟨s.extract i (nmE s i), xs⟩) hnm A3
              · cases e
          · unfold pEnd at e
            split at e
            · injection e with e1 e2 e3
              subst e3
              exact hq.add (t := ⟨s.extract i (nmE s i), []⟩) hnm (by simp)
            · cases e
    · intro above i l xs x k l' hi hx4 hxs hq e
      rw [pArgs] at e
      split at e
      · cases e
      · split at e
        · cases e
        · split at e
          · cases e
          · next n k2 l2 hx =>
            have A1 := IT _ _ _ _ _ _ hi hq hx
            obtain ⟨B0, B1⟩ := GT above i l hi
            obtain ⟨B2, B3⟩ := B1 n k2 l2 hx
            obtain ⟨_, C2⟩ := CT _ _ _ _ _ _ hi hx
            rw [hx] at B0
            have B4 : l.length ≤ l2.length := B0.length_le
            have hl4 : (xs ++ [n]).length ≤ 4 := by simp; omega
            have hxs2 : ∀ a ∈ xs ++ [n], a < l2.length := by
              intro a ha
              rcases List.mem_append.1 ha with ha | ha
              · exact Nat.lt_of_lt_of_le (hxs a ha) B4
              · rw [List.mem_singleton.1 ha]; exact C2
            split at e
            · injection e with e1 e2 e3
              subst e3
              exact A1
            · split at e
              · exact IA _ _ _ _ _ _ _ (behind_le B3) hl4 hxs2 A1 e
              · cases e

theorem Nq.nil : Nq [] := ⟨fun t h => by simp at h, fun i t h => by simp at h⟩
theorem Nq.read {l : List Tm} (h : Nq l) (s : ByteArray) : Nq (pRead s l).2.2.2 := by
  unfold pRead
  split
  · exact h
  · unfold pWhole
    have hb := bl_le (s := s) (i := 0) (by omega)
    split
    · exact h
    · next n k l' hx =>
      split
      · exact h
      · split
        · exact h
        · exact (p_nq s _).1 0 (bl s 0) l n k l' hb h hx

theorem At.whole (x : List UInt8) : At (bt x) 0 x := fun j u hj => by
  have hlt := (List.getElem?_eq_some_iff.1 hj).1
  rw [Nat.zero_add, bt_size, byt_bt, hj]
  exact ⟨hlt, rfl⟩

/-- Reading what is shown. -/
theorem read_back {l : List Tm} (hnd : l.Nodup) (hk : Kp l) (hq : Nq l) {n : Nat} (hn : n < l.length) (hs : (shw l 13 n).length ≤ 400) : pRead (bt (shw l 13 n)) l = (n, 0, 0, l) := by
  have hA := At.whole (shw l 13 n)
  have hH := hk.hs n hn
  have h1 := shw_first hq.nms hH hA
  have hb : bl (bt (shw l 13 n)) 0 = 0 := bl_end fun x => isNm_not h1.2 x.2
  have hz := bt_size (shw l 13 n)
  have tm := back hnd hk.good hq.nms (bt (shw l 13 n)) 13 n hH 0 0 (2 * (bt (shw l 13 n)).size + 1) (by omega) hA (Or.inl (by omega)) (by omega) (by omega)
  have hl := hk.len
  unfold pRead pWhole
  rw [if_neg (by omega), hb, tm]
  simp only [Nat.zero_add]
  rw [if_neg (by omega), if_neg (by omega)]
/-- No two show the same. -/
theorem shw_inj {l : List Tm} (hnd : l.Nodup) (hk : Kp l) (hq : Nq l) {n m : Nat} (hn : n < l.length) (hm : m < l.length) (hs : (shw l 13 n).length ≤ 400) (he : shw l 13 m = shw l 13 n) : m = n := by
  have h1 := read_back hnd hk hq hn hs
  have h2 := read_back hnd hk hq hm (by rw [he]; exact hs)
  rw [he, h1] at h2
  injection h2 with h3
  exact h3.symm

end Go.Proofs.Ytinphcnknionmaa

namespace Go.Proofs.Ytinphcnknionmaa
open Go.RowKit Go.Maps

/-- A bank and the document's. -/
structure Duo (w W : World) (p : Nat) (ev : Value) (nb fb : Nat) (l : List Tm) (q : Nat) (av : Value) (vs : List Value) : Prop where
  b : Bk W w.heap.size p ev nb fb l
  r : RBk W w.heap.size q av l vs
  kl : Kp l
  nq : Nq l
  bel : Below w.heap.size w W
  rq : w.heap.size ≤ q

theorem Duo.read {w W : World} {p : Nat} {ev : Value} {nb fb : Nat} {l : List Tm} {q : Nat} {av : Value} {vs : List Value} (h : Duo w W p ev nb fb l q av vs) (s : ByteArray) :
    Calls Try.prog 16 #[.pointer (some ⟨p, 0, none⟩), .string s] W fun e W' => e = .returned (.tuple #[.int .i64 ((pRead s l).1 : Int), .int .i64 ((pRead s l).2.1 : Int), .int .i64 ((pRead s l).2.2.1 : Int)]) ∧ ∃ ev2, (Calls Try.prog 17 #[.pointer (some ⟨q, 0, none⟩), .string s] W' fun e W2 => e = .returned (.tuple #[.int .i64 ((pRead s l).1 : Int), .int .i64 ((pRead s l).2.1 : Int), .int .i64 ((pRead s l).2.2.1 : Int)]) ∧ ∃ av2 vs2, Duo w W2 p ev2 nb fb (pRead s l).2.2.2 q av2 vs2) ∧ Below w.heap.size w W' := by
  refine (tRead_in W w.heap.size p ev nb fb l h.b h.kl.len h.bel.size s).mono ?_
  rintro e W' ⟨he, ev2, B2, K2, R2⟩
  have RR := h.r.kept K2 (fun k c T fz hk h1 h2 => h.b.apart hk h1 h2)
  have bel2 := h.bel.trans (Kept.below K2 h.bel.size (fun k e => h.b.foot_ge e))
  refine ⟨he, ev2, ?_, bel2⟩
  refine (rRead_in W' w.heap.size q av l vs RR h.kl.good h.kl.len s).mono ?_
  rintro e W2 ⟨he2, ⟨av2, vs2, R3⟩, K3⟩
  obtain ⟨cq, hq, _⟩ := RR.row
  have hqb := B2.apart hq (by decide) (by decide)
  exact ⟨he2, av2, vs2, ⟨B2.stays K3 (fun k hk e => hqb (e ▸ hk)), R3, h.kl.read s, h.nq.read s, bel2.trans (Kept.below K3 bel2.size (fun k e => e ▸ h.rq)), h.rq⟩⟩

theorem Duo.start (w w1 : World) (p nb fb : Nat) (H1 : Bk w1 w.heap.size p (.slice none 0 0) nb fb []) (B1 : Below w.heap.size w w1) :
    Duo w (w1.alloc (.cells #[.slice none 0 0] 28)) p (.slice none 0 0) nb fb [] w1.heap.size (.slice none 0 0) [] := by
  have K : Kept0 w1 (w1.alloc (.cells #[.slice none 0 0] 28)) := Kept.alloc (Kept.refl _ w1) _
  have s1 := B1.size
  refine ⟨H1.kept0 K, ⟨?_, ⟨rfl, World.ownsRow_nil _ _ _ _, by simp⟩, by simp; omega⟩, Kp.nil, Nq.nil, B1.trans (Kept.below K B1.size (fun _ e => e.elim)), by omega⟩
  refine World.rowIs.congr (made_row w1 #[.slice none 0 0] 28) (fun j hj => ?_)
  have : j = 0 := by simp at hj; omega
  subst this; rfl

set_option maxHeartbeats 4000000 in
set_option maxRecDepth 100000 in
theorem back_in (w : World) (a : Option Addr) (cp : Nat) (ss : List ByteArray) (hT : Texts w a ss) (hm : ss.length ≤ maxLen) :
    Calls Try.prog 4 #[.slice a ss.length cp] w fun e w' => e = .returned (.bool true) ∧ Below w.heap.size w w' := by
  unfold maxLen at hm
  have NEW1 := tNew_any w
  go_enter Try.func4, Try.ntmps4
  go_wp2_with (first | (go_at_call 15; refine NEW1.mono ?_; rintro e w1 ⟨p, nb, fb, rfl, H1, B1⟩; have T0 := Duo.start w w1 p nb fb H1 B1))
  clear NEW1 H1 B1
  generalize w1.alloc (.cells #[.slice none 0 0] 28) = w3 at T0 ⊢
  generalize w1.heap.size = q at T0 ⊢
  go_loopw [5] (fun t5 W => ∃ k : Nat, k ≤ ss.length ∧ t5 = .int .i64 (k : Int) ∧ ∃ ev l av vs, Duo w W p ev nb fb l q av vs) (fun t5 _ => ss.length - (intOf t5).toNat)
  case atStart => exact ⟨0, by omega, rfl, _, _, _, _, T0⟩
  case round =>
    clear T0
    obtain ⟨k, hk, rfl, ev, l, av, vs, T⟩ := hrel
    by_cases hk2 : k < ss.length
    · have dk : decide ((k : Int) < (ss.length : Int)) = true := decide_eq_true (by omega)
      rcases hT with e | ⟨b, off, rfl, hb, hc⟩
      · rw [e] at hk2; simp at hk2
      · have hs : ss[k]? = some ss[k] := List.getElem?_eq_getElem hk2
        have ck := hc k _ hs
        generalize ss[k] = s at ck hs
        have c1 := (T.bel.cell (p := ⟨b, off + k, none⟩) hb).trans ck
        have RB := T.read s
        go_wp2_with (first | (go_at_call 16; refine RB.mono ?_; rintro e w5 ⟨rfl, ev5, RR, bel5⟩; have c5 := (bel5.cell (p := ⟨b, off + k, none⟩) hb).trans ck) | (go_at_call 17; refine RR.mono ?_; rintro e w6 ⟨rfl, av6, vs6, T6⟩) | (go_at_call 18; refine (num1_any _ _).mono ?_; rintro e w9 ⟨rfl, rfl⟩))
        exact ⟨⟨k + 1, by omega, by simp, _, _, _, _, T6⟩, by simp [intOf]; omega⟩
    · have dk : decide ((k : Int) < (ss.length : Int)) = false := decide_eq_false (by omega)
      have SZ := size_in wr w.heap.size p ev nb fb l T.b
      have qc : wr.cell? ⟨q, 0, none⟩ = some av := T.r.row.cell (by omega)
      obtain ⟨aa, ac, hav⟩ := T.r.ls.form
      subst hav
      have hlen := T.kl.len
      go_wp2_with (first | (go_at_call 21; refine SZ.mono ?_; rintro e w9 ⟨rfl, rfl⟩))
      have kl := T.kl
      have nq := T.nq
      have hnd := T.b.nodup
      have hoks := T.b.oks
      have T0b := T.b
      have T0l : Hid (Below w.heap.size w wr) := T.bel
      clear T SZ qc
      go_loopw [13] (fun t13 W => ∃ i : Nat, i ≤ l.length ∧ t13 = .int .i64 (i : Int) ∧ ∃ ev2, Bk W w.heap.size p ev2 nb fb l ∧ Hid (Below w.heap.size w W)) (fun t13 _ => l.length - (intOf t13).toNat)
      case atStart => exact ⟨0, by omega, rfl, _, T0b, T0l⟩
      case round =>
        clear T0b T0l
        obtain ⟨i, hi, rfl, ev2, HB, BE⟩ := hrel
        by_cases hi2 : i < l.length
        · have di : decide ((i : Int) < (l.length : Int)) = true := decide_eq_true (by omega)
          have SH := show_in wr w.heap.size p ev2 nb fb l HB kl.hs (i : Int)
          rw [shwB_in hi2] at SH
          have hzs := bt_size (shw l 13 i)
          have hinj : ∀ j, j < i → (shw l 13 i).length ≤ 400 → ((bt (shw l 13 j)).toList == (bt (shw l 13 i)).toList) = false := fun j hj hle => beq_eq_false_iff_ne.2 fun e => by
            have e2 := toList_name e
            have e3 : shw l 13 j = shw l 13 i := by
              have := congrArg (fun b : ByteArray => b.data.toList) e2
              simpa [bt] using this
            have := shw_inj hnd kl nq hi2 (by omega) hle e3
            omega
          have hrb := read_back hnd kl nq hi2
          generalize hZ : shw l 13 i = Z at *
          by_cases h400 : 400 < Z.length
          · have dz : decide ((400 : Int) < ((bt Z).size : Int)) = true := decide_eq_true (by omega)
            go_wp2_with (first | (go_at_call 22; refine SH.mono ?_; rintro e w4 ⟨rfl, B4⟩))
            exact ⟨⟨i + 1, by omega, by simp, ev2, HB.below HB.low B4, BE.out.trans (B4.mono BE.out.size)⟩, by simp [intOf]; omega⟩
          · have dz : decide ((400 : Int) < ((bt Z).size : Int)) = false := decide_eq_false (by omega)
            have hrb2 := hrb (by omega)
            have ht : l[i]? = some l[i] := List.getElem?_eq_getElem hi2
            generalize l[i] = t at ht
            have hahd := nq.ahd i t ht
            have hinj2 := fun j hj => hinj j hj (by omega)
            have ha4 := (hoks t (List.mem_of_getElem? ht)).args
            clear hinj hrb
            go_wp2_with (first | (go_at_call 22; refine SH.mono ?_; rintro e w4 ⟨rfl, B4⟩; have H4 := HB.below HB.low B4; have RD := tRead_in w4 w.heap.size p ev2 nb fb l H4 kl.len (Nat.le_trans BE.out.size B4.size) (bt Z); rw [hrb2] at RD) | (go_at_call 16; refine RD.mono ?_; rintro e w5 ⟨rfl, ev5, H5, K5, _⟩; have TS := term_some w5 w.heap.size p ev5 nb fb l H5 i t ht) | (go_at_call 23; refine TS.mono ?_; rintro e w6 ⟨v, rfl, O6, B6⟩; obtain ⟨va, vc, hvv⟩ := row_form O6; subst hvv; have H6 := H5.below H5.low B6; have K7 : Kept0 w6 (w6.alloc (.cells #[.string t.name, .slice va t.args.length vc] 42)) := Kept.alloc (Kept.refl _ w6) _; have SZ := size_in _ w.heap.size p ev5 nb fb l (H6.kept0 K7)) | (go_at_call 18; refine (num1_any _ _).mono ?_; rintro e w9 ⟨rfl, rfl⟩) | (go_at_call 21; refine SZ.mono ?_; rintro e w9 ⟨rfl, rfl⟩))
            have y7 := ans_box w6 (.string t.name) (.slice va t.args.length vc)
            have O7 := O6.kept K7.grownBy (Decidable.em _)
            have H7 := H6.kept0 K7
            have e4 := BE.out.trans (B4.mono BE.out.size)
            have e5 := e4.trans (Kept.below K5 e4.size (fun k e => H4.foot_ge e))
            have e6 := e5.trans (B6.mono e5.size)
            have e7 : Hid (Below w.heap.size w (w6.alloc (.cells #[.string t.name, .slice va t.args.length vc] 42))) := e6.trans (Kept.below K7 e6.size (fun _ e => e.elim))
            clear SH RD TS SZ B4 K5 B6 H4 H5 H6 O6 K7 e4 e5 e6
            generalize w6.alloc (.cells #[.string t.name, .slice va t.args.length vc] 42) = w7 at *
            have x1 := y7.2
            clear y7
            generalize w6.heap.size = x at *
            go_loopw [20] (fun t20 W => ∃ j : Nat, j ≤ t.args.length ∧ t20 = .int .i64 (j : Int) ∧ W = w7) (fun t20 _ => t.args.length - (intOf t20).toNat)
            case atStart => exact ⟨0, by omega, rfl, rfl⟩
            case round =>
              obtain ⟨j, hj, rfl, rfl⟩ := hrel
              by_cases hj2 : j < t.args.length
              · have dj : decide ((j : Int) < (t.args.length : Int)) = true := decide_eq_true (by omega)
                obtain ⟨g, cap, hg, hc⟩ := arg_cell (xs := t.args) O7 hj2
                injection hg with r1 _ r3
                subst r1 r3
                have hlt := hahd _ (List.getElem_mem hj2)
                have da : decide ((t.args[j] : Int) < 0) = false := decide_eq_false (by omega)
                have db : decide ((i : Int) ≤ (t.args[j] : Int)) = false := decide_eq_false (by omega)
                have db' : decide (i ≤ t.args[j]) = false := decide_eq_false (by omega)
                go_wp2_with fail
                exact ⟨⟨j + 1, by omega, by simp⟩, by simp [intOf]; omega⟩
              · have dj : decide ((j : Int) < (t.args.length : Int)) = false := decide_eq_false (by omega)
                go_wp2_with fail
                clear x1 O7
                go_loopw [21] (fun t21 W => ∃ j : Nat, j ≤ i ∧ t21 = .int .i64 (j : Int) ∧ Bk W w.heap.size p ev5 nb fb l ∧ Hid (Below w.heap.size w W)) (fun t21 _ => i - (intOf t21).toNat)
                case atStart => exact ⟨0, by omega, rfl, H7, e7⟩
                case round =>
                  clear H7 e7
                  obtain ⟨m, hm1, rfl, HM, EM⟩ := hrel
                  by_cases hm2 : m < i
                  · have dm : decide ((m : Int) < (i : Int)) = true := decide_eq_true (by omega)
                    have SM := show_in wr w.heap.size p ev5 nb fb l HM kl.hs (m : Int)
                    rw [shwB_in (show m < l.length by omega)] at SM
                    have hd := hinj2 m hm2
                    clear hinj2
                    generalize bt (shw l 13 m) = Y at SM hd
                    go_wp2_with (first | (go_at_call 22; refine SM.mono ?_; rintro e w8 ⟨rfl, B8⟩))
                    exact ⟨⟨m + 1, by omega, by simp, HM.below HM.low B8, EM.out.trans (B8.mono EM.out.size)⟩, by simp [intOf]; omega⟩
                  · have dm : decide ((m : Int) < (i : Int)) = false := decide_eq_false (by omega)
                    go_wp2_with fail
                    exact ⟨⟨i + 1, by omega, by simp, ev5, HM, EM⟩, by simp [intOf]; omega⟩
        · have di : decide ((i : Int) < (l.length : Int)) = false := decide_eq_false (by omega)
          go_wp2_with (first | (go_at_call 20; refine (alive1_any wr).mono ?_; rintro e w9 ⟨rfl, B9⟩))
          go_ret
          exact ⟨rfl, BE.out.trans (B9.mono BE.out.size)⟩

end Go.Proofs.Ytinphcnknionmaa
