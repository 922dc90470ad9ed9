/- LogicBack: a shown term within a text is read as the term it shows (made of BackA, BackB, BackC, with more signs behind a term; a namespace of its own, for LoH has an At, too). append, told besides that what lay there stays; the document's put with that. -/
import Derived.Test.YtinphcnknionmaaP13
import Derived.Test.YtinphcnknionmaaLpT
import Derived.Test.YtinphcnknionmaaP10
namespace Go.Proofs.Ytinphcnknionmaa.Sp
open Go.RowKit


theorem byt_bt (l : List UInt8) (i : Nat) : byt (bt l) i = (l[i]?.map UInt8.toNat).getD 0 := by
  unfold byt
  by_cases h : i < l.length
  · have h' : i < (bt l).size := by rw [bt_size]; exact h
    rw [dif_pos h', List.getElem?_eq_getElem h]
    simp [bt]
    rfl
  · have h' : ¬ i < (bt l).size := by rw [bt_size]; exact h
    rw [dif_neg h', List.getElem?_eq_none (by omega)]
    rfl

/-- A name as the bank has it: letters and digits, the first a letter. -/
def NmOk (n : ByteArray) : Prop := 0 < n.size ∧ n.size ≤ 6 ∧ (∀ i, i < n.size → isNm (byt n i) = true) ∧ isDig (byt n 0) = false

theorem nmE_run {s : ByteArray} {i k : Nat} (hk : i + k ≤ s.size) (h : ∀ j, j < k → isNm (byt s (i + j)) = true) (he : ¬ (i + k < s.size ∧ isNm (byt s (i + k)) = true)) : nmE s i = i + k := by
  induction k generalizing i with
  | zero => exact nmE_end he
  | succ k ih =>
    rw [nmE_at (by omega) (by simpa using h 0 (by omega)), ih (by omega) (fun j hj => by have := h (j + 1) (by omega); rwa [show i + 1 + j = i + (j + 1) from by omega]) (by rwa [show i + 1 + k = i + (k + 1) from by omega])]
    omega

/-- The name that is read is one. -/
theorem nm_run {s : ByteArray} {i : Nat} : ∀ j, i ≤ j → j < nmE s i → isNm (byt s j) = true := by
  induction i using nmE.induct s with
  | case1 i h ih =>
    intro j h1 h2
    rw [nmE_at h.1 h.2] at h2
    by_cases e : j = i
    · rw [e]; exact h.2
    · exact ih j (by omega) h2
  | case2 i h =>
    intro j h1 h2
    rw [nmE_end h] at h2
    omega
theorem byt_extract {s : ByteArray} {i k j : Nat} (hk : k ≤ s.size) (hj : i + j < k) : byt (s.extract i k) j = byt s (i + j) := by
  have h1 : (s.extract i k).size = k - i := ext_size (by omega) hk
  unfold byt
  rw [dif_pos (by omega), dif_pos (by omega)]
  simp [ByteArray.getElem_extract]
theorem nm_ok {s : ByteArray} {i : Nat} (hi : i ≤ s.size) (h : badNm s i = false) : NmOk (s.extract i (nmE s i)) := by
  have h1 := nm_lt h
  have h2 := nmE_le hi
  have h3 := nm_small h hi
  have h4 : (s.extract i (nmE s i)).size = nmE s i - i := ext_size (by omega) h2
  refine ⟨by omega, h3, fun j hj => ?_, ?_⟩
  · rw [byt_extract h2 (by omega)]
    exact nm_run (i := i) _ (by omega) (by omega)
  · rw [byt_extract h2 (by omega)]
    cases hd : isDig (byt s (i + 0)) with
    | false => rfl
    | true =>
      rw [Nat.add_zero] at hd
      simp [badNm, hd] at h

/-- The bytes x stand in s from i on. -/
def At (s : ByteArray) (i : Nat) (x : List UInt8) : Prop := ∀ j u, x[j]? = some u → i + j < s.size ∧ byt s (i + j) = u.toNat
theorem At.left {s : ByteArray} {i : Nat} {x y : List UInt8} (h : At s i (x ++ y)) : At s i x := fun j u hj => h j u (by rw [List.getElem?_append_left (List.getElem?_eq_some_iff.1 hj).1]; exact hj)
theorem At.right {s : ByteArray} {i : Nat} {x y : List UInt8} (h : At s i (x ++ y)) : At s (i + x.length) y := fun j u hj => by
  have := h (x.length + j) u (by rw [List.getElem?_append_right (by omega)]; simpa using hj)
  rwa [show i + x.length + j = i + (x.length + j) from by omega]
theorem At.le {s : ByteArray} {i : Nat} {x : List UInt8} (h : At s i x) (hi : i ≤ s.size) : i + x.length ≤ s.size := by
  by_cases hx : x.length = 0
  · omega
  · have hlt : x.length - 1 < x.length := by omega
    have := (h (x.length - 1) x[x.length - 1] (List.getElem?_eq_getElem hlt)).1
    omega
theorem At.head {s : ByteArray} {i : Nat} {u : UInt8} {x : List UInt8} (h : At s i (u :: x)) : i < s.size ∧ byt s i = u.toNat := by simpa using h 0 u rfl
theorem At.tail {s : ByteArray} {i : Nat} {u : UInt8} {x : List UInt8} (h : At s i (u :: x)) : At s (i + 1) x := fun j v hj => by
  have := h (j + 1) v (by simpa using hj)
  rwa [show i + 1 + j = i + (j + 1) from by omega]

theorem At.extract {s : ByteArray} {i : Nat} {n : ByteArray} (h : At s i n.data.toList) (hi : i ≤ s.size) : s.extract i (i + n.size) = n := by
  have hl : n.data.toList.length = n.size := by simp
  have hle := h.le hi
  rw [hl] at hle
  apply toList_name
  rw [ByteArray.toList_eq, ByteArray.toList_eq]
  apply List.ext_getElem
  · have := ext_size (s := s) (i := i) (k := i + n.size) (by omega) hle
    have e1 : (s.extract i (i + n.size)).data.toList.length = (s.extract i (i + n.size)).size := by rw [Array.length_toList]; rfl
    rw [e1, this, hl]
    omega
  · intro j h1 h2
    have h3 : j < n.size := by rw [← hl]; exact h2
    obtain ⟨h4, h5⟩ := h j n.data.toList[j] (List.getElem?_eq_getElem h2)
    have e := byt_extract (s := s) (i := i) (k := i + n.size) (j := j) hle (by omega)
    rw [h5] at e
    have h6 : j < (s.extract i (i + n.size)).size := by
      rw [ext_size (by omega) hle]; omega
    have e2 : byt (s.extract i (i + n.size)) j = ((s.extract i (i + n.size)).data.toList[j]).toNat := by
      rw [← byt_lt h6]; rfl
    rw [e2] at e
    exact UInt8.toNat_inj.1 e

/-- A term ends at k. -/
def Stop (s : ByteArray) (k : Nat) : Prop := k = s.size ∨ (k < s.size ∧ (byt s k = 44 ∨ byt s k = 41 ∨ byt s k = 61 ∨ byt s k = 33 ∨ byt s k = 38 ∨ byt s k = 124 ∨ byt s k = 45))
theorem Stop.bl {s : ByteArray} {k : Nat} (h : Stop s k) : bl s k = k := bl_end fun x => by rcases h with e | ⟨_, e⟩ <;> omega
theorem Stop.nm {s : ByteArray} {k : Nat} (h : Stop s k) : ¬ (k < s.size ∧ isNm (byt s k) = true) := fun x => by
  rcases h with e | ⟨_, e | e | e | e | e | e | e⟩
  · omega
  all_goals (rw [e] at x; exact absurd x.2 (by decide))
theorem Stop.open {s : ByteArray} {k : Nat} (h : Stop s k) : stands s k 40 = false := decide_eq_false fun x => by rcases h with e | ⟨_, e⟩ <;> omega
theorem isNm_not {c : Nat} (h : isNm c = true) : c ≠ 32 := fun e => by rw [e] at h; exact absurd h (by decide)

/-- What the bank's names keep to. -/
def Nms (l : List Tm) : Prop := ∀ t ∈ l, NmOk t.name

theorem name_at {s : ByteArray} {i : Nat} {n : ByteArray} (hn : NmOk n) (h : At s i n.data.toList) (hi : i ≤ s.size) (he : ¬ (i + n.size < s.size ∧ isNm (byt s (i + n.size)) = true)) : nmE s i = i + n.size ∧ badNm s i = false := by
  have hl : n.data.toList.length = n.size := by simp
  have hle := h.le hi
  rw [hl] at hle
  have hb : ∀ j, j < n.size → byt s (i + j) = byt n j := fun j hj => by
    have hj' : j < n.data.toList.length := by omega
    rw [(h j n.data.toList[j] (List.getElem?_eq_getElem hj')).2, ← byt_lt hj]
    rfl
  have h1 := nmE_run (s := s) (i := i) (k := n.size) hle (fun j hj => by rw [hb j hj]; exact hn.2.2.1 j hj) he
  refine ⟨h1, ?_⟩
  have h2 : isDig (byt s i) = false := by
    have := hb 0 hn.1
    rw [Nat.add_zero] at this
    rw [this]; exact hn.2.2.2
  have h3 := hn.1
  have h4 := hn.2.1
  unfold badNm
  rw [h1, h2, decide_eq_false (by omega), decide_eq_false (by omega)]
  rfl

theorem shw_first {l : List Tm} (hn : Nms l) {f n : Nat} (h : Hgt l f n) {s : ByteArray} {i : Nat} (ha : At s i (shw l f n)) : i < s.size ∧ isNm (byt s i) = true := by
  cases f with
  | zero => exact h.elim
  | succ f =>
    obtain ⟨t, ht, _⟩ := h
    rw [shw, ht] at ha
    have hk := hn t (List.mem_of_getElem? ht)
    have hl : 0 < t.name.data.toList.length := by simpa using hk.1
    obtain ⟨h1, h2⟩ := ha.left 0 t.name.data.toList[0] (List.getElem?_eq_getElem hl)
    rw [Nat.add_zero] at h1 h2
    refine ⟨h1, ?_⟩
    have h3 := hk.2.2.1 0 hk.1
    rw [h2]
    rw [← byt_lt hk.1] at h3
    exact h3


theorem pEnd_has {l : List Tm} (hnd : l.Nodup) (hg : Good l) {n : Nat} {t : Tm} (h : l[n]? = some t) (p k : Nat) : pEnd t p k l = .ok n k l := by
  have hf : fitsB l t = true := by
    have := clash_fits hg t
    have hc : clashB l t = false := List.any_eq_false.2 fun u hu => by
      simp only [clashP, Bool.and_eq_true, decide_eq_true_eq, not_and, ne_eq, Decidable.not_not]
      intro e
      exact hg.one u hu t (List.mem_of_getElem? h) e
    rw [hc] at this
    simpa using this.symm
  have hx := nix_at hnd h
  unfold pEnd
  rw [hf]
  simp [addN, addL, hx]

/-- The text from arg k on: m more behind it, and the bracket. -/
def rst (F : Nat → List UInt8) : Nat → Nat → List UInt8
  | 0, k => F k ++ [41]
  | m + 1, k => F k ++ 44 :: rst F m (k + 1)
theorem rst_join (F : Nat → List UInt8) : ∀ m k, joinTo F (k + m + 1) ++ [41] = joinTo F k ++ ((if k = 0 then [] else [44]) ++ rst F m k)
  | 0, k => by simp [joinTo, rst]
  | m + 1, k => by
    have := rst_join F m (k + 1)
    rw [show k + (m + 1) + 1 = (k + 1) + m + 1 from by omega, this, joinTo, rst]
    simp

theorem back_args {l : List Tm} {s : ByteArray} {above : Nat} (F : Nat → List UInt8) (xs : List Nat) (h4 : xs.length ≤ 4)
    (IH : ∀ k, k < xs.length → ∀ i G, At s i (F k) → Stop s (i + (F k).length) → 2 * (s.size - i) + 1 ≤ G → i ≤ s.size → pTerm s G above i l = .ok (xs.getD k 0) (i + (F k).length) l)
    (hne : ∀ k, k < xs.length → ∀ i, At s i (F k) → i < s.size ∧ isNm (byt s i) = true) :
    ∀ (m k i G : Nat), k + m + 1 = xs.length → At s i (rst F m k) → i ≤ s.size → Stop s (i + (rst F m k).length) → 2 * (s.size - i) + 2 ≤ G → pArgs s G above i l (xs.take k) = .ok xs (i + (rst F m k).length) l
  | 0, k, i, G, hk, ha, hi, hst, hG => by
    obtain ⟨G, rfl⟩ : ∃ g, G = g + 1 := ⟨G - 1, by omega⟩
    have a1 : At s i (F k) := ha.left
    have a2 := (At.right (x := F k) ha).head
    obtain ⟨n1, n2⟩ := hne k (by omega) i a1
    have q : byt s (i + (F k).length) = 41 := a2.2
    have st : Stop s (i + (F k).length) := Or.inr ⟨a2.1, Or.inr (Or.inl q)⟩
    have tm := IH k (by omega) i G a1 st (by omega) hi
    have hl : (rst F 0 k).length = (F k).length + 1 := by simp [rst]
    rw [hl] at hst ⊢
    have b41 : stands s (i + (F k).length) 41 = true := stands_true a2.1 q
    have bh : behind s (i + (F k).length) 41 = i + ((F k).length + 1) := by
      rw [behind_true b41]
      exact Stop.bl (by rwa [show i + (F k).length + 1 = i + ((F k).length + 1) from by omega])
    have hx : xs.take k ++ [xs.getD k 0] = xs := by
      have e : xs.take (k + 1) = xs := List.take_of_length_le (by omega)
      have e2 : xs.take k ++ [xs.getD k 0] = xs.take (k + 1) := by
        rw [List.take_add_one, List.getElem?_eq_getElem (by omega), List.getD_eq_getElem?_getD, List.getElem?_eq_getElem (by omega)]
        simp
      rw [e2, e]
    rw [pArgs, if_neg (by omega), if_neg (by rw [List.length_take]; omega), tm]
    simp only [b41, if_true, bh, hx]
  | m + 1, k, i, G, hk, ha, hi, hst, hG => by
    obtain ⟨G, rfl⟩ : ∃ g, G = g + 1 := ⟨G - 1, by omega⟩
    have a1 : At s i (F k) := ha.left
    have a2 := At.right (x := F k) ha
    have a3 := a2.head
    have a4 := a2.tail
    obtain ⟨n1, n2⟩ := hne k (by omega) i a1
    have q : byt s (i + (F k).length) = 44 := a3.2
    have st : Stop s (i + (F k).length) := Or.inr ⟨a3.1, Or.inl q⟩
    have tm := IH k (by omega) i G a1 st (by omega) hi
    have hl : (rst F (m + 1) k).length = (F k).length + 1 + (rst F m (k + 1)).length := by simp [rst]; omega
    have b41 : stands s (i + (F k).length) 41 = false := stands_ne (by omega)
    have b44 : stands s (i + (F k).length) 44 = true := stands_true a3.1 q
    have a5 : At s (i + (F k).length + 1) (F (k + 1)) := by
      cases m with
      | zero => exact a4.left
      | succ m => exact a4.left
    obtain ⟨n3, n4⟩ := hne (k + 1) (by omega) _ a5
    have bh : behind s (i + (F k).length) 44 = i + (F k).length + 1 := by
      rw [behind_true b44]
      exact bl_end fun x => isNm_not n4 x.2
    have hx : xs.take k ++ [xs.getD k 0] = xs.take (k + 1) := by
      rw [List.take_add_one, List.getElem?_eq_getElem (by omega), List.getD_eq_getElem?_getD, List.getElem?_eq_getElem (by omega)]
      simp
    have nx := back_args F xs h4 IH hne m (k + 1) (i + (F k).length + 1) G (by omega) a4 (by omega) (by rw [hl] at hst; rwa [show i + (F k).length + 1 + (rst F m (k + 1)).length = i + ((F k).length + 1 + (rst F m (k + 1)).length) from by omega]) (by omega)
    rw [pArgs, if_neg (by omega), if_neg (by rw [List.length_take]; omega), tm]
    simp only [b41, Bool.false_eq_true, if_false, b44, if_true, bh, hx]
    rw [nx, hl]
    congr 1
    omega

/-- What is shown is read as the term it shows; nothing is added. -/
theorem back {l : List Tm} (hnd : l.Nodup) (hg : Good l) (hn : Nms l) (s : ByteArray) : ∀ (f n : Nat), Hgt l f n → ∀ (above i G : Nat), above + f ≤ 13 → At s i (shw l f n) → Stop s (i + (shw l f n).length) → 2 * (s.size - i) + 1 ≤ G → i ≤ s.size →
    pTerm s G above i l = .ok n (i + (shw l f n).length) l
  | 0, _, h => h.elim
  | f + 1, n, h => by
    intro above i G hab ha hst hG hi
    obtain ⟨G, rfl⟩ : ∃ g, G = g + 1 := ⟨G - 1, by omega⟩
    obtain ⟨t, ht, hargs⟩ := h
    have hk := hn t (List.mem_of_getElem? ht)
    have h4 := hg.four t (List.mem_of_getElem? ht)
    have hnl : t.name.data.toList.length = t.name.size := by simp
    have hsh : shw l (f + 1) n = t.name.data.toList ++ (if t.args.length = 0 then [] else 40 :: (joinTo (fun j => shw l f (t.arg j)) t.args.length ++ [41])) := by rw [shw, ht]
    rw [hsh] at ha hst ⊢
    have a1 : At s i t.name.data.toList := ha.left
    have a2 := ha.right
    rw [hnl] at a2
    by_cases hz : t.args.length = 0
    · rw [if_pos hz, List.append_nil, hnl] at hst ⊢
      obtain ⟨e1, e2⟩ := name_at hk a1 hi hst.nm
      rw [pTerm, e2, e1, hst.bl, hst.open]
      simp only [Bool.false_eq_true, if_false, show ¬ 12 < above from by omega]
      rw [At.extract a1 hi]
      have e3 : (⟨t.name, []⟩ : Tm) = t := by
        cases t with
        | mk nm xs => simp at hz; simp [hz]
      rw [e3]
      exact pEnd_has hnd hg ht _ _
    · rw [if_neg hz] at hst a2 ⊢
      have a3 := a2.head
      have a4 := a2.tail
      obtain ⟨m, hm⟩ : ∃ m, t.args.length = 0 + m + 1 := ⟨t.args.length - 1, by omega⟩
      have hj := rst_join (fun j => shw l f (t.arg j)) m 0
      rw [← hm] at hj
      simp only [joinTo, if_true, List.nil_append] at hj
      rw [hj] at a4 hst ⊢
      have q40 : byt s (i + t.name.size) = 40 := a3.2
      have hnx : ¬ (i + t.name.size < s.size ∧ isNm (byt s (i + t.name.size)) = true) := fun x => by rw [q40] at x; exact absurd x.2 (by decide)
      obtain ⟨e1, e2⟩ := name_at hk a1 hi hnx
      have eb : bl s (i + t.name.size) = i + t.name.size := bl_end fun x => by omega
      have es : stands s (i + t.name.size) 40 = true := stands_true a3.1 q40
      have hne : ∀ k, k < t.args.length → ∀ i, At s i (shw l f (t.arg k)) → i < s.size ∧ isNm (byt s i) = true := fun k hk2 i hA => shw_first hn (hargs _ (arg_mem hk2)) hA
      have a5 : At s (i + t.name.size + 1) (shw l f (t.arg 0)) := by
        cases m with
        | zero => exact a4.left
        | succ m => exact a4.left
      obtain ⟨n1, n2⟩ := hne 0 (by omega) _ a5
      have eh : behind s (i + t.name.size) 40 = i + t.name.size + 1 := by
        rw [behind_true es]
        exact bl_end fun x => isNm_not n2 x.2
      have hlen : i + (t.name.data.toList ++ 40 :: rst (fun j => shw l f (t.arg j)) m 0).length = i + t.name.size + 1 + (rst (fun j => shw l f (t.arg j)) m 0).length := by
        rw [List.length_append, List.length_cons, hnl]
        omega
      rw [hlen] at hst ⊢
      have ar := back_args (l := l) (s := s) (above := above + 1) (fun j => shw l f (t.arg j)) t.args h4 (fun k hk2 i G hA hS hG hi => back hnd hg hn s f (t.arg k) (hargs _ (arg_mem hk2)) (above + 1) i G (by omega) hA hS hG hi) hne m 0 (i + t.name.size + 1) G (by omega) a4 (by omega) hst (by omega)
      rw [List.take_zero] at ar
      rw [pTerm, e2, e1, eb, es, eh]
      simp only [Bool.false_eq_true, if_false, show ¬ 12 < above from by omega, if_true, ar]
      rw [At.extract a1 hi]
      exact pEnd_has hnd hg ht _ _


/-- Args come ahead. -/
def Ahd (l : List Tm) : Prop := ∀ (i : Nat) (t : Tm), l[i]? = some t → ∀ a ∈ t.args, a < i

structure Nq (l : List Tm) : Prop where
  nms : Nms l
  ahd : Ahd l

theorem Nq.add {l : List Tm} (h : Nq l) {t : Tm} (hn : NmOk t.name) (ha : ∀ a ∈ t.args, a < l.length) : Nq (addL l t) := by
  unfold addL
  cases hx : nix l t with
  | some i => exact h
  | none =>
    refine ⟨fun u hu => ?_, fun i u hi a hau => ?_⟩
    · simp only [List.mem_append, List.mem_singleton] at hu
      rcases hu with hu | rfl
      · exact h.nms u hu
      · exact hn
    · by_cases hl : i < l.length
      · rw [List.getElem?_append_left hl] at hi
        exact h.ahd i u hi a hau
      · have hlt := (List.getElem?_eq_some_iff.1 hi).1
        have e : i = l.length := by simp at hlt; omega
        subst e
        simp at hi
        subst hi
        exact ha a hau

theorem p_nq (s : ByteArray) : ∀ f : Nat,
    (∀ above i l n k l', i ≤ s.size → Nq l → pTerm s f above i l = .ok n k l' → Nq l') ∧
    (∀ above i l xs x k l', i ≤ s.size → xs.length ≤ 4 → (∀ a ∈ xs, a < l.length) → Nq l → pArgs s f above i l xs = .ok x k l' → Nq l')
  | 0 => ⟨fun _ _ _ _ _ _ _ _ e => (by rw [pTerm] at e; cases e), fun _ _ _ _ _ _ _ _ _ _ _ e => (by rw [pArgs] at e; cases e)⟩
  | f + 1 => by
    obtain ⟨IT, IA⟩ := p_nq s f
    obtain ⟨GT, GA⟩ := p_grows s f
    obtain ⟨CT, CA⟩ := p_count s f
    constructor
    · intro above i l n k l' hi hq e
      rw [pTerm] at e
      split at e
      · cases e
      · next hb =>
        have hb' : badNm s i = false := by simpa using hb
        have hnm := nm_ok hi hb'
        have h4 := bl_le (nmE_le hi)
        split at e
        · cases e
        · split at e
          · have h6 := behind_le (c := 40) h4
            split at e
            · cases e
            · next xs k2 l2 hx =>
              have A1 := IA _ _ _ _ _ _ _ h6 (by simp) (by simp) hq hx
              obtain ⟨_, _, A3⟩ := CA _ _ _ _ _ _ _ h6 (by simp) (by simp) hx
              unfold pEnd at e
              split at e
              · injection e with e1 e2 e3
                subst e3
                exact A1.add (t := ⟨s.extract i (nmE s i), xs⟩) hnm A3
              · cases e
          · unfold pEnd at e
            split at e
            · injection e with e1 e2 e3
              subst e3
              exact hq.add (t := ⟨s.extract i (nmE s i), []⟩) hnm (by simp)
            · cases e
    · intro above i l xs x k l' hi hx4 hxs hq e
      rw [pArgs] at e
      split at e
      · cases e
      · split at e
        · cases e
        · split at e
          · cases e
          · next n k2 l2 hx =>
            have A1 := IT _ _ _ _ _ _ hi hq hx
            obtain ⟨B0, B1⟩ := GT above i l hi
            obtain ⟨B2, B3⟩ := B1 n k2 l2 hx
            obtain ⟨_, C2⟩ := CT _ _ _ _ _ _ hi hx
            rw [hx] at B0
            have B4 : l.length ≤ l2.length := B0.length_le
            have hl4 : (xs ++ [n]).length ≤ 4 := by simp; omega
            have hxs2 : ∀ a ∈ xs ++ [n], a < l2.length := by
              intro a ha
              rcases List.mem_append.1 ha with ha | ha
              · exact Nat.lt_of_lt_of_le (hxs a ha) B4
              · rw [List.mem_singleton.1 ha]; exact C2
            split at e
            · injection e with e1 e2 e3
              subst e3
              exact A1
            · split at e
              · exact IA _ _ _ _ _ _ _ (behind_le B3) hl4 hxs2 A1 e
              · cases e

theorem Nq.nil : Nq [] := ⟨fun t h => by simp at h, fun i t h => by simp at h⟩
theorem Nq.read {l : List Tm} (h : Nq l) (s : ByteArray) : Nq (pRead s l).2.2.2 := by
  unfold pRead
  split
  · exact h
  · unfold pWhole
    have hb := bl_le (s := s) (i := 0) (by omega)
    split
    · exact h
    · next n k l' hx =>
      split
      · exact h
      · split
        · exact h
        · exact (p_nq s _).1 0 (bl s 0) l n k l' hb h hx

theorem At.whole (x : List UInt8) : At (bt x) 0 x := fun j u hj => by
  have hlt := (List.getElem?_eq_some_iff.1 hj).1
  rw [Nat.zero_add, bt_size, byt_bt, hj]
  exact ⟨hlt, rfl⟩

/-- Reading what is shown. -/
theorem read_back {l : List Tm} (hnd : l.Nodup) (hk : Kp l) (hq : Nq l) {n : Nat} (hn : n < l.length) (hs : (shw l 13 n).length ≤ 400) : pRead (bt (shw l 13 n)) l = (n, 0, 0, l) := by
  have hA := At.whole (shw l 13 n)
  have hH := hk.hs n hn
  have h1 := shw_first hq.nms hH hA
  have hb : bl (bt (shw l 13 n)) 0 = 0 := bl_end fun x => isNm_not h1.2 x.2
  have hz := bt_size (shw l 13 n)
  have tm := back hnd hk.good hq.nms (bt (shw l 13 n)) 13 n hH 0 0 (2 * (bt (shw l 13 n)).size + 1) (by omega) hA (Or.inl (by omega)) (by omega) (by omega)
  have hl := hk.len
  unfold pRead pWhole
  rw [if_neg (by omega), hb, tm]
  simp only [Nat.zero_add]
  rw [if_neg (by omega), if_neg (by omega)]
/-- No two show the same. -/
theorem shw_inj {l : List Tm} (hnd : l.Nodup) (hk : Kp l) (hq : Nq l) {n m : Nat} (hn : n < l.length) (hm : m < l.length) (hs : (shw l 13 n).length ≤ 400) (he : shw l 13 m = shw l 13 n) : m = n := by
  have h1 := read_back hnd hk hq hn hs
  have h2 := read_back hnd hk hq hm (by rw [he]; exact hs)
  rw [he, h1] at h2
  injection h2 with h3
  exact h3.symm

/-- A shown term in a text. -/
theorem lterm_back {l : List Tm} (hnd : l.Nodup) (hk : Kp l) (hq : Nq l) {s : ByteArray} (hs : s.size ≤ 400) {n : Nat} (hn : n < l.length) {i : Nat} (hi : i ≤ s.size) (ha : At s i (shw l 13 n)) (hst : Stop s (i + (shw l 13 n).length)) : lTerm s i l = .ok n (i + (shw l 13 n).length) l := by
  have h1 := shw_first hq.nms (hk.hs n hn) ha
  have hb : bl s i = i := bl_end fun x => isNm_not h1.2 x.2
  rw [lterm_eq s i l hi hb hs (F := 2 * s.size + 1) (by omega), back hnd hk.good hq.nms s 13 n (hk.hs n hn) 0 i (2 * s.size + 1) (by omega) ha hst (by omega) hi]
  have := hk.len
  simp only [rTm]
  rw [if_neg (by omega)]

end Go.Proofs.Ytinphcnknionmaa.Sp

namespace Go.Proofs.Ytinphcnknionmaa
open Go.RowKit

/-- Rows on the block of av that are no longer than n stay. -/
def Hold (e : TypeId) (size : Nat) (w w' : World) (av : Value) (n : Nat) : Prop := ∀ (base : Nat) (u : Value) (k : Nat) (xs : List Value), u.ownBlock = av.ownBlock → k ≤ n → w.ownsRow base e size u k xs → w'.ownsRow base e size u k xs
theorem Hold.of_kept0 {e : TypeId} {size : Nat} {w w' : World} (h : Kept0 w w') (av : Value) (n : Nat) : Hold e size w w' av n := fun _ _ _ _ _ _ hr => hr.kept h.grownBy (Decidable.em _)
theorem Hold.trans {e : TypeId} {size : Nat} {a b c : World} {av : Value} {n : Nat} (h : Hold e size a b av n) (k : Hold e size b c av n) : Hold e size a c av n := fun base u m xs h1 h2 h3 => k base u m xs h1 h2 (h base u m xs h1 h2 h3)

theorem run_append_old {P : Program} (w : World) (base : Nat) (t ty e : TypeId) (i : TypeInfo) (z : Value) (size bytes : Nat) (ht : P.underlying t = some (.slice e)) (hi : P.info? e = some i) (hz : i.zero = some z)
    (hsize : i.size = size) (hby : i.bytes = bytes) (hzs : z.cells.size = size) (hsz : 0 < size)
    (v : Value) (n : Nat) (xs : List Value) (hown : w.ownsRow base e size v n xs)
    (a : Addr) (m c : Nat) (news : List Value) (hl : news.length = m * size) (hnews : ∀ j u, news[j]? = some u → w.cell? (a.add j) = some u) (h1 : ∀ u ∈ news, u.oneCell' = true)
    (h63 : n + m ≤ maxLen) (hbytes : (n + m) * bytes ≤ 140737488355328) (hbase : base ≤ w.heap.size) :
    ∃ v' w', (Builtin.append_ #[t, t] ty #[v, .slice (some a) m c]).run P w = .ok v' w' ∧ w'.ownsRow base e size v' (n + m) (xs ++ news) ∧ w.grownBy w' v.ownBlock ∧
      (v'.ownBlock = v.ownBlock ∨ ∀ k, v'.ownBlock = some k → w.heap.size ≤ k) ∧ Hold e size w w' v n := by
  obtain ⟨v', w', hr, r1, r2, r3⟩ := run_append_here (P := P) w base t ty e i z size bytes ht hi hz hsize hby hzs hsz v n xs hown a m c news hl hnews h1 h63 hbytes hbase
  refine ⟨v', w', hr, r1, r2, r3, ?_⟩
  rcases hown.2 with ⟨rfl, rfl⟩ | ⟨g, cap, cur, rfl, hbg, hg, hnc, hcm, hcs, htake⟩
  · intro base2 u k ys hu hk hrow
    have hu' : u.ownBlock = none := hu
    exact hrow.kept r2 (Or.inl hu')
  · by_cases hroom : n + m ≤ cap
    · subst hsize
      have hfit : n * i.size + news.length ≤ cur.size := by rw [hl, hcs, ← Nat.add_mul]; exact Nat.mul_le_mul_right _ hroom
      have hr2 := run_append_room (P := P) w t ty e i ht hi g n cap cur hg a m c news hl hnews h1 hroom hfit
      rw [hr] at hr2
      simp only [Result.ok.injEq] at hr2
      obtain ⟨rfl, rfl⟩ := hr2
      intro base2 u k ys hu hk hrow
      refine ⟨hrow.1, ?_⟩
      rcases hrow.2 with h0 | ⟨g2, cap2, cur2, rfl, k1, k2, k3, k4, k5, k6⟩
      · exact Or.inl h0
      · simp [Value.ownBlock] at hu
        subst hu
        rw [hg] at k2
        simp only [Option.some.injEq, Obj.cells.injEq] at k2
        obtain ⟨rfl, _⟩ := k2
        rcases r1.2 with ⟨e0, _⟩ | ⟨g3, cap3, cur3, e3, c1, c2, c3, c4, c5, c6⟩
        · cases e0
        · simp only [Value.slice.injEq, Option.some.injEq, Addr.mk.injEq, and_true, true_and] at e3
          obtain ⟨rfl, rfl⟩ := e3
          refine Or.inr ⟨_, cap2, cur3, rfl, k1, c2, k3, k4, ?_, ?_⟩
          · rw [c5, ← hcs, k5]
          · have hcc : k * i.size ≤ n * i.size := Nat.mul_le_mul_right _ hk
            have t1 : cur3.toList.take (k * i.size) = (xs ++ news).take (k * i.size) := by
              rw [← c6, List.take_take]
              congr 1
              rw [Nat.add_mul]
              omega
            rw [t1, List.take_append_of_le_length (by rw [hown.1]; exact hcc), ← htake, List.take_take, ← k6]
            congr 1
            omega
    · obtain ⟨v2, w2, hr2, s1, s2⟩ := run_append_arg_grows (P := P) w t ty e i z size bytes ht hi hz hsize hby hzs hsz ⟨g, 0, none⟩ n cap xs hown.1 (hown.cells (g := g) rfl) a m c news hl hnews (by omega) h63 hbytes
      rw [hr] at hr2
      simp only [Result.ok.injEq] at hr2
      obtain ⟨rfl, rfl⟩ := hr2
      intro base2 u k ys hu hk hrow
      exact hrow.kept s2 (by
        rcases hrow.2 with ⟨e0, _⟩ | ⟨g2, cap2, cur2, e0, _⟩
        · exact Or.inl (by rw [e0]; rfl)
        · exact Or.inr (by rw [e0]; simp [Value.ownBlock]))

theorem wpList_append_old {P : Program} {ops : Array Oper} {rest : List Oper} {o : Oper} {a : Act} {w : World} {Q : Exit → Act → World → Prop} (hgd : o.guard = none) (sl x : Operand) (t : TypeId)
    (ho : o.op = .call { callee := .builtin .append, args := #[sl, x], argTypes := #[t, t] })
    (base : Nat) (e : TypeId) (i : TypeInfo) (z : Value) (size bytes : Nat) (h1 : P.underlying t = some (.slice e)) (h2 : P.info? e = some i) (h3 : i.zero = some z) (h4 : i.size = size) (h5 : i.bytes = bytes) (h6 : z.cells.size = size) (h7 : 0 < size)
    (v : Value) (n : Nat) (xs : List Value) (hs : a.eval sl = v) (hown : w.ownsRow base e size v n xs)
    (ad : Addr) (m c : Nat) (news : List Value) (hx : a.eval x = .slice (some ad) m c) (hn : news.length = m * size) (hc : ∀ j u, news[j]? = some u → w.cell? (ad.add j) = some u) (h1c : ∀ u ∈ news, u.oneCell' = true)
    (b1 : n + m ≤ maxLen) (b2 : (n + m) * bytes ≤ 140737488355328) (hbase : base ≤ w.heap.size)
    (h : ∀ v' w', w'.ownsRow base e size v' (n + m) (xs ++ news) → w.grownBy w' v.ownBlock → (v'.ownBlock = v.ownBlock ∨ ∀ k, v'.ownBlock = some k → w.heap.size ≤ k) → Hold e size w w' v n → wpList P ops Q rest (a.put o.dst v') w') : wpList P ops Q (o :: rest) a w := by
  refine wpList_plain hgd fun K hK => ?_
  obtain ⟨v', w', hr, r1, r2, r3, r4⟩ := run_append_old (P := P) w base t o.type e i z size bytes h1 h2 h3 h4 h5 h6 h7 v n xs hown ad m c news hn hc h1c b1 b2 hbase
  unfold Oper.wp execOp
  simp only [ho, resolve, invoke, builtin, Sem.run_bind, Sem.run_pure, Result.andThen_ok, List.map_toArray, List.map_cons, List.map_nil, hs, hx, hr]
  exact hK _ _ (h v' w' r1 r2 r3 r4)

/-- What put leaves. -/
def PutPost2 (w : World) (base : Nat) (av : Value) (l : List Tm) (vs : List Value) (t : Tm) (v : Value) (e : Ending) (w' : World) : Prop :=
  ∃ av', e = .returned (.tuple #[av', .int .i64 (addN l t : Int)]) ∧ Ls w' base av' (addL l t) (putV l t vs v) ∧ Kept (fun k => av.ownBlock = some k) w w' ∧ (av'.ownBlock = av.ownBlock ∨ ∀ k, av'.ownBlock = some k → w.heap.size ≤ k) ∧ Hold 114 2 w w' av l.length

set_option maxHeartbeats 2000000 in
set_option maxRecDepth 100000 in
theorem put2_in (w : World) (base : Nat) (av : Value) (l : List Tm) (vs : List Value) (h : Ls w base av l vs) (hl : l.length ≤ 1000) (t : Tm) (v : Value) (hv : ArgsAt1 w base t.args v) (hu4 : ∀ u ∈ l, u.args.length ≤ 4) (hbase : base ≤ w.heap.size) :
    Calls Try.prog 116 #[av, .agg #[.string t.name, v]] w (PutPost2 w base av l vs t v) := by
  obtain ⟨ta, tc, rfl⟩ := row_form hv
  obtain ⟨aa, ac, rfl⟩ := h.form
  have K1 : Kept0 w (w.alloc (.cells #[.string t.name, .slice ta t.args.length tc] 114)) := Kept.alloc (Kept.refl _ w) _
  have R1 := made_row w #[.string t.name, .slice ta t.args.length tc] 114
  generalize hw1 : w.alloc (.cells #[.string t.name, .slice ta t.args.length tc] 114) = w1 at *
  have L1 := h.kept0 K1
  have V1 := hv.kept K1.grownBy (Decidable.em _)
  go_enter Try.func116, Try.ntmps116
  go_wp2_with fail
  clear hw1
  generalize w.heap.size = x at R1 ⊢
  go_loopw [6] (fun t6 W => ∃ k : Nat, k ≤ l.length ∧ t6 = .int .i64 (k : Int) ∧ Hid (∀ j, j < k → l[j]? ≠ some t) ∧ Hid (Kept0 w1 W)) (fun t6 _ => l.length - (intOf t6).toNat)
  case atStart => exact ⟨0, by omega, rfl, fun j hj => absurd hj (by omega), Kept.refl _ w1⟩
  case round =>
    obtain ⟨k, hk, rfl, hne, KK⟩ := hrel
    have LW := L1.kept0 KK.out
    have VW := V1.kept KK.out.grownBy (Decidable.em _)
    have RW := World.rowIs.of_block R1 (KK.out.block x (World.rowIs.lt R1) (fun e => e))
    have a0 : wr.cell? ⟨x, 0, none⟩ = some (.string t.name) := World.rowIs.cell RW (i := 0) (by simp)
    have a1 : wr.cell? ⟨x, 1, none⟩ = some (.slice ta t.args.length tc) := World.rowIs.cell RW (i := 1) (by simp)
    by_cases hk2 : k < l.length
    · have dk : decide ((k : Int) < (l.length : Int)) = true := decide_eq_true (by omega)
      have hu : l[k]? = some l[k] := List.getElem?_eq_getElem hk2
      have hu4' := hu4 _ (List.getElem_mem hk2)
      generalize hgu : l[k] = u at hu hu4'
      obtain ⟨g, cap, vu, hg, _, g0, g1, hvu⟩ := LW.at hu
      injection hg with e1 _ e3
      subst e1 e3
      obtain ⟨ua, uc, rfl⟩ := row_form hvu
      have SAME := fun m => same1_in (wr.drewN m) base u t (.slice ua u.args.length uc) (.slice ta t.args.length tc) hvu VW hu4'
      by_cases he : u = t
      · rw [decide_eq_true he] at SAME
        have hN : nix l t = some k := nix_first (he ▸ hu) hne.out
        clear he hgu
        go_wp2_with fail
        go_region_with (go_at_call 148; refine (SAME _).mono ?_; rintro e w3 ⟨rfl, K3⟩)
        all_goals
          go_wp2_with fail
          go_ret2
          have K4 : Kept0 w1 w3 := Kept.trans (Kept.drewN KK.out _) K3
          have K5 : Kept0 w w3 := Kept.trans K1 K4
          exact ⟨_, by simp [addN, hN], by simpa [addL, putV, hN] using h.kept0 K5, Kept.mono K5 (fun _ _ e => e.elim), Or.inl rfl, Hold.of_kept0 K5 _ _⟩
      · rw [decide_eq_false he] at SAME
        have hne2 : Hid (∀ j, j < k + 1 → l[j]? ≠ some t) := fun j hj => by
          by_cases e : j = k
          · subst e
            rw [hu]
            simpa using he
          · exact hne.out j (by omega)
        clear he hgu
        go_wp2_with fail
        go_region_with (go_at_call 148; refine (SAME _).mono ?_; rintro e w3 ⟨rfl, K3⟩)
        all_goals
          go_wp2_with fail
          go_roundw
          case rel => exact ⟨k + 1, by omega, by go_num, hne2, Kept.trans (Kept.drewN KK.out _) K3⟩
          case measure => simp [intOf]; omega
    · have dk : decide ((k : Int) < (l.length : Int)) = false := decide_eq_false (by omega)
      have hN : nix l t = none := nix_nowhere fun j hj => hne.out j (by omega)
      obtain ⟨i0, hi0, hz0, hz1, hz2⟩ := info_parts infoRT
      have hsz := KK.out.size
      have hsz1 := K1.size
      have NEWS := two_new wr (.string t.name) (.slice ta t.args.length tc)
      clear dk hne
      have dk : decide ((k : Int) < (l.length : Int)) = false := decide_eq_false (by omega)
      have hlenb : Hid (l.length ≤ 1000) := hl
      go_wp2_with (at_builtin; refine wpList_append_old rfl _ _ 26 rfl base 114 i0 _ 2 40 Try.underlying26 hi0 hz0 hz1 hz2 rfl (by decide) _ l.length (lsC l vs) rfl (LW.row.alloc _) ⟨wr.heap.size, 0, none⟩ 1 1 [.string t.name, .slice ta t.args.length tc] rfl rfl NEWS (by simp [Value.oneCell']) (by unfold maxLen; omega) (by omega) (by simp; omega) ?_; intro v' w5 hown5 hgrow hloc hold5)
      go_ret2
      have K4 : Kept0 w (wr.alloc (.cells #[.string t.name, .slice ta t.args.length tc] 114)) := (Kept.trans K1 KK.out).alloc _
      have LA : Ls (wr.alloc (.cells #[.string t.name, .slice ta t.args.length tc] 114)) base (.slice aa l.length ac) l vs := h.kept0 K4
      refine ⟨v', by simp [addN, hN], ?_, Kept.grown (Kept.mono K4 (fun _ _ e => e.elim)) hgrow (fun k e => e), ?_, (Hold.of_kept0 K4 _ _).trans hold5⟩
      · have := LA.snoc (hv.kept K4.grownBy (Decidable.em _)) hown5 hgrow
        simpa [addL, putV, hN] using this
      · rcases hloc with e | e
        · exact Or.inl e
        · refine Or.inr fun k hk => ?_
          have h1 := e k hk
          have h2 := K4.size
          omega

end Go.Proofs.Ytinphcnknionmaa
