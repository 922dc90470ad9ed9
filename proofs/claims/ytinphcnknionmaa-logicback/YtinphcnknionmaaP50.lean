/- LogicBack: a shown term within a text is read as the term it shows (made of BackA, BackB, BackC, with more signs behind a term; a namespace of its own, for LoH has an At, too). LogicBack: what is shown of a formula is read as that formula. -/
import Derived.Test.YtinphcnknionmaaP38
import Derived.Test.YtinphcnknionmaaP22
import Derived.Test.YtinphcnknionmaaP48
namespace Go.Proofs.Ytinphcnknionmaa.Sp
open Go.RowKit


theorem byt_bt (l : List UInt8) (i : Nat) : byt (bt l) i = (l[i]?.map UInt8.toNat).getD 0 := by
  unfold byt
  by_cases h : i < l.length
  · have h' : i < (bt l).size := by rw [bt_size]; exact h
    rw [dif_pos h', List.getElem?_eq_getElem h]
    simp [bt]
    rfl
  · have h' : ¬ i < (bt l).size := by rw [bt_size]; exact h
    rw [dif_neg h', List.getElem?_eq_none (by omega)]
    rfl

/-- A name as the bank has it: letters and digits, the first a letter. -/
def NmOk (n : ByteArray) : Prop := 0 < n.size ∧ n.size ≤ 6 ∧ (∀ i, i < n.size → isNm (byt n i) = true) ∧ isDig (byt n 0) = false

theorem nmE_run {s : ByteArray} {i k : Nat} (hk : i + k ≤ s.size) (h : ∀ j, j < k → isNm (byt s (i + j)) = true) (he : ¬ (i + k < s.size ∧ isNm (byt s (i + k)) = true)) : nmE s i = i + k := by
  induction k generalizing i with
  | zero => exact nmE_end he
  | succ k ih =>
    rw [nmE_at (by omega) (by simpa using h 0 (by omega)), ih (by omega) (fun j hj => by have := h (j + 1) (by omega); rwa [show i + 1 + j = i + (j + 1) from by omega]) (by rwa [show i + 1 + k = i + (k + 1) from by omega])]
    omega

/-- The name that is read is one. -/
theorem nm_run {s : ByteArray} {i : Nat} : ∀ j, i ≤ j → j < nmE s i → isNm (byt s j) = true := by
  induction i using nmE.induct s with
  | case1 i h ih =>
    intro j h1 h2
    rw [nmE_at h.1 h.2] at h2
    by_cases e : j = i
    · rw [e]; exact h.2
    · exact ih j (by omega) h2
  | case2 i h =>
    intro j h1 h2
    rw [nmE_end h] at h2
    omega
theorem byt_extract {s : ByteArray} {i k j : Nat} (hk : k ≤ s.size) (hj : i + j < k) : byt (s.extract i k) j = byt s (i + j) := by
  have h1 : (s.extract i k).size = k - i := ext_size (by omega) hk
  unfold byt
  rw [dif_pos (by omega), dif_pos (by omega)]
  simp [ByteArray.getElem_extract]
theorem nm_ok {s : ByteArray} {i : Nat} (hi : i ≤ s.size) (h : badNm s i = false) : NmOk (s.extract i (nmE s i)) := by
  have h1 := nm_lt h
  have h2 := nmE_le hi
  have h3 := nm_small h hi
  have h4 : (s.extract i (nmE s i)).size = nmE s i - i := ext_size (by omega) h2
  refine ⟨by omega, h3, fun j hj => ?_, ?_⟩
  · rw [byt_extract h2 (by omega)]
    exact nm_run (i := i) _ (by omega) (by omega)
  · rw [byt_extract h2 (by omega)]
    cases hd : isDig (byt s (i + 0)) with
    | false => rfl
    | true =>
      rw [Nat.add_zero] at hd
      simp [badNm, hd] at h

/-- The bytes x stand in s from i on. -/
def At (s : ByteArray) (i : Nat) (x : List UInt8) : Prop := ∀ j u, x[j]? = some u → i + j < s.size ∧ byt s (i + j) = u.toNat
theorem At.left {s : ByteArray} {i : Nat} {x y : List UInt8} (h : At s i (x ++ y)) : At s i x := fun j u hj => h j u (by rw [List.getElem?_append_left (List.getElem?_eq_some_iff.1 hj).1]; exact hj)
theorem At.right {s : ByteArray} {i : Nat} {x y : List UInt8} (h : At s i (x ++ y)) : At s (i + x.length) y := fun j u hj => by
  have := h (x.length + j) u (by rw [List.getElem?_append_right (by omega)]; simpa using hj)
  rwa [show i + x.length + j = i + (x.length + j) from by omega]
theorem At.le {s : ByteArray} {i : Nat} {x : List UInt8} (h : At s i x) (hi : i ≤ s.size) : i + x.length ≤ s.size := by
  by_cases hx : x.length = 0
  · omega
  · have hlt : x.length - 1 < x.length := by omega
    have := (h (x.length - 1) x[x.length - 1] (List.getElem?_eq_getElem hlt)).1
    omega
theorem At.head {s : ByteArray} {i : Nat} {u : UInt8} {x : List UInt8} (h : At s i (u :: x)) : i < s.size ∧ byt s i = u.toNat := by simpa using h 0 u rfl
theorem At.tail {s : ByteArray} {i : Nat} {u : UInt8} {x : List UInt8} (h : At s i (u :: x)) : At s (i + 1) x := fun j v hj => by
  have := h (j + 1) v (by simpa using hj)
  rwa [show i + 1 + j = i + (j + 1) from by omega]

theorem At.extract {s : ByteArray} {i : Nat} {n : ByteArray} (h : At s i n.data.toList) (hi : i ≤ s.size) : s.extract i (i + n.size) = n := by
  have hl : n.data.toList.length = n.size := by simp
  have hle := h.le hi
  rw [hl] at hle
  apply toList_name
  rw [ByteArray.toList_eq, ByteArray.toList_eq]
  apply List.ext_getElem
  · have := ext_size (s := s) (i := i) (k := i + n.size) (by omega) hle
    have e1 : (s.extract i (i + n.size)).data.toList.length = (s.extract i (i + n.size)).size := by rw [Array.length_toList]; rfl
    rw [e1, this, hl]
    omega
  · intro j h1 h2
    have h3 : j < n.size := by rw [← hl]; exact h2
    obtain ⟨h4, h5⟩ := h j n.data.toList[j] (List.getElem?_eq_getElem h2)
    have e := byt_extract (s := s) (i := i) (k := i + n.size) (j := j) hle (by omega)
    rw [h5] at e
    have h6 : j < (s.extract i (i + n.size)).size := by
      rw [ext_size (by omega) hle]; omega
    have e2 : byt (s.extract i (i + n.size)) j = ((s.extract i (i + n.size)).data.toList[j]).toNat := by
      rw [← byt_lt h6]; rfl
    rw [e2] at e
    exact UInt8.toNat_inj.1 e

/-- A term ends at k. -/
def Stop (s : ByteArray) (k : Nat) : Prop := k = s.size ∨ (k < s.size ∧ (byt s k = 44 ∨ byt s k = 41 ∨ byt s k = 61 ∨ byt s k = 33 ∨ byt s k = 38 ∨ byt s k = 124 ∨ byt s k = 45))
theorem Stop.bl {s : ByteArray} {k : Nat} (h : Stop s k) : bl s k = k := bl_end fun x => by rcases h with e | ⟨_, e⟩ <;> omega
theorem Stop.nm {s : ByteArray} {k : Nat} (h : Stop s k) : ¬ (k < s.size ∧ isNm (byt s k) = true) := fun x => by
  rcases h with e | ⟨_, e | e | e | e | e | e | e⟩
  · omega
  all_goals (rw [e] at x; exact absurd x.2 (by decide))
theorem Stop.open {s : ByteArray} {k : Nat} (h : Stop s k) : stands s k 40 = false := decide_eq_false fun x => by rcases h with e | ⟨_, e⟩ <;> omega
theorem isNm_not {c : Nat} (h : isNm c = true) : c ≠ 32 := fun e => by rw [e] at h; exact absurd h (by decide)

/-- What the bank's names keep to. -/
def Nms (l : List Tm) : Prop := ∀ t ∈ l, NmOk t.name

theorem name_at {s : ByteArray} {i : Nat} {n : ByteArray} (hn : NmOk n) (h : At s i n.data.toList) (hi : i ≤ s.size) (he : ¬ (i + n.size < s.size ∧ isNm (byt s (i + n.size)) = true)) : nmE s i = i + n.size ∧ badNm s i = false := by
  have hl : n.data.toList.length = n.size := by simp
  have hle := h.le hi
  rw [hl] at hle
  have hb : ∀ j, j < n.size → byt s (i + j) = byt n j := fun j hj => by
    have hj' : j < n.data.toList.length := by omega
    rw [(h j n.data.toList[j] (List.getElem?_eq_getElem hj')).2, ← byt_lt hj]
    rfl
  have h1 := nmE_run (s := s) (i := i) (k := n.size) hle (fun j hj => by rw [hb j hj]; exact hn.2.2.1 j hj) he
  refine ⟨h1, ?_⟩
  have h2 : isDig (byt s i) = false := by
    have := hb 0 hn.1
    rw [Nat.add_zero] at this
    rw [this]; exact hn.2.2.2
  have h3 := hn.1
  have h4 := hn.2.1
  unfold badNm
  rw [h1, h2, decide_eq_false (by omega), decide_eq_false (by omega)]
  rfl

theorem shw_first {l : List Tm} (hn : Nms l) {f n : Nat} (h : Hgt l f n) {s : ByteArray} {i : Nat} (ha : At s i (shw l f n)) : i < s.size ∧ isNm (byt s i) = true := by
  cases f with
  | zero => exact h.elim
  | succ f =>
    obtain ⟨t, ht, _⟩ := h
    rw [shw, ht] at ha
    have hk := hn t (List.mem_of_getElem? ht)
    have hl : 0 < t.name.data.toList.length := by simpa using hk.1
    obtain ⟨h1, h2⟩ := ha.left 0 t.name.data.toList[0] (List.getElem?_eq_getElem hl)
    rw [Nat.add_zero] at h1 h2
    refine ⟨h1, ?_⟩
    have h3 := hk.2.2.1 0 hk.1
    rw [h2]
    rw [← byt_lt hk.1] at h3
    exact h3


theorem pEnd_has {l : List Tm} (hnd : l.Nodup) (hg : Good l) {n : Nat} {t : Tm} (h : l[n]? = some t) (p k : Nat) : pEnd t p k l = .ok n k l := by
  have hf : fitsB l t = true := by
    have := clash_fits hg t
    have hc : clashB l t = false := List.any_eq_false.2 fun u hu => by
      simp only [clashP, Bool.and_eq_true, decide_eq_true_eq, not_and, ne_eq, Decidable.not_not]
      intro e
      exact hg.one u hu t (List.mem_of_getElem? h) e
    rw [hc] at this
    simpa using this.symm
  have hx := nix_at hnd h
  unfold pEnd
  rw [hf]
  simp [addN, addL, hx]

/-- The text from arg k on: m more behind it, and the bracket. -/
def rst (F : Nat → List UInt8) : Nat → Nat → List UInt8
  | 0, k => F k ++ [41]
  | m + 1, k => F k ++ 44 :: rst F m (k + 1)
theorem rst_join (F : Nat → List UInt8) : ∀ m k, joinTo F (k + m + 1) ++ [41] = joinTo F k ++ ((if k = 0 then [] else [44]) ++ rst F m k)
  | 0, k => by simp [joinTo, rst]
  | m + 1, k => by
    have := rst_join F m (k + 1)
    rw [show k + (m + 1) + 1 = (k + 1) + m + 1 from by omega, this, joinTo, rst]
    simp

theorem back_args {l : List Tm} {s : ByteArray} {above : Nat} (F : Nat → List UInt8) (xs : List Nat) (h4 : xs.length ≤ 4)
    (IH : ∀ k, k < xs.length → ∀ i G, At s i (F k) → Stop s (i + (F k).length) → 2 * (s.size - i) + 1 ≤ G → i ≤ s.size → pTerm s G above i l = .ok (xs.getD k 0) (i + (F k).length) l)
    (hne : ∀ k, k < xs.length → ∀ i, At s i (F k) → i < s.size ∧ isNm (byt s i) = true) :
    ∀ (m k i G : Nat), k + m + 1 = xs.length → At s i (rst F m k) → i ≤ s.size → Stop s (i + (rst F m k).length) → 2 * (s.size - i) + 2 ≤ G → pArgs s G above i l (xs.take k) = .ok xs (i + (rst F m k).length) l
  | 0, k, i, G, hk, ha, hi, hst, hG => by
    obtain ⟨G, rfl⟩ : ∃ g, G = g + 1 := ⟨G - 1, by omega⟩
    have a1 : At s i (F k) := ha.left
    have a2 := (At.right (x := F k) ha).head
    obtain ⟨n1, n2⟩ := hne k (by omega) i a1
    have q : byt s (i + (F k).length) = 41 := a2.2
    have st : Stop s (i + (F k).length) := Or.inr ⟨a2.1, Or.inr (Or.inl q)⟩
    have tm := IH k (by omega) i G a1 st (by omega) hi
    have hl : (rst F 0 k).length = (F k).length + 1 := by simp [rst]
    rw [hl] at hst ⊢
    have b41 : stands s (i + (F k).length) 41 = true := stands_true a2.1 q
    have bh : behind s (i + (F k).length) 41 = i + ((F k).length + 1) := by
      rw [behind_true b41]
      exact Stop.bl (by rwa [show i + (F k).length + 1 = i + ((F k).length + 1) from by omega])
    have hx : xs.take k ++ [xs.getD k 0] = xs := by
      have e : xs.take (k + 1) = xs := List.take_of_length_le (by omega)
      have e2 : xs.take k ++ [xs.getD k 0] = xs.take (k + 1) := by
        rw [List.take_add_one, List.getElem?_eq_getElem (by omega), List.getD_eq_getElem?_getD, List.getElem?_eq_getElem (by omega)]
        simp
      rw [e2, e]
    rw [pArgs, if_neg (by omega), if_neg (by rw [List.length_take]; omega), tm]
    simp only [b41, if_true, bh, hx]
  | m + 1, k, i, G, hk, ha, hi, hst, hG => by
    obtain ⟨G, rfl⟩ : ∃ g, G = g + 1 := ⟨G - 1, by omega⟩
    have a1 : At s i (F k) := ha.left
    have a2 := At.right (x := F k) ha
    have a3 := a2.head
    have a4 := a2.tail
    obtain ⟨n1, n2⟩ := hne k (by omega) i a1
    have q : byt s (i + (F k).length) = 44 := a3.2
    have st : Stop s (i + (F k).length) := Or.inr ⟨a3.1, Or.inl q⟩
    have tm := IH k (by omega) i G a1 st (by omega) hi
    have hl : (rst F (m + 1) k).length = (F k).length + 1 + (rst F m (k + 1)).length := by simp [rst]; omega
    have b41 : stands s (i + (F k).length) 41 = false := stands_ne (by omega)
    have b44 : stands s (i + (F k).length) 44 = true := stands_true a3.1 q
    have a5 : At s (i + (F k).length + 1) (F (k + 1)) := by
      cases m with
      | zero => exact a4.left
      | succ m => exact a4.left
    obtain ⟨n3, n4⟩ := hne (k + 1) (by omega) _ a5
    have bh : behind s (i + (F k).length) 44 = i + (F k).length + 1 := by
      rw [behind_true b44]
      exact bl_end fun x => isNm_not n4 x.2
    have hx : xs.take k ++ [xs.getD k 0] = xs.take (k + 1) := by
      rw [List.take_add_one, List.getElem?_eq_getElem (by omega), List.getD_eq_getElem?_getD, List.getElem?_eq_getElem (by omega)]
      simp
    have nx := back_args F xs h4 IH hne m (k + 1) (i + (F k).length + 1) G (by omega) a4 (by omega) (by rw [hl] at hst; rwa [show i + (F k).length + 1 + (rst F m (k + 1)).length = i + ((F k).length + 1 + (rst F m (k + 1)).length) from by omega]) (by omega)
    rw [pArgs, if_neg (by omega), if_neg (by rw [List.length_take]; omega), tm]
    simp only [b41, Bool.false_eq_true, if_false, b44, if_true, bh, hx]
    rw [nx, hl]
    congr 1
    omega

/-- What is shown is read as the term it shows; nothing is added. -/
theorem back {l : List Tm} (hnd : l.Nodup) (hg : Good l) (hn : Nms l) (s : ByteArray) : ∀ (f n : Nat), Hgt l f n → ∀ (above i G : Nat), above + f ≤ 13 → At s i (shw l f n) → Stop s (i + (shw l f n).length) → 2 * (s.size - i) + 1 ≤ G → i ≤ s.size →
    pTerm s G above i l = .ok n (i + (shw l f n).length) l
  | 0, _, h => h.elim
  | f + 1, n, h => by
    intro above i G hab ha hst hG hi
    obtain ⟨G, rfl⟩ : ∃ g, G = g + 1 := ⟨G - 1, by omega⟩
    obtain ⟨t, ht, hargs⟩ := h
    have hk := hn t (List.mem_of_getElem? ht)
    have h4 := hg.four t (List.mem_of_getElem? ht)
    have hnl : t.name.data.toList.length = t.name.size := by simp
    have hsh : shw l (f + 1) n = t.name.data.toList ++ (if t.args.length = 0 then [] else 40 :: (joinTo (fun j => shw l f (t.arg j)) t.args.length ++ [41])) := by rw [shw, ht]
    rw [hsh] at ha hst ⊢
    have a1 : At s i t.name.data.toList := ha.left
    have a2 := ha.right
    rw [hnl] at a2
    by_cases hz : t.args.length = 0
    · rw [if_pos hz, List.append_nil, hnl] at hst ⊢
      obtain ⟨e1, e2⟩ := name_at hk a1 hi hst.nm
      rw [pTerm, e2, e1, hst.bl, hst.open]
      simp only [Bool.false_eq_true, if_false, show ¬ 12 < above from by omega]
      rw [At.extract a1 hi]
      have e3 : (⟨t.name, []⟩ : Tm) = t := by
        cases t with
        | mk nm xs => simp at hz; simp [hz]
      rw [e3]
      exact pEnd_has hnd hg ht _ _
    · rw [if_neg hz] at hst a2 ⊢
      have a3 := a2.head
      have a4 := a2.tail
      obtain ⟨m, hm⟩ : ∃ m, t.args.length = 0 + m + 1 := ⟨t.args.length - 1, by omega⟩
      have hj := rst_join (fun j => shw l f (t.arg j)) m 0
      rw [← hm] at hj
      simp only [joinTo, if_true, List.nil_append] at hj
      rw [hj] at a4 hst ⊢
      have q40 : byt s (i + t.name.size) = 40 := a3.2
      have hnx : ¬ (i + t.name.size < s.size ∧ isNm (byt s (i + t.name.size)) = true) := fun x => by rw [q40] at x; exact absurd x.2 (by decide)
      obtain ⟨e1, e2⟩ := name_at hk a1 hi hnx
      have eb : bl s (i + t.name.size) = i + t.name.size := bl_end fun x => by omega
      have es : stands s (i + t.name.size) 40 = true := stands_true a3.1 q40
      have hne : ∀ k, k < t.args.length → ∀ i, At s i (shw l f (t.arg k)) → i < s.size ∧ isNm (byt s i) = true := fun k hk2 i hA => shw_first hn (hargs _ (arg_mem hk2)) hA
      have a5 : At s (i + t.name.size + 1) (shw l f (t.arg 0)) := by
        cases m with
        | zero => exact a4.left
        | succ m => exact a4.left
      obtain ⟨n1, n2⟩ := hne 0 (by omega) _ a5
      have eh : behind s (i + t.name.size) 40 = i + t.name.size + 1 := by
        rw [behind_true es]
        exact bl_end fun x => isNm_not n2 x.2
      have hlen : i + (t.name.data.toList ++ 40 :: rst (fun j => shw l f (t.arg j)) m 0).length = i + t.name.size + 1 + (rst (fun j => shw l f (t.arg j)) m 0).length := by
        rw [List.length_append, List.length_cons, hnl]
        omega
      rw [hlen] at hst ⊢
      have ar := back_args (l := l) (s := s) (above := above + 1) (fun j => shw l f (t.arg j)) t.args h4 (fun k hk2 i G hA hS hG hi => back hnd hg hn s f (t.arg k) (hargs _ (arg_mem hk2)) (above + 1) i G (by omega) hA hS hG hi) hne m 0 (i + t.name.size + 1) G (by omega) a4 (by omega) hst (by omega)
      rw [List.take_zero] at ar
      rw [pTerm, e2, e1, eb, es, eh]
      simp only [Bool.false_eq_true, if_false, show ¬ 12 < above from by omega, if_true, ar]
      rw [At.extract a1 hi]
      exact pEnd_has hnd hg ht _ _


/-- Args come ahead. -/
def Ahd (l : List Tm) : Prop := ∀ (i : Nat) (t : Tm), l[i]? = some t → ∀ a ∈ t.args, a < i

structure Nq (l : List Tm) : Prop where
  nms : Nms l
  ahd : Ahd l

theorem Nq.add {l : List Tm} (h : Nq l) {t : Tm} (hn : NmOk t.name) (ha : ∀ a ∈ t.args, a < l.length) : Nq (addL l t) := by
  unfold addL
  cases hx : nix l t with
  | some i => exact h
  | none =>
    refine ⟨fun u hu => ?_, fun i u hi a hau => ?_⟩
    · simp only [List.mem_append, List.mem_singleton] at hu
      rcases hu with hu | rfl
      · exact h.nms u hu
      · exact hn
    · by_cases hl : i < l.length
      · rw [List.getElem?_append_left hl] at hi
        exact h.ahd i u hi a hau
      · have hlt := (List.getElem?_eq_some_iff.1 hi).1
        have e : i = l.length := by simp at hlt; omega
        subst e
        simp at hi
        subst hi
        exact ha a hau

theorem p_nq (s : ByteArray) : ∀ f : Nat,
    (∀ above i l n k l', i ≤ s.size → Nq l → pTerm s f above i l = .ok n k l' → Nq l') ∧
    (∀ above i l xs x k l', i ≤ s.size → xs.length ≤ 4 → (∀ a ∈ xs, a < l.length) → Nq l → pArgs s f above i l xs = .ok x k l' → Nq l')
  | 0 => ⟨fun _ _ _ _ _ _ _ _ e => (by rw [pTerm] at e; cases e), fun _ _ _ _ _ _ _ _ _ _ _ e => (by rw [pArgs] at e; cases e)⟩
  | f + 1 => by
    obtain ⟨IT, IA⟩ := p_nq s f
    obtain ⟨GT, GA⟩ := p_grows s f
    obtain ⟨CT, CA⟩ := p_count s f
    constructor
    · intro above i l n k l' hi hq e
      rw [pTerm] at e
      split at e
      · cases e
      · next hb =>
        have hb' : badNm s i = false := by simpa using hb
        have hnm := nm_ok hi hb'
        have h4 := bl_le (nmE_le hi)
        split at e
        · cases e
        · split at e
          · have h6 := behind_le (c := 40) h4
            split at e
            · cases e
            · next xs k2 l2 hx =>
              have A1 := IA _ _ _ _ _ _ _ h6 (by simp) (by simp) hq hx
              obtain ⟨_, _, A3⟩ := CA _ _ _ _ _ _ _ h6 (by simp) (by simp) hx
              unfold pEnd at e
              split at e
              · injection e with e1 e2 e3
                subst e3
                exact A1.add (t := ⟨s.extract i (nmE s i), xs⟩) hnm A3
              · cases e
          · unfold pEnd at e
            split at e
            · injection e with e1 e2 e3
              subst e3
              exact hq.add (t := ⟨s.extract i (nmE s i), []⟩) hnm (by simp)
            · cases e
    · intro above i l xs x k l' hi hx4 hxs hq e
      rw [pArgs] at e
      split at e
      · cases e
      · split at e
        · cases e
        · split at e
          · cases e
          · next n k2 l2 hx =>
            have A1 := IT _ _ _ _ _ _ hi hq hx
            obtain ⟨B0, B1⟩ := GT above i l hi
            obtain ⟨B2, B3⟩ := B1 n k2 l2 hx
            obtain ⟨_, C2⟩ := CT _ _ _ _ _ _ hi hx
            rw [hx] at B0
            have B4 : l.length ≤ l2.length := B0.length_le
            have hl4 : (xs ++ [n]).length ≤ 4 := by simp; omega
            have hxs2 : ∀ a ∈ xs ++ [n], a < l2.length := by
              intro a ha
              rcases List.mem_append.1 ha with ha | ha
              · exact Nat.lt_of_lt_of_le (hxs a ha) B4
              · rw [List.mem_singleton.1 ha]; exact C2
            split at e
            · injection e with e1 e2 e3
              subst e3
              exact A1
            · split at e
              · exact IA _ _ _ _ _ _ _ (behind_le B3) hl4 hxs2 A1 e
              · cases e

theorem Nq.nil : Nq [] := ⟨fun t h => by simp at h, fun i t h => by simp at h⟩
theorem Nq.read {l : List Tm} (h : Nq l) (s : ByteArray) : Nq (pRead s l).2.2.2 := by
  unfold pRead
  split
  · exact h
  · unfold pWhole
    have hb := bl_le (s := s) (i := 0) (by omega)
    split
    · exact h
    · next n k l' hx =>
      split
      · exact h
      · split
        · exact h
        · exact (p_nq s _).1 0 (bl s 0) l n k l' hb h hx

theorem At.whole (x : List UInt8) : At (bt x) 0 x := fun j u hj => by
  have hlt := (List.getElem?_eq_some_iff.1 hj).1
  rw [Nat.zero_add, bt_size, byt_bt, hj]
  exact ⟨hlt, rfl⟩

/-- Reading what is shown. -/
theorem read_back {l : List Tm} (hnd : l.Nodup) (hk : Kp l) (hq : Nq l) {n : Nat} (hn : n < l.length) (hs : (shw l 13 n).length ≤ 400) : pRead (bt (shw l 13 n)) l = (n, 0, 0, l) := by
  have hA := At.whole (shw l 13 n)
  have hH := hk.hs n hn
  have h1 := shw_first hq.nms hH hA
  have hb : bl (bt (shw l 13 n)) 0 = 0 := bl_end fun x => isNm_not h1.2 x.2
  have hz := bt_size (shw l 13 n)
  have tm := back hnd hk.good hq.nms (bt (shw l 13 n)) 13 n hH 0 0 (2 * (bt (shw l 13 n)).size + 1) (by omega) hA (Or.inl (by omega)) (by omega) (by omega)
  have hl := hk.len
  unfold pRead pWhole
  rw [if_neg (by omega), hb, tm]
  simp only [Nat.zero_add]
  rw [if_neg (by omega), if_neg (by omega)]
/-- No two show the same. -/
theorem shw_inj {l : List Tm} (hnd : l.Nodup) (hk : Kp l) (hq : Nq l) {n m : Nat} (hn : n < l.length) (hm : m < l.length) (hs : (shw l 13 n).length ≤ 400) (he : shw l 13 m = shw l 13 n) : m = n := by
  have h1 := read_back hnd hk hq hn hs
  have h2 := read_back hnd hk hq hm (by rw [he]; exact hs)
  rw [he, h1] at h2
  injection h2 with h3
  exact h3.symm

/-- A shown term in a text. -/
theorem lterm_back {l : List Tm} (hnd : l.Nodup) (hk : Kp l) (hq : Nq l) {s : ByteArray} (hs : s.size ≤ 400) {n : Nat} (hn : n < l.length) {i : Nat} (hi : i ≤ s.size) (ha : At s i (shw l 13 n)) (hst : Stop s (i + (shw l 13 n).length)) : lTerm s i l = .ok n (i + (shw l 13 n).length) l := by
  have h1 := shw_first hq.nms (hk.hs n hn) ha
  have hb : bl s i = i := bl_end fun x => isNm_not h1.2 x.2
  rw [lterm_eq s i l hi hb hs (F := 2 * s.size + 1) (by omega), back hnd hk.good hq.nms s 13 n (hk.hs n hn) 0 i (2 * s.size + 1) (by omega) ha hst (by omega) hi]
  have := hk.len
  simp only [rTm]
  rw [if_neg (by omega)]

end Go.Proofs.Ytinphcnknionmaa.Sp

namespace Go.Proofs.Ytinphcnknionmaa.Sp
open Go.RowKit

/-- How deep ( and ! stand in its text. -/
def nestF : Fo → Nat
  | .mk 0 _ _ _ => 0
  | .mk _ _ _ [k] => if k.op = 0 then 0 else nestF k + 1
  | .mk _ _ _ [a, b] => max (nestF a) (nestF b) + 1
  | _ => 0
theorem nestF_neg (k : Fo) : nestF (.mk 1 0 0 [k]) = if k.op = 0 then 0 else nestF k + 1 := by rw [nestF]; simp
theorem nestF_two (o : Int) (ho : o = 2 ∨ o = 3 ∨ o = 4) (a b : Fo) : nestF (.mk o 0 0 [a, b]) = max (nestF a) (nestF b) + 1 := by rcases ho with rfl | rfl | rfl <;> simp [nestF]

/-- A formula ends at k. -/
def Stp (s : ByteArray) (k : Nat) : Prop := k = s.size ∨ (k < s.size ∧ (byt s k = 41 ∨ byt s k = 38 ∨ byt s k = 124 ∨ byt s k = 45))
theorem Stp.stop {s : ByteArray} {k : Nat} (h : Stp s k) : Stop s k := by
  rcases h with e | ⟨h1, e⟩
  · exact Or.inl e
  · exact Or.inr ⟨h1, by omega⟩

theorem byt_out {s : ByteArray} {k : Nat} (h : k = s.size) : byt s k = 0 := by simp [byt, h]

/-- A name's text. -/
theorem shwB_nat {l : List Tm} {x : Int} (h : inB l.length x = true) : ∃ n : Nat, x = (n : Int) ∧ n < l.length ∧ (shwB l x).data.toList = shw l 13 n := by
  obtain ⟨h1, h2⟩ := inB_true h
  refine ⟨x.toNat, by omega, by omega, ?_⟩
  unfold shwB
  rw [if_pos h]

/-- Levels above not. -/
theorem up2 {s : ByteArray} {F d i k : Nat} {l : List Tm} {a : Fo} (h : gp s (F + 1) 3 d i l = .ok a k l) (h1 : ¬ byt s k = 38) : gp s (F + 2) 2 d i l = .ok a k l := by
  rw [gp, if_neg (by omega), if_neg (by omega), h]
  simp only [Res.bind]
  rw [gl, if_neg (by simpa [sgn] using h1)]
theorem up1 {s : ByteArray} {F d i k : Nat} {l : List Tm} {a : Fo} (h : gp s (F + 2) 2 d i l = .ok a k l) (h1 : ¬ byt s k = 124) : gp s (F + 3) 1 d i l = .ok a k l := by
  rw [gp, if_neg (by omega), if_neg (by omega), h]
  simp only [Res.bind]
  rw [gl, if_neg (by simpa [sgn] using h1)]
theorem up0 {s : ByteArray} {F d i k : Nat} {l : List Tm} {a : Fo} (h : gp s (F + 3) 1 d i l = .ok a k l) (h1 : ¬ byt s k = 45) : gp s (F + 4) 0 d i l = .ok a k l := by
  rw [gp, if_pos rfl, h]
  simp only [Res.bind]
  rw [if_neg h1]
theorem up {s : ByteArray} {F d i k : Nat} {l : List Tm} {a : Fo} (h : gp s (F + 1) 3 d i l = .ok a k l) (h1 : ¬ byt s k = 38) (h2 : ¬ byt s k = 124) (h3 : ¬ byt s k = 45) : gp s (F + 4) 0 d i l = .ok a k l := up0 (up1 (up2 h h1) h2) h3

/-- The first byte of a text. -/
theorem shF_first {l : List Tm} (hk : Kp l) (hq : Nq l) {f : Fo} (hw : WfF f) : ∀ g, InF l f → ∀ {s : ByteArray} {i : Nat}, At s i (shF l g f) → i < s.size ∧ bl s i = i := by
  cases hw with
  | eq x y =>
    intro g hin s i ha
    rw [shF_eq] at ha
    have hx := (hin (x, y) (by simp [eqF])).1
    obtain ⟨n, hn, hlt, he⟩ := shwB_nat hx
    rw [he] at ha
    have h1 := shw_first hq.nms (hk.hs n hlt) ha.left.left
    exact ⟨h1.1, bl_end fun x => isNm_not h1.2 x.2⟩
  | neg f hf =>
    intro g hin s i ha
    have h4 : shF l g (.mk 1 0 0 [f]) = if f.op = 0 then shF l [33, 61] f else 33 :: shF l [61] f := by rw [shF]; simp
    rw [h4] at ha
    split at ha
    · next h0 =>
      cases hf with
      | eq x y =>
        rw [shF_eq] at ha
        have hx := (hin (x, y) (by simp [eqF])).1
        obtain ⟨n, hn, hlt, he⟩ := shwB_nat hx
        rw [he] at ha
        have h1 := shw_first hq.nms (hk.hs n hlt) ha.left.left
        exact ⟨h1.1, bl_end fun x => isNm_not h1.2 x.2⟩
      | neg => exact absurd h0 (by simp [Fo.op])
      | two o _ _ ho => exact absurd h0 (by simp [Fo.op]; omega)
    · have h1 := ha.head
      exact ⟨h1.1, bl_end fun x => by have := h1.2; have h2 : byt s i = 33 := h1.2; omega⟩
  | two o a b ho ha hb =>
    intro g hin s i hA
    have h5 : shF l g (.mk o 0 0 [a, b]) = 40 :: (shF l [61] a ++ opS o ++ shF l [61] b ++ [41]) := by rcases ho with rfl | rfl | rfl <;> simp [shF]
    rw [h5] at hA
    have h1 := hA.head
    exact ⟨h1.1, bl_end fun x => by have h2 : byt s i = 40 := h1.2; omega⟩

/-- An equality's text. -/
theorem equ_back {l : List Tm} (hnd : l.Nodup) (hk : Kp l) (hq : Nq l) {s : ByteArray} (hs : s.size ≤ 400) {x y : Int} (hx : inB l.length x = true) (hy : inB l.length y = true) {i d F : Nat} (hi : i ≤ s.size) (neg : Bool)
    (ha : At s i ((shwB l x).data.toList ++ (if neg then [33, 61] else [61]) ++ (shwB l y).data.toList)) (hst : Stp s (i + ((shwB l x).data.toList ++ (if neg then [33, 61] else [61]) ++ (shwB l y).data.toList).length)) :
    gp s (F + 1) 3 d i l = .ok (if neg then .mk 1 0 0 [.mk 0 x y []] else .mk 0 x y []) (i + ((shwB l x).data.toList ++ (if neg then [33, 61] else [61]) ++ (shwB l y).data.toList).length) l := by
  obtain ⟨n, rfl, hn, hen⟩ := shwB_nat hx
  obtain ⟨m, rfl, hm, hem⟩ := shwB_nat hy
  rw [hen, hem] at ha hst ⊢
  have a1 := ha.left.left
  have a2 := ha.left.right
  have a3 := ha.right
  have h1 := shw_first hq.nms (hk.hs n hn) a1
  have b33 : ¬ byt s i = 33 := fun e => by have := h1.2; rw [e] at this; exact absurd this (by decide)
  have b40 : ¬ byt s i = 40 := fun e => by have := h1.2; rw [e] at this; exact absurd this (by decide)
  rw [gp, if_neg (by omega), if_pos rfl, if_neg b33, if_neg b40]
  unfold gEqu
  rw [List.append_assoc, List.length_append] at hst ⊢
  rw [List.length_append] at a3
  generalize hp : i + (shw l 13 n).length = p at *
  have hple : p ≤ s.size := by have := a1.le hi; omega
  cases neg with
  | false =>
    simp only [Bool.false_eq_true, if_false] at a2 a3 hst ⊢
    have q := a2.head
    have q61 : byt s p = 61 := q.2
    have lt1 := lterm_back hnd hk hq hs hn hi a1 (Or.inr ⟨by omega, by rw [hp]; omega⟩)
    rw [lt1, hp]
    simp only [Res.bind]
    have e3 : i + ((shw l 13 n).length + ([61] : List UInt8).length) = p + 1 := by simp; omega
    rw [e3] at a3
    have a3' : At s (p + 1) (shw l 13 m) := a3
    have h3 := shw_first hq.nms (hk.hs m hm) a3'
    have hb3 : bl s (p + 1) = p + 1 := bl_end fun x => isNm_not h3.2 x.2
    have hst' : Stp s (p + 1 + (shw l 13 m).length) := by
      have : i + ((shw l 13 n).length + ([61] ++ shw l 13 m).length) = p + 1 + (shw l 13 m).length := by simp; omega
      rw [this] at hst; exact hst
    have n33 : ¬ byt s p = 33 := by omega
    rw [if_neg n33, if_pos (stands_true q.1 q61), hb3, lterm_back hnd hk hq hs hm (by omega) a3' hst'.stop]
    simp only [if_neg n33]
    have : i + ((shw l 13 n).length + ([61] ++ shw l 13 m).length) = p + 1 + (shw l 13 m).length := by simp; omega
    rw [this]
    rfl
  | true =>
    simp only [if_true] at a2 a3 hst ⊢
    have q := a2.head
    have q33 : byt s p = 33 := q.2
    have q2 := a2.tail.head
    have q61 : byt s (p + 1) = 61 := q2.2
    have lt1 := lterm_back hnd hk hq hs hn hi a1 (Or.inr ⟨by omega, by rw [hp]; omega⟩)
    rw [lt1, hp]
    simp only [Res.bind]
    have e3 : i + ((shw l 13 n).length + ([33, 61] : List UInt8).length) = p + 1 + 1 := by simp; omega
    rw [e3] at a3
    have a3' : At s (p + 1 + 1) (shw l 13 m) := a3
    have h3 := shw_first hq.nms (hk.hs m hm) a3'
    have hb3 : bl s (p + 1 + 1) = p + 1 + 1 := bl_end fun x => isNm_not h3.2 x.2
    have hst' : Stp s (p + 1 + 1 + (shw l 13 m).length) := by
      have : i + ((shw l 13 n).length + ([33, 61] ++ shw l 13 m).length) = p + 1 + 1 + (shw l 13 m).length := by simp; omega
      rw [this] at hst; exact hst
    rw [if_pos q33, if_pos (stands_true q2.1 q61), hb3, lterm_back hnd hk hq hs hm (by omega) a3' hst'.stop]
    simp only [if_pos q33]
    have : i + ((shw l 13 n).length + ([33, 61] ++ shw l 13 m).length) = p + 1 + 1 + (shw l 13 m).length := by simp; omega
    rw [this]
    rfl

set_option maxHeartbeats 1000000 in
/-- What is shown is read so. -/
theorem rd3 {l : List Tm} (hnd : l.Nodup) (hk : Kp l) (hq : Nq l) {s : ByteArray} (hs : s.size ≤ 400) {f : Fo} (hw : WfF f) : InF l f → ∀ i d F, At s i (shF l [61] f) → Stp s (i + (shF l [61] f).length) → i ≤ s.size → d + nestF f ≤ 20 → 6 * (s.size - i) + 2 ≤ F → gp s F 3 d i l = .ok f (i + (shF l [61] f).length) l := by
  induction hw with
  | eq x y =>
    intro hin i d F ha hst hi hd hF
    obtain ⟨F, rfl⟩ : ∃ g, F = g + 1 := ⟨F - 1, by omega⟩
    obtain ⟨hx, hy⟩ := hin (x, y) (by simp [eqF])
    rw [shF_eq] at ha hst ⊢
    exact equ_back hnd hk hq hs hx hy hi false ha hst
  | neg f hf ih =>
    intro hin i d F ha hst hi hd hF
    obtain ⟨F, rfl⟩ : ∃ g, F = g + 1 := ⟨F - 1, by omega⟩
    rw [nestF_neg] at hd
    rw [shF_neg] at ha hst ⊢
    have hin' : InF l f := fun p hp => hin p (by simp [eqF]; exact hp)
    by_cases h0 : f.op = 0
    · rw [if_pos h0] at ha hst ⊢
      cases hf with
      | eq x y =>
        obtain ⟨hx, hy⟩ := hin' (x, y) (by simp [eqF])
        rw [shF_eq] at ha hst ⊢
        exact equ_back hnd hk hq hs hx hy hi true ha hst
      | neg => exact absurd h0 (by simp [Fo.op])
      | two o _ _ ho => exact absurd h0 (by simp [Fo.op]; omega)
    · rw [if_neg h0] at ha hst hd ⊢
      have q := ha.head
      have q33 : byt s i = 33 := q.2
      obtain ⟨f1, f2⟩ := shF_first hk hq hf [61] hin' ha.tail
      have e1 : i + (33 :: shF l [61] f).length = i + 1 + (shF l [61] f).length := by rw [List.length_cons]; omega
      rw [e1] at hst ⊢
      rw [gp, if_neg (by omega), if_pos rfl, if_pos q33, if_neg (by omega), f2, ih hin' (i + 1) (d + 1) F ha.tail hst (by omega) (by omega) (by omega)]
      rfl
  | two o a b ho ha hb iha ihb =>
    intro hin i d F hA hst hi hd hF
    rw [nestF_two o ho] at hd
    rw [shF_two l o 0 0 ho] at hA hst ⊢
    have h0 : ¬ o = 0 := by rcases ho with rfl | rfl | rfl <;> decide
    have hia : InF l a := fun p hp => hin p (by simp [eqF, h0]; exact Or.inl hp)
    have hib : InF l b := fun p hp => hin p (by simp [eqF, h0]; exact Or.inr hp)
    have q := hA.head
    have q40 : byt s i = 40 := q.2
    have t := hA.tail
    have tA := t.left.left.left
    have tS := t.left.left.right
    have tB := t.left.right
    have tC := t.right
    have hlA := tA.le (by omega)
    rw [List.length_append] at tB
    rw [List.length_append, List.length_append] at tC
    obtain ⟨f1, f2⟩ := shF_first hk hq ha [61] hia tA
    obtain ⟨F, rfl⟩ : ∃ g, F = g + 10 := ⟨F - 10, by omega⟩
    generalize hla : (shF l [61] a).length = A at *
    generalize hlb : (shF l [61] b).length = B at *
    have hlen : i + (40 :: (shF l [61] a ++ opS o ++ shF l [61] b ++ [41])).length = i + 1 + (A + (opS o).length + B) + 1 := by
      rw [List.length_cons, List.length_append, List.length_append, List.length_append, hla, hlb]
      simp
      omega
    rw [hlen] at hst ⊢
    have qC := tC.head
    have q41 : byt s (i + 1 + (A + (opS o).length + B)) = 41 := qC.2
    have m1 : nestF a ≤ max (nestF a) (nestF b) := Nat.le_max_left _ _
    have m2 : nestF b ≤ max (nestF a) (nestF b) := Nat.le_max_right _ _
    generalize max (nestF a) (nestF b) = M at *
    rw [gp, if_neg (by omega), if_pos rfl, if_neg (by omega), if_pos q40, if_neg (by omega), f2]
    have key : gp s (F + 9) 0 (d + 1) (i + 1) l = .ok (.mk o 0 0 [a, b]) (i + 1 + (A + (opS o).length + B)) l := by
      have hlB := tB.le (by omega)
      rw [hlb] at hlB
      obtain ⟨g1, g2⟩ := shF_first hk hq hb [61] hib tB
      have r3a := fun G (hG : 6 * (s.size - (i + 1)) + 2 ≤ G) (hS : Stp s (i + 1 + A)) => iha hia (i + 1) (d + 1) G tA hS (by omega) (by omega) hG
      have r3b := fun G (hG : 6 * (s.size - (i + 1 + (A + (opS o).length))) + 2 ≤ G) => ihb hib (i + 1 + (A + (opS o).length)) (d + 1) G tB (by
        rw [show i + 1 + (A + (opS o).length) + B = i + 1 + (A + (opS o).length + B) from by omega]
        exact Or.inr ⟨qC.1, Or.inl q41⟩) (by omega) (by omega) hG
      rw [show i + 1 + (A + (opS o).length) + B = i + 1 + (A + (opS o).length + B) from by omega] at r3b
      generalize hk2 : i + 1 + (A + (opS o).length + B) = k2 at *
      have hqs := tS
      rcases ho with rfl | rfl | rfl
      · have e : opS 2 = [38] := rfl
        rw [e] at tS g2 r3b hk2
        have q38 : byt s (i + 1 + A) = 38 := tS.head.2
        have ea : i + 1 + (A + ([38] : List UInt8).length) = i + 1 + A + 1 := by simp; omega
        rw [ea] at g2 r3b
        have L2 : gp s (F + 7) 2 (d + 1) (i + 1) l = .ok (.mk 2 0 0 [a, b]) k2 l := by
          rw [gp, if_neg (by omega), if_neg (by omega), r3a (F + 6) (by omega) (Or.inr ⟨tS.head.1, by omega⟩)]
          simp only [Res.bind]
          rw [gl, if_pos (show byt s (i + 1 + A) = sgn 2 from q38), g2, r3b (F + 5) (by omega)]
          simp only [Res.bind]
          rw [gl, if_neg (show ¬ byt s k2 = sgn 2 by rw [q41]; decide)]
          rfl
        exact up0 (F := F + 5) (up1 (F := F + 5) L2 (by omega)) (by omega)
      · have e : opS 3 = [124] := rfl
        rw [e] at tS g2 r3b hk2
        have q38 : byt s (i + 1 + A) = 124 := tS.head.2
        have ea : i + 1 + (A + ([124] : List UInt8).length) = i + 1 + A + 1 := by simp; omega
        rw [ea] at g2 r3b
        have L2 := up2 (F := F + 5) (r3a (F + 6) (by omega) (Or.inr ⟨tS.head.1, by omega⟩)) (by omega)
        have M2 := up2 (F := F + 4) (r3b (F + 5) (by omega)) (by omega)
        have L1 : gp s (F + 8) 1 (d + 1) (i + 1) l = .ok (.mk 3 0 0 [a, b]) k2 l := by
          rw [gp, if_neg (by omega), if_neg (by omega), L2]
          simp only [Res.bind]
          rw [gl, if_pos (show byt s (i + 1 + A) = sgn 1 from q38), g2, M2]
          simp only [Res.bind]
          rw [gl, if_neg (show ¬ byt s k2 = sgn 1 by rw [q41]; decide)]
          rfl
        exact up0 (F := F + 5) L1 (by omega)
      · have e : opS 4 = [45, 62] := rfl
        rw [e] at tS g2 r3b hk2
        have q38 : byt s (i + 1 + A) = 45 := tS.head.2
        have q62 := tS.tail.head
        have q62' : byt s (i + 1 + A + 1) = 62 := q62.2
        have ea : i + 1 + (A + ([45, 62] : List UInt8).length) = i + 1 + A + 1 + 1 := by simp; omega
        rw [ea] at g2 r3b
        have L1 := up1 (F := F + 5) (up2 (F := F + 5) (r3a (F + 6) (by omega) (Or.inr ⟨tS.head.1, by omega⟩)) (by omega)) (by omega)
        have M0 := up (F := F + 4) (r3b (F + 5) (by omega)) (by omega) (by omega) (by omega)
        rw [gp, if_pos rfl, L1]
        simp only [Res.bind]
        rw [if_pos q38, if_pos (stands_true q62.1 q62'), g2, M0]
        rfl
    rw [key]
    simp only [Res.bind]
    rw [if_pos (stands_true qC.1 q41), Stop.bl hst.stop]

theorem gParse_back {l : List Tm} (hnd : l.Nodup) (hk : Kp l) (hq : Nq l) {f : Fo} (hw : WfF f) (hin : InF l f) (hs : (shF l [61] f).length ≤ 400) (hn : nestF f ≤ 20) : gParse (ofB (shF l [61] f)) l = (f, 0, 0, l) := by
  have hz : (ofB (shF l [61] f)).size = (shF l [61] f).length := bt_size _
  have hA : At (ofB (shF l [61] f)) 0 (shF l [61] f) := At.whole _
  generalize ofB (shF l [61] f) = s at *
  obtain ⟨h1, h2⟩ := shF_first hk hq hw [61] hin hA
  have r := rd3 hnd hk hq (s := s) (by omega) hw hin 0 0 (6 * s.size + 2) hA (Or.inl (by omega)) (by omega) (by omega) (by omega)
  have b0 : byt s (0 + (shF l [61] f).length) = 0 := byt_out (by omega)
  have r0 := up (F := 6 * s.size + 1) r (by omega) (by omega) (by omega)
  unfold gParse gWhole
  rw [if_neg (by omega), h2, r0]
  simp only
  rw [if_neg (by omega)]

end Go.Proofs.Ytinphcnknionmaa.Sp
