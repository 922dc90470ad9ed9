/- TermBack: what is shown, as bytes of a text. -/
import Derived.Test.YtjfekcjhflcnaaaRefN
namespace Go.Proofs.Ytjfekcjhflcnaaa
open Go.RowKit

theorem byt_bt (l : List UInt8) (i : Nat) : byt (bt l) i = (l[i]?.map UInt8.toNat).getD 0 := by
  unfold byt
  by_cases h : i < l.length
  · have h' : i < (bt l).size := by rw [bt_size]; exact h
    rw [dif_pos h', List.getElem?_eq_getElem h]
    simp [bt]
    rfl
  · have h' : ¬ i < (bt l).size := by rw [bt_size]; exact h
    rw [dif_neg h', List.getElem?_eq_none (by omega)]
    rfl

/-- A name as the bank has it: letters and digits, the first a letter. -/
def NmOk (n : ByteArray) : Prop := 0 < n.size ∧ n.size ≤ 6 ∧ (∀ i, i < n.size → isNm (byt n i) = true) ∧ isDig (byt n 0) = false

theorem nmE_run {s : ByteArray} {i k : Nat} (hk : i + k ≤ s.size) (h : ∀ j, j < k → isNm (byt s (i + j)) = true) (he : ¬ (i + k < s.size ∧ isNm (byt s (i + k)) = true)) : nmE s i = i + k := by
  induction k generalizing i with
  | zero => exact nmE_end he
  | succ k ih =>
    rw [nmE_at (by omega) (by simpa using h 0 (by omega)), ih (by omega) (fun j hj => by have := h (j + 1) (by omega); rwa [show i + 1 + j = i + (j + 1) from by omega]) (by rwa [show i + 1 + k = i + (k + 1) from by omega])]
    omega

/-- The name that is read is one. -/
theorem nm_run {s : ByteArray} {i : Nat} : ∀ j, i ≤ j → j < nmE s i → isNm (byt s j) = true := by
  induction i using nmE.induct s with
  | case1 i h ih =>
    intro j h1 h2
    rw [nmE_at h.1 h.2] at h2
    by_cases e : j = i
    · rw [e]; exact h.2
    · exact ih j (by omega) h2
  | case2 i h =>
    intro j h1 h2
    rw [nmE_end h] at h2
    omega
theorem byt_extract {s : ByteArray} {i k j : Nat} (hk : k ≤ s.size) (hj : i + j < k) : byt (s.extract i k) j = byt s (i + j) := by
  have h1 : (s.extract i k).size = k - i := ext_size (by omega) hk
  unfold byt
  rw [dif_pos (by omega), dif_pos (by omega)]
  simp [ByteArray.getElem_extract]
theorem nm_ok {s : ByteArray} {i : Nat} (hi : i ≤ s.size) (h : badNm s i = false) : NmOk (s.extract i (nmE s i)) := by
  have h1 := nm_lt h
  have h2 := nmE_le hi
  have h3 := nm_small h hi
  have h4 : (s.extract i (nmE s i)).size = nmE s i - i := ext_size (by omega) h2
  refine ⟨by omega, h3, fun j hj => ?_, ?_⟩
  · rw [byt_extract h2 (by omega)]
    exact nm_run (i := i) _ (by omega) (by omega)
  · rw [byt_extract h2 (by omega)]
    cases hd : isDig (byt s (i + 0)) with
    | false => rfl
    | true =>
      rw [Nat.add_zero] at hd
      simp [badNm, hd] at h

/-- The bytes x stand in s from i on. -/
def At (s : ByteArray) (i : Nat) (x : List UInt8) : Prop := ∀ j u, x[j]? = some u → i + j < s.size ∧ byt s (i + j) = u.toNat
theorem At.left {s : ByteArray} {i : Nat} {x y : List UInt8} (h : At s i (x ++ y)) : At s i x := fun j u hj => h j u (by rw [List.getElem?_append_left (List.getElem?_eq_some_iff.1 hj).1]; exact hj)
theorem At.right {s : ByteArray} {i : Nat} {x y : List UInt8} (h : At s i (x ++ y)) : At s (i + x.length) y := fun j u hj => by
  have := h (x.length + j) u (by rw [List.getElem?_append_right (by omega)]; simpa using hj)
  rwa [show i + x.length + j = i + (x.length + j) from by omega]
theorem At.le {s : ByteArray} {i : Nat} {x : List UInt8} (h : At s i x) (hi : i ≤ s.size) : i + x.length ≤ s.size := by
  by_cases hx : x.length = 0
  · omega
  · have hlt : x.length - 1 < x.length := by omega
    have := (h (x.length - 1) x[x.length - 1] (List.getElem?_eq_getElem hlt)).1
    omega
theorem At.head {s : ByteArray} {i : Nat} {u : UInt8} {x : List UInt8} (h : At s i (u :: x)) : i < s.size ∧ byt s i = u.toNat := by simpa using h 0 u rfl
theorem At.tail {s : ByteArray} {i : Nat} {u : UInt8} {x : List UInt8} (h : At s i (u :: x)) : At s (i + 1) x := fun j v hj => by
  have := h (j + 1) v (by simpa using hj)
  rwa [show i + 1 + j = i + (j + 1) from by omega]

theorem At.extract {s : ByteArray} {i : Nat} {n : ByteArray} (h : At s i n.data.toList) (hi : i ≤ s.size) : s.extract i (i + n.size) = n := by
  have hl : n.data.toList.length = n.size := by simp
  have hle := h.le hi
  rw [hl] at hle
  apply toList_name
  rw [ByteArray.toList_eq, ByteArray.toList_eq]
  apply List.ext_getElem
  · have := ext_size (s := s) (i := i) (k := i + n.size) (by omega) hle
    have e1 : (s.extract i (i + n.size)).data.toList.length = (s.extract i (i + n.size)).size := by rw [Array.length_toList]; rfl
    rw [e1, this, hl]
    omega
  · intro j h1 h2
    have h3 : j < n.size := by rw [← hl]; exact h2
    obtain ⟨h4, h5⟩ := h j n.data.toList[j] (List.getElem?_eq_getElem h2)
    have e := byt_extract (s := s) (i := i) (k := i + n.size) (j := j) hle (by omega)
    rw [h5] at e
    have h6 : j < (s.extract i (i + n.size)).size := by
      rw [ext_size (by omega) hle]; omega
    have e2 : byt (s.extract i (i + n.size)) j = ((s.extract i (i + n.size)).data.toList[j]).toNat := by
      rw [← byt_lt h6]; rfl
    rw [e2] at e
    exact UInt8.toNat_inj.1 e

/-- A term ends at k. -/
def Stop (s : ByteArray) (k : Nat) : Prop := k = s.size ∨ (k < s.size ∧ (byt s k = 44 ∨ byt s k = 41))
theorem Stop.bl {s : ByteArray} {k : Nat} (h : Stop s k) : bl s k = k := bl_end fun x => by rcases h with e | ⟨_, e | e⟩ <;> omega
theorem Stop.nm {s : ByteArray} {k : Nat} (h : Stop s k) : ¬ (k < s.size ∧ isNm (byt s k) = true) := fun x => by
  rcases h with e | ⟨_, e | e⟩
  · omega
  · rw [e] at x; exact absurd x.2 (by decide)
  · rw [e] at x; exact absurd x.2 (by decide)
theorem Stop.open {s : ByteArray} {k : Nat} (h : Stop s k) : stands s k 40 = false := decide_eq_false fun x => by rcases h with e | ⟨_, e | e⟩ <;> omega
theorem isNm_not {c : Nat} (h : isNm c = true) : c ≠ 32 := fun e => by rw [e] at h; exact absurd h (by decide)

/-- What the bank's names keep to. -/
def Nms (l : List Tm) : Prop := ∀ t ∈ l, NmOk t.name

theorem name_at {s : ByteArray} {i : Nat} {n : ByteArray} (hn : NmOk n) (h : At s i n.data.toList) (hi : i ≤ s.size) (he : ¬ (i + n.size < s.size ∧ isNm (byt s (i + n.size)) = true)) : nmE s i = i + n.size ∧ badNm s i = false := by
  have hl : n.data.toList.length = n.size := by simp
  have hle := h.le hi
  rw [hl] at hle
  have hb : ∀ j, j < n.size → byt s (i + j) = byt n j := fun j hj => by
    have hj' : j < n.data.toList.length := by omega
    rw [(h j n.data.toList[j] (List.getElem?_eq_getElem hj')).2, ← byt_lt hj]
    rfl
  have h1 := nmE_run (s := s) (i := i) (k := n.size) hle (fun j hj => by rw [hb j hj]; exact hn.2.2.1 j hj) he
  refine ⟨h1, ?_⟩
  have h2 : isDig (byt s i) = false := by
    have := hb 0 hn.1
    rw [Nat.add_zero] at this
    rw [this]; exact hn.2.2.2
  have h3 := hn.1
  have h4 := hn.2.1
  unfold badNm
  rw [h1, h2, decide_eq_false (by omega), decide_eq_false (by omega)]
  rfl

theorem shw_first {l : List Tm} (hn : Nms l) {f n : Nat} (h : Hgt l f n) {s : ByteArray} {i : Nat} (ha : At s i (shw l f n)) : i < s.size ∧ isNm (byt s i) = true := by
  cases f with
  | zero => exact h.elim
  | succ f =>
    obtain ⟨t, ht, _⟩ := h
    rw [shw, ht] at ha
    have hk := hn t (List.mem_of_getElem? ht)
    have hl : 0 < t.name.data.toList.length := by simpa using hk.1
    obtain ⟨h1, h2⟩ := ha.left 0 t.name.data.toList[0] (List.getElem?_eq_getElem hl)
    rw [Nat.add_zero] at h1 h2
    refine ⟨h1, ?_⟩
    have h3 := hk.2.2.1 0 hk.1
    rw [h2]
    rw [← byt_lt hk.1] at h3
    exact h3
