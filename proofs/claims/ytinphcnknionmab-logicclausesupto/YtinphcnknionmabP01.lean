/- Package find: hang. Package term: the reader's small functions: skipBlanks, isLetter, isDigit. Package term: name. Package term: the two maps' keys. -/
import Derived.Test.YtinphcnknionmabP00
import Derived.Laws.Closers25b
import Derived.Maps.OwnSet
import Derived.DeepKeys4
namespace Go.Proofs.Ytinphcnknionmab
open Go.RowKit

/-- All blocks but those of S are as they were. -/
structure Kept (S : Nat → Prop) (w w' : World) : Prop where
  os : w'.os = w.os
  tape : w'.tape = w.tape
  output : w'.output = w.output
  size : w.heap.size ≤ w'.heap.size
  block : ∀ k, k < w.heap.size → ¬ S k → w'.heap[k]? = w.heap[k]?

theorem Kept.refl (S : Nat → Prop) (w : World) : Kept S w w := ⟨rfl, rfl, rfl, Nat.le_refl _, fun _ _ _ => rfl⟩
theorem Kept.trans {S : Nat → Prop} {a b c : World} (h : Kept S a b) (k : Kept S b c) : Kept S a c :=
  ⟨k.os.trans h.os, k.tape.trans h.tape, k.output.trans h.output, Nat.le_trans h.size k.size, fun i hi hs => (k.block i (Nat.lt_of_lt_of_le hi h.size) hs).trans (h.block i hi hs)⟩
theorem Kept.mono {S T : Nat → Prop} {w w' : World} (h : Kept S w w') (hst : ∀ k, k < w.heap.size → S k → T k) : Kept T w w' :=
  ⟨h.os, h.tape, h.output, h.size, fun k hk hs => h.block k hk (fun x => hs (hst k hk x))⟩
theorem Kept.drewN {S : Nat → Prop} {a w : World} (h : Kept S a w) (m : Nat) : Kept S a (w.drewN m) := ⟨h.os, h.tape, h.output, h.size, h.block⟩
theorem Kept.drew {S : Nat → Prop} {a w : World} (h : Kept S a w) : Kept S a w.drew := ⟨h.os, h.tape, h.output, h.size, h.block⟩
theorem Kept.setCell {S : Nat → Prop} {a w : World} (h : Kept S a w) {p : Addr} (hp : S p.block) (u : Value) : Kept S a (w.setCell p u) :=
  h.trans ⟨rfl, rfl, rfl, by simp [World.setCell], fun k _ hs => Below.heap_setCell _ _ _ _ (fun e => hs (e ▸ hp))⟩
theorem Kept.alloc {S : Nat → Prop} {a w : World} (h : Kept S a w) (o : Obj) : Kept S a (w.alloc o) :=
  h.trans ⟨rfl, rfl, rfl, by simp, fun k hk _ => Below.heap_alloc _ _ _ hk⟩
theorem Kept.grown {S : Nat → Prop} {a w w' : World} {row : Option Nat} (h : Kept S a w) (hg : w.grownBy w' row) (hr : ∀ k, row = some k → S k) : Kept S a w' :=
  h.trans ⟨hg.os, hg.tape, hg.output, hg.size, fun k hk hs => hg.block k hk (fun e => hs (hr k e.symm))⟩
theorem Kept.below {S : Nat → Prop} {w w' : World} {B : Nat} (h : Kept S w w') (hB : B ≤ w.heap.size) (hs : ∀ k, S k → B ≤ k) : Below B w w' :=
  ⟨h.os, h.tape, h.output, h.size, fun k hk => h.block k (by omega) (fun x => by have := hs k x; omega)⟩

abbrev Kept1 (nb : Nat) (w w' : World) : Prop := Kept (fun k => k = nb) w w'
theorem Kept1.set {nb : Nat} {a w : World} (h : Kept1 nb a w) (o : Nat) (u : Value) : Kept1 nb a (w.setCell ⟨nb, o, none⟩ u) := Kept.setCell h rfl u

theorem Kept1.grownBy {nb : Nat} {w w' : World} (h : Kept1 nb w w') : w.grownBy w' (some nb) :=
  ⟨h.os, h.tape, h.output, h.size, fun k hk hs => h.block k hk (fun e => hs (by rw [e]))⟩

theorem quarters (j : Nat) : ∃ q, j = q * 4 ∨ j = q * 4 + 1 ∨ j = q * 4 + 2 ∨ j = q * 4 + 3 := ⟨j / 4, by omega⟩

theorem hang_cells (g : Uf.G) (c r : Nat) (hne : c ≠ r) (j : Nat) :
    (if j = r * 4 + 3 then .int .i64 (if (g.N c).lst < (g.N r).lst then ((g.N c).lst : Int) else ((g.N r).lst : Int)) else if j = r * 4 + 2 then .int .i64 ((g.N r).siz + (g.N c).siz : Int) else if j = r * 4 + 1 then .int .i64 ((g.N c).nxt : Int) else if j = c * 4 + 1 then .int .i64 ((g.N r).nxt : Int) else if j = c * 4 then .int .i64 (r : Int) else nodeC g j) = nodeC (Uf.hang g c r) j := by
  obtain ⟨q, hq⟩ := quarters j
  by_cases e1 : q = c
  · subst e1
    rcases hq with rfl | rfl | rfl | rfl
    · rw [if_neg (by omega), if_neg (by omega), if_neg (by omega), if_neg (by omega), if_pos rfl, nodeC_par]; simp [Uf.hang]
    · rw [if_neg (by omega), if_neg (by omega), if_neg (by omega), if_pos rfl, nodeC_nxt]; simp [Uf.hang]
    · rw [if_neg (by omega), if_neg (by omega), if_neg (by omega), if_neg (by omega), if_neg (by omega), nodeC_siz, nodeC_siz]; simp [Uf.hang]
    · rw [if_neg (by omega), if_neg (by omega), if_neg (by omega), if_neg (by omega), if_neg (by omega), nodeC_lst, nodeC_lst]; simp [Uf.hang]
  · by_cases e2 : q = r
    · subst e2
      rcases hq with rfl | rfl | rfl | rfl
      · rw [if_neg (by omega), if_neg (by omega), if_neg (by omega), if_neg (by omega), if_neg (by omega), nodeC_par, nodeC_par]; simp [Uf.hang, e1]
      · rw [if_neg (by omega), if_neg (by omega), if_pos rfl, nodeC_nxt]; simp [Uf.hang, e1]
      · rw [if_neg (by omega), if_pos rfl, nodeC_siz]; simp [Uf.hang, e1]
      · rw [if_pos rfl, nodeC_lst]; simp only [Uf.hang, e1, if_false, if_true]; split <;> (congr 1; omega)
    · have e : (Uf.hang g c r).N q = g.N q := by simp [Uf.hang, e1, e2]
      rcases hq with rfl | rfl | rfl | rfl
      · rw [if_neg (by omega), if_neg (by omega), if_neg (by omega), if_neg (by omega), if_neg (by omega), nodeC_par, nodeC_par, e]
      · rw [if_neg (by omega), if_neg (by omega), if_neg (by omega), if_neg (by omega), if_neg (by omega), nodeC_nxt, nodeC_nxt, e]
      · rw [if_neg (by omega), if_neg (by omega), if_neg (by omega), if_neg (by omega), if_neg (by omega), nodeC_siz, nodeC_siz, e]
      · rw [if_neg (by omega), if_neg (by omega), if_neg (by omega), if_neg (by omega), if_neg (by omega), nodeC_lst, nodeC_lst, e]

end Go.Proofs.Ytinphcnknionmab

namespace Go.Proofs.Ytinphcnknionmab
open Go.RowKit

/-- The byte at i; 0 behind the end. -/
def byt (s : ByteArray) (i : Nat) : Nat := if h : i < s.size then (s[i]).toNat else 0
theorem byt_lt {s : ByteArray} {i : Nat} (h : i < s.size) : (s[i]).toNat = byt s i := by simp [byt, h]

/-- Where the blanks from i on end. -/
def bl (s : ByteArray) (i : Nat) : Nat := if h : i < s.size ∧ byt s i = 32 then bl s (i + 1) else i
termination_by s.size - i
decreasing_by omega

theorem bl_at {s : ByteArray} {i : Nat} (h : i < s.size) (hb : byt s i = 32) : bl s i = bl s (i + 1) := by rw [bl]; simp [h, hb]
theorem bl_end {s : ByteArray} {i : Nat} (h : ¬ (i < s.size ∧ byt s i = 32)) : bl s i = i := by rw [bl]; simp [h]
theorem bl_ge (s : ByteArray) (i : Nat) : i ≤ bl s i := by
  induction i using bl.induct s with
  | case1 i h ih => rw [bl_at h.1 h.2]; omega
  | case2 i h => rw [bl_end h]; omega
theorem bl_le {s : ByteArray} {i : Nat} (hi : i ≤ s.size) : bl s i ≤ s.size := by
  induction i using bl.induct s with
  | case1 i h ih => rw [bl_at h.1 h.2]; exact ih (by omega)
  | case2 i h => rw [bl_end h]; exact hi

def readerC (bp : Value) (s : ByteArray) (i : Nat) (j : Nat) : Value := if j = 0 then bp else if j = 1 then .string s else .int .i64 (i : Int)

/-- A reader at block r. -/
structure Rd (w : World) (r : Nat) (bp : Value) (s : ByteArray) (i : Nat) : Prop where
  row : w.rowIs r 138 3 (readerC bp s i)
  le : i ≤ s.size
  small : s.size ≤ 400

theorem Rd.c0 {w : World} {r : Nat} {bp : Value} {s : ByteArray} {i : Nat} (h : Rd w r bp s i) : w.cell? ⟨r, 0, none⟩ = some bp := h.row.cell (by omega)
theorem Rd.c1 {w : World} {r : Nat} {bp : Value} {s : ByteArray} {i : Nat} (h : Rd w r bp s i) : w.cell? ⟨r, 1, none⟩ = some (.string s) := h.row.cell (i := 1) (by omega)
theorem Rd.c2 {w : World} {r : Nat} {bp : Value} {s : ByteArray} {i : Nat} (h : Rd w r bp s i) : w.cell? ⟨r, 2, none⟩ = some (.int .i64 (i : Int)) := h.row.cell (i := 2) (by omega)
theorem Rd.drewN {w : World} {r : Nat} {bp : Value} {s : ByteArray} {i : Nat} (h : Rd w r bp s i) (m : Nat) : Rd (w.drewN m) r bp s i := ⟨h.row, h.le, h.small⟩
theorem Rd.step {w : World} {r : Nat} {bp : Value} {s : ByteArray} {i : Nat} (h : Rd w r bp s i) {k : Nat} (hk : k ≤ s.size) : Rd (w.setCell ⟨r, 2, none⟩ (.int .i64 (k : Int))) r bp s k :=
  ⟨(h.row.set 2 _).congr (fun j hj => by
    rcases (by omega : j = 0 ∨ j = 1 ∨ j = 2) with rfl | rfl | rfl <;> simp [readerC]), hk, h.small⟩

def isLet (c : Nat) : Bool := decide (97 ≤ c ∧ c ≤ 122)
def isDig (c : Nat) : Bool := decide (48 ≤ c ∧ c ≤ 57)
theorem isLet_lt {c : Nat} (h : (c : Int) < 97) : false = isLet c := (decide_eq_false (by omega)).symm
theorem isLet_ge {c : Nat} (h : (97 : Int) ≤ c) : decide ((c : Int) ≤ 122) = isLet c := by
  unfold isLet; exact decide_eq_decide.2 (by omega)
theorem isDig_lt {c : Nat} (h : (c : Int) < 48) : false = isDig c := (decide_eq_false (by omega)).symm
theorem isDig_ge {c : Nat} (h : (48 : Int) ≤ c) : decide ((c : Int) ≤ 57) = isDig c := by
  unfold isDig; exact decide_eq_decide.2 (by omega)

set_option maxHeartbeats 400000 in
theorem letter_any (w : World) (c : Nat) :
    Calls Try.prog 85 #[.int .u8 c] w fun e w' => e = .returned (.bool (isLet c)) ∧ w = w' := by
  go_enter Try.func85, Try.ntmps85
  go_wp2
  · go_ret
    exact ⟨ret_bool (isLet_ge ‹_›), rfl⟩
  · go_ret
    exact ⟨ret_bool (isLet_lt ‹_›), rfl⟩

set_option maxHeartbeats 400000 in
theorem digit_any (w : World) (c : Nat) :
    Calls Try.prog 86 #[.int .u8 c] w fun e w' => e = .returned (.bool (isDig c)) ∧ w = w' := by
  go_enter Try.func86, Try.ntmps86
  go_wp2
  · go_ret
    exact ⟨ret_bool (isDig_ge ‹_›), rfl⟩
  · go_ret
    exact ⟨ret_bool (isDig_lt ‹_›), rfl⟩

set_option maxHeartbeats 400000 in
theorem blanks_in (w : World) (r : Nat) (bp : Value) (s : ByteArray) (i : Nat) (h : Rd w r bp s i) :
    Calls Try.prog 77 #[.pointer (some ⟨r, 0, none⟩)] w fun e w' => e = .returned (.tuple #[]) ∧ Rd w' r bp s (bl s i) ∧ Kept1 r w w' := by
  have hs := h.small
  go_enter Try.func77, Try.ntmps77
  go_wp2
  go_loopw [] (fun W => ∃ k : Nat, Rd W r bp s k ∧ Hid (bl s k = bl s i) ∧ Hid (Kept1 r w W)) (fun W => s.size - (match W.cell? ⟨r, 2, none⟩ with | some v => (intOf v).toNat | none => 0))
  case atStart => exact ⟨i, h, rfl, Kept.refl _ w⟩
  case round =>
    obtain ⟨k, hR, hb, hK⟩ := hrel
    have c1 := hR.c1
    have c2 := hR.c2
    have f2 := hR.row.frozen 2
    have hle := hR.le
    by_cases h1 : k < s.size
    · by_cases h2 : byt s k = 32
      · have d1 : decide ((k : Int) < s.size) = true := decide_eq_true (by omega)
        have e2 : (s[k]).toNat = 32 := (byt_lt h1).trans h2
        go_wp2_with fail
        go_quiet (fail)
        go_wp2_with fail
        refine ⟨⟨k + 1, ?_, (bl_at h1 h2).symm.trans hb, Kept1.set (hK.drewN _) _ _⟩, ?_⟩
        · have := (hR.drewN nq).step (k := k + 1) (by omega)
          simpa using this
        · have hn := ((hR.drewN nq).step (k := k + 1) (by omega)).c2
          have hn' : ((wr.drewN nq).setCell ⟨r, 2, none⟩ (.int .i64 ((k : Int) + 1))).cell? ⟨r, 2, none⟩ = some (.int .i64 ((k : Int) + 1)) := by simpa using hn
          rw [c2, hn']
          simp only [intOf]
          omega
      · have d1 : decide ((k : Int) < s.size) = true := decide_eq_true (by omega)
        have e2 : ¬ (s[k]).toNat = 32 := fun e => h2 ((byt_lt h1).symm.trans e)
        go_wp2_with fail
        go_quiet (fail)
        go_wp2_with fail
        go_end0
        have e : bl s i = k := hb.symm.trans (bl_end (fun x => h2 x.2))
        exact ⟨rfl, e ▸ hR.drewN nq, Kept.drewN hK nq⟩
    · have d1 : decide ((k : Int) < s.size) = false := decide_eq_false (by omega)
      go_wp2_with fail
      go_quiet (fail)
      go_wp2_with fail
      go_end0
      have e : bl s i = k := hb.symm.trans (bl_end (fun x => h1 x.1))
      exact ⟨rfl, e ▸ hR.drewN nq, Kept.drewN hK nq⟩

/-- What refuse panics with. -/
def refusalV (e p : Int) : Value := .iface 142 (.agg #[.int .i64 e, .int .i64 p])

set_option maxHeartbeats 400000 in
theorem refuse_any (w : World) (e p : Int) :
    Calls Try.prog 79 #[.int .i64 e, .int .i64 p] w fun x w' => x = .panicked [{ v := refusalV e p, recovered := false }] ∧ w = w' := by
  go_enter Try.func79, Try.ntmps79
  go_wp2
  exact ⟨rfl, rfl, rfl⟩

/-- Does c stand at i? -/
def stands (s : ByteArray) (i c : Nat) : Bool := decide (i < s.size ∧ byt s i = c)
/-- Where it goes on behind it. -/
def behind (s : ByteArray) (i c : Nat) : Nat := if stands s i c then bl s (i + 1) else i
theorem stands_true {s : ByteArray} {i c : Nat} (h : i < s.size) (hb : byt s i = c) : stands s i c = true := decide_eq_true ⟨h, hb⟩
theorem stands_ne {s : ByteArray} {i c : Nat} (hb : ¬ byt s i = c) : stands s i c = false := decide_eq_false fun x => hb x.2
theorem stands_end {s : ByteArray} {i c : Nat} (h : ¬ i < s.size) : stands s i c = false := decide_eq_false fun x => h x.1
theorem behind_true {s : ByteArray} {i c : Nat} (h : stands s i c = true) : behind s i c = bl s (i + 1) := by simp [behind, h]
theorem behind_false {s : ByteArray} {i c : Nat} (h : stands s i c = false) : behind s i c = i := by simp [behind, h]

set_option maxHeartbeats 400000 in
theorem sign_in (w : World) (r : Nat) (bp : Value) (s : ByteArray) (i : Nat) (h : Rd w r bp s i) (c : Nat) :
    Calls Try.prog 81 #[.pointer (some ⟨r, 0, none⟩), .int .u8 c] w fun e w' =>
      e = .returned (.bool (stands s i c)) ∧ Rd w' r bp s (behind s i c) ∧ Kept1 r w w' := by
  have hs := h.small
  have c1 := h.c1
  have c2 := h.c2
  have f2 := h.row.frozen 2
  have hle := h.le
  go_enter Try.func81, Try.ntmps81
  by_cases h1 : i < s.size
  · have d2 : ¬ ((i : Int) = s.size) := by omega
    by_cases h2 : byt s i = c
    · have e2 : (s[i]).toNat = c := (byt_lt h1).trans h2
      have hst := stands_true h1 h2
      go_wp2_with fail
      go_quiet (fail)
      go_wp2_with (go_at_call 77; refine (blanks_in _ _ _ _ _ (Rd.step (Rd.drewN h nq) (k := i + 1) (by omega))).mono ?_; rintro e w2 ⟨rfl, hR, hK⟩)
      go_ret
      exact ⟨ret_bool (stands_true h1 h2).symm, by rw [behind_true (stands_true h1 h2)]; exact hR, Kept.trans (Kept1.set (Kept.drewN (Kept.refl _ w) nq) _ _) hK⟩
    · have e2 : ¬ (s[i]).toNat = c := fun e => h2 ((byt_lt h1).symm.trans e)
      have e3 : (((s[i]).toNat : Int) != (c : Int)) = true := by simp; omega
      have e4 : ((i : Int) == (s.size : Int)) = false := by simp; omega
      have hst := stands_ne h2
      go_wp2_with fail
      go_quiet (fail)
      go_wp2_with fail
      go_ret
      exact ⟨ret_bool (stands_ne h2).symm, by rw [behind_false (stands_ne h2)]; exact h.drewN nq, Kept.drewN (Kept.refl _ w) nq⟩
  · have d2 : (i : Int) = s.size := by omega
    have hst : stands s i c = false := stands_end h1
    go_wp2_with fail
    go_quiet (fail)
    go_wp2_with fail
    go_ret
    exact ⟨ret_bool (stands_end h1).symm, by rw [behind_false (stands_end h1)]; exact h.drewN nq, Kept.drewN (Kept.refl _ w) nq⟩

end Go.Proofs.Ytinphcnknionmab

namespace Go.Proofs.Ytinphcnknionmab
open Go.RowKit

def isNm (c : Nat) : Bool := isLet c || isDig c
/-- Where the letters and digits from i on end. -/
def nmE (s : ByteArray) (i : Nat) : Nat := if h : i < s.size ∧ isNm (byt s i) = true then nmE s (i + 1) else i
termination_by s.size - i
decreasing_by omega
theorem nmE_at {s : ByteArray} {i : Nat} (h : i < s.size) (hb : isNm (byt s i) = true) : nmE s i = nmE s (i + 1) := by rw [nmE]; simp [h, hb]
theorem nmE_end {s : ByteArray} {i : Nat} (h : ¬ (i < s.size ∧ isNm (byt s i) = true)) : nmE s i = i := by rw [nmE]; simp [h]
theorem nmE_ge (s : ByteArray) (i : Nat) : i ≤ nmE s i := by
  induction i using nmE.induct s with
  | case1 i h ih => rw [nmE_at h.1 h.2]; omega
  | case2 i h => rw [nmE_end h]; omega
theorem nmE_le {s : ByteArray} {i : Nat} (hi : i ≤ s.size) : nmE s i ≤ s.size := by
  induction i using nmE.induct s with
  | case1 i h ih => rw [nmE_at h.1 h.2]; exact ih (by omega)
  | case2 i h => rw [nmE_end h]; exact hi

/-- No name stands at i. -/
def badNm (s : ByteArray) (i : Nat) : Bool := decide (nmE s i = i) || decide (6 < nmE s i - i) || isDig (byt s i)

theorem ext_size {s : ByteArray} {i k : Nat} (h : i ≤ k) (hk : k ≤ s.size) : (s.extract i k).size = k - i := by simp [ByteArray.size_extract]; omega
theorem ext0 {s : ByteArray} {i k : Nat} (h : i < k) (hk : k ≤ s.size) (hz : 0 < (s.extract i k).size) : (s.extract i k)[0] = s[i] := by simp [ByteArray.getElem_extract]
theorem ext_nil {s : ByteArray} {i k : Nat} (h : i ≤ k) (hk : k ≤ s.size) : (s.extract i k).toList = [] ↔ i = k := by
  rw [toList_nil_iff_emptyBytes, ByteArray.extract_eq_empty_iff]; omega

def NamePost (w : World) (r : Nat) (bp : Value) (s : ByteArray) (i : Nat) (e : Ending) (w' : World) : Prop :=
  Kept1 r w w' ∧ ((badNm s i = true ∧ e = .panicked [{ v := refusalV 2 i, recovered := false }] ∧ ∃ k, Rd w' r bp s k) ∨
    (badNm s i = false ∧ e = .returned (.string (s.extract i (nmE s i))) ∧ Rd w' r bp s (bl s (nmE s i))))

set_option maxHeartbeats 2000000 in
theorem name_in (w : World) (r : Nat) (bp : Value) (s : ByteArray) (i : Nat) (h : Rd w r bp s i) :
    Calls Try.prog 80 #[.pointer (some ⟨r, 0, none⟩)] w (NamePost w r bp s i) := by
  have hs := h.small
  have c2 := h.c2
  go_enter Try.func80, Try.ntmps80
  go_wp2
  go_loopw [] (fun W => ∃ k : Nat, Rd W r bp s k ∧ Hid (nmE s k = nmE s i) ∧ Hid (Kept1 r w W)) (fun W => s.size - (match W.cell? ⟨r, 2, none⟩ with | some v => (intOf v).toNat | none => 0))
  case atStart => exact ⟨i, h, rfl, Kept.refl _ w⟩
  case round =>
    obtain ⟨k, hR, hb, hK⟩ := hrel
    have c1 := hR.c1
    clear c2
    have c2 := hR.c2
    have f2 := hR.row.frozen 2
    have hle := hR.le
    by_cases h1 : k < s.size
    · have d1 : decide ((k : Int) < s.size) = true := decide_eq_true (by omega)
      have LET : ∀ m, Calls Try.prog 85 #[.int .u8 ((s[k]).toNat : Nat)] (wr.drewN m) fun e w' => e = .returned (.bool (isLet (byt s k))) ∧ w' = wr.drewN m := fun m => (letter_any _ _).mono fun _ _ x => ⟨by rw [x.1, byt_lt h1], x.2.symm⟩
      have DIG : ∀ m, Calls Try.prog 86 #[.int .u8 ((s[k]).toNat : Nat)] (wr.drewN m) fun e w' => e = .returned (.bool (isDig (byt s k))) ∧ w' = wr.drewN m := fun m => (digit_any _ _).mono fun _ _ x => ⟨by rw [x.1, byt_lt h1], x.2.symm⟩
      cases hl : isLet (byt s k) with
      | true =>
        rw [hl] at LET
        have hn : isNm (byt s k) = true := by simp [isNm, hl]
        go_wp2_with fail
        go_quiet ((go_at_call 85; exact Calls.quiet_of_same (LET _)))
        go_wp2_with fail
        refine ⟨⟨k + 1, ?_, (nmE_at h1 hn).symm.trans hb, Kept1.set (hK.drewN _) _ _⟩, ?_⟩
        · have := (hR.drewN nq).step (k := k + 1) (by omega)
          simpa using this
        · have hn := ((hR.drewN nq).step (k := k + 1) (by omega)).c2
          have hn' : ((wr.drewN nq).setCell ⟨r, 2, none⟩ (.int .i64 ((k : Int) + 1))).cell? ⟨r, 2, none⟩ = some (.int .i64 ((k : Int) + 1)) := by simpa using hn
          rw [c2, hn']
          simp only [intOf]
          omega
      | false =>
        rw [hl] at LET
        cases hd : isDig (byt s k) with
        | true =>
          rw [hd] at DIG
          have hn : isNm (byt s k) = true := by simp [isNm, hd]
          go_wp2_with fail
          go_quiet ((first | (go_at_call 85; exact Calls.quiet_of_same (LET _)) | (go_at_call 86; exact Calls.quiet_of_same (DIG _))))
          go_wp2_with fail
          refine ⟨⟨k + 1, ?_, (nmE_at h1 hn).symm.trans hb, Kept1.set (hK.drewN _) _ _⟩, ?_⟩
          · have := (hR.drewN nq).step (k := k + 1) (by omega)
            simpa using this
          · have hn := ((hR.drewN nq).step (k := k + 1) (by omega)).c2
            have hn' : ((wr.drewN nq).setCell ⟨r, 2, none⟩ (.int .i64 ((k : Int) + 1))).cell? ⟨r, 2, none⟩ = some (.int .i64 ((k : Int) + 1)) := by simpa using hn
            rw [c2, hn']
            simp only [intOf]
            omega
        | false =>
          rw [hd] at DIG
          have hn : isNm (byt s k) = false := by simp [isNm, hl, hd]
          go_wp2_with fail
          go_quiet ((first | (go_at_call 85; exact Calls.quiet_of_same (LET _)) | (go_at_call 86; exact Calls.quiet_of_same (DIG _))))
          go_wp2_with fail
          have hE : nmE s i = k := hb.symm.trans (nmE_end (fun x => by have := x.2; rw [hn] at this; cases this))
          clear LET DIG
          have hik : i ≤ k := hE ▸ nmE_ge s i
          have c1' := (hR.drewN nq).c1
          have c2' := (hR.drewN nq).c2
          have hKn : ∀ m, Kept1 r w (wr.drewN m) := fun m => Kept.drewN hK m
          have hRn := hR.drewN
          have hz := ext_size hik hR.le
          have hnil := ext_nil hik hR.le
          clear hb hK hR
          by_cases hA : i = k
          · subst hA
            have hbad : badNm s i = true := by rw [badNm, hE]; simp
            have hn0 := hnil.2 rfl
            clear hnil
            go_quiet (fail)
            go_wp2_with (go_at_call 79; refine (refuse_any _ _ _).mono ?_; rintro e w2 ⟨rfl, rfl⟩)
            exact ⟨rfl, hKn _, Or.inl ⟨hbad, rfl, _, hRn _⟩⟩
          · have hn0 : ¬ (s.extract i k).toList = [] := fun x => hA (hnil.1 x)
            clear hnil
            have hz0 : 0 < (s.extract i k).size := by omega
            have hx0 : ∀ h : 0 < (s.extract i k).size, ((s.extract i k)[0]'h).toNat = byt s i := fun h => by rw [ext0 (by omega) hle h]; exact byt_lt (by omega)
            by_cases hB : 6 < k - i
            · have hbad : badNm s i = true := by simp [badNm, hE, hB]
              have hB' : decide ((6 : Int) < (s.extract i k).size) = true := decide_eq_true (by omega)
              have hB2 : (6 : Int) < (s.extract i k).size := by omega
              go_quiet (fail)
              go_wp2_with (go_at_call 79; refine (refuse_any _ _ _).mono ?_; rintro e w2 ⟨rfl, rfl⟩)
              exact ⟨rfl, hKn _, Or.inl ⟨hbad, rfl, _, hRn _⟩⟩
            · have hB2 : ¬ (6 : Int) < (s.extract i k).size := by omega
              cases hC : isDig (byt s i) with
              | true =>
                have hbad : badNm s i = true := by simp [badNm, hC]
                go_quiet (fail)
                have hNm : ∃ N, s.extract i k = N := ⟨_, rfl⟩
                obtain ⟨N, hNm⟩ := hNm
                rw [hNm] at hz hn0 hz0 hx0 hB2 ⊢
                go_wp2_with (first | (go_at_call 86; refine (digit_any _ _).mono ?_; rintro e w2 ⟨he, rfl⟩; rw [hC] at he; subst he) | (go_at_call 79; refine (refuse_any _ _ _).mono ?_; rintro e w2 ⟨rfl, rfl⟩))
                exact ⟨rfl, hKn _, Or.inl ⟨hbad, rfl, _, hRn _⟩⟩
              | false =>
                have hbad : badNm s i = false := by simp [badNm, hE, hC]; omega
                have hem : (s.extract i k).toList.isEmpty = false := by cases hq : (s.extract i k).toList with | nil => exact absurd hq hn0 | cons a l => rfl
                have hB3 : ¬ (6 : Int) < ((k - i : Nat) : Int) := by omega
                go_quiet (fail)
                have hNm : ∃ N, s.extract i k = N := ⟨_, rfl⟩
                obtain ⟨N, hNm⟩ := hNm
                rw [hNm] at hz hn0 hz0 hx0 hB2 hem ⊢
                go_wp2_with (first | (go_at_call 86; refine (digit_any _ _).mono ?_; rintro e w2 ⟨he, rfl⟩; rw [hC] at he; subst he) | (go_at_call 77; refine (blanks_in _ _ _ _ _ (hRn _)).mono ?_; rintro e w2 ⟨rfl, hR2, hK2⟩))
                go_ret
                refine ⟨Kept.trans (hKn _) hK2, Or.inr ⟨hbad, ?_, by rw [hE]; exact hR2⟩⟩
                rw [hE, hNm]; rfl
    · have d1 : decide ((k : Int) < s.size) = false := decide_eq_false (by omega)
      go_wp2_with fail
      go_quiet (fail)
      go_wp2_with fail
      have hE : nmE s i = k := hb.symm.trans (nmE_end (fun x => h1 x.1))
      have hik : i ≤ k := hE ▸ nmE_ge s i
      have c1' := (hR.drewN nq).c1
      have c2' := (hR.drewN nq).c2
      have hKn : ∀ m, Kept1 r w (wr.drewN m) := fun m => Kept.drewN hK m
      have hRn := hR.drewN
      have hz := ext_size hik hR.le
      have hnil := ext_nil hik hR.le
      clear hb hK hR
      by_cases hA : i = k
      · subst hA
        have hbad : badNm s i = true := by rw [badNm, hE]; simp
        have hn0 := hnil.2 rfl
        clear hnil
        go_quiet (fail)
        go_wp2_with (go_at_call 79; refine (refuse_any _ _ _).mono ?_; rintro e w2 ⟨rfl, rfl⟩)
        exact ⟨rfl, hKn _, Or.inl ⟨hbad, rfl, _, hRn _⟩⟩
      · have hn0 : ¬ (s.extract i k).toList = [] := fun x => hA (hnil.1 x)
        clear hnil
        have hz0 : 0 < (s.extract i k).size := by omega
        have hx0 : ∀ h : 0 < (s.extract i k).size, ((s.extract i k)[0]'h).toNat = byt s i := fun h => by rw [ext0 (by omega) hle h]; exact byt_lt (by omega)
        by_cases hB : 6 < k - i
        · have hbad : badNm s i = true := by simp [badNm, hE, hB]
          have hB' : decide ((6 : Int) < (s.extract i k).size) = true := decide_eq_true (by omega)
          have hB2 : (6 : Int) < (s.extract i k).size := by omega
          go_quiet (fail)
          go_wp2_with (go_at_call 79; refine (refuse_any _ _ _).mono ?_; rintro e w2 ⟨rfl, rfl⟩)
          exact ⟨rfl, hKn _, Or.inl ⟨hbad, rfl, _, hRn _⟩⟩
        · have hB2 : ¬ (6 : Int) < (s.extract i k).size := by omega
          cases hC : isDig (byt s i) with
          | true =>
            have hbad : badNm s i = true := by simp [badNm, hC]
            go_quiet (fail)
            have hNm : ∃ N, s.extract i k = N := ⟨_, rfl⟩
            obtain ⟨N, hNm⟩ := hNm
            rw [hNm] at hz hn0 hz0 hx0 hB2 ⊢
            go_wp2_with (first | (go_at_call 86; refine (digit_any _ _).mono ?_; rintro e w2 ⟨he, rfl⟩; rw [hC] at he; subst he) | (go_at_call 79; refine (refuse_any _ _ _).mono ?_; rintro e w2 ⟨rfl, rfl⟩))
            exact ⟨rfl, hKn _, Or.inl ⟨hbad, rfl, _, hRn _⟩⟩
          | false =>
            have hbad : badNm s i = false := by simp [badNm, hE, hC]; omega
            have hem : (s.extract i k).toList.isEmpty = false := by cases hq : (s.extract i k).toList with | nil => exact absurd hq hn0 | cons a l => rfl
            have hB3 : ¬ (6 : Int) < ((k - i : Nat) : Int) := by omega
            go_quiet (fail)
            have hNm : ∃ N, s.extract i k = N := ⟨_, rfl⟩
            obtain ⟨N, hNm⟩ := hNm
            rw [hNm] at hz hn0 hz0 hx0 hB2 hem ⊢
            go_wp2_with (first | (go_at_call 86; refine (digit_any _ _).mono ?_; rintro e w2 ⟨he, rfl⟩; rw [hC] at he; subst he) | (go_at_call 77; refine (blanks_in _ _ _ _ _ (hRn _)).mono ?_; rintro e w2 ⟨rfl, hR2, hK2⟩))
            go_ret
            refine ⟨Kept.trans (hKn _) hK2, Or.inr ⟨hbad, ?_, by rw [hE]; exact hR2⟩⟩
            rw [hE, hNm]; rfl

end Go.Proofs.Ytinphcnknionmab

namespace Go.Proofs.Ytinphcnknionmab
open Go.RowKit Go.Maps

theorem tLaid : laidOutB Try.prog = true := by kernel_rfl
theorem tRow : (128 : TypeId) < Try.prog.types.size := of_decide_eq_true (by kernel_rfl)
theorem tCells : Try.prog.cellsOf 128 = 6 := by kernel_rfl
theorem tCells4 : Try.prog.cellsOf 126 = 4 := by kernel_rfl
theorem tCellsI : Try.prog.cellsOf 3 = 1 := by kernel_rfl
theorem tCellsS : Try.prog.cellsOf 9 = 1 := by kernel_rfl
theorem tKeyType : Try.prog.keyType 128 = true := by kernel_rfl
theorem tKeyAt : Try.prog.keyTypeAt 3 128 = true := by kernel_rfl
theorem tLaw : Keyed Try.prog 128 := Keyed.of_law (deep_law_laid tLaid (m := 3) (by omega) tRow tKeyAt (by rw [Try.underlying128]))
theorem sLaw : Keyed Try.prog 9 := string_keyed Try.underlying9
theorem zeroI (w : World) : (zeroValue 3).run Try.prog w = .ok (.int .i64 0) w := by kernel_rfl

/-- A term of a bank. -/
structure Tm where
  name : ByteArray
  args : List Nat
deriving DecidableEq

/-- Arg i as the program keeps it: 0 behind the last one. -/
def Tm.arg (t : Tm) (i : Nat) : Nat := t.args.getD i 0

def entryL (t : Tm) : List Value := [.string t.name, .int .i64 (t.args.length : Int), .int .i64 (t.arg 0 : Int), .int .i64 (t.arg 1 : Int), .int .i64 (t.arg 2 : Int), .int .i64 (t.arg 3 : Int)]
def entryV (t : Tm) : Value := .agg (entryL t).toArray

structure Tm.ok (t : Tm) : Prop where
  name : t.name.size ≤ 6
  args : t.args.length ≤ 4
  small : ∀ a ∈ t.args, a < 1000

theorem Tm.ok.arg {t : Tm} (h : t.ok) (i : Nat) : t.arg i < 1000 := by
  unfold Tm.arg
  rw [List.getD_eq_getElem?_getD]
  cases e : t.args[i]? with
  | none => simp
  | some a => simpa using h.small a (List.mem_of_getElem? e)

theorem wf64 {a : Nat} (h : a < 100000) : (Lit.int .i64 (a : Int)).wf = true := WalkArith.wf_i64 (by omega)

theorem entry_formed (t : Tm) : (entryV t).formed Try.prog 128 = true := by simp [entryV, entryL, Value.formed, Try.underlying128, tCells]

theorem entry_key (t : Tm) (h : t.ok) : ∃ kl, keyOf Try.prog 128 (entryV t) = some kl := by
  have h0 : t.name.size ≤ maxLen := Nat.le_trans h.name (by decide)
  have h1 : (Lit.int .i64 (t.args.length : Int)).wf = true := wf64 (by have := h.args; omega)
  have g0 : (Lit.int .i64 (t.arg 0 : Int)).wf = true := wf64 (by have := h.arg 0; omega)
  have g1 : (Lit.int .i64 (t.arg 1 : Int)).wf = true := wf64 (by have := h.arg 1; omega)
  have g2 : (Lit.int .i64 (t.arg 2 : Int)).wf = true := wf64 (by have := h.arg 2; omega)
  have g3 : (Lit.int .i64 (t.arg 3 : Int)).wf = true := wf64 (by have := h.arg 3; omega)
  unfold keyOf
  rw [Try.underlying128]
  simp only [tKeyType, entry_formed]
  obtain ⟨m, hm⟩ : ∃ m, Try.prog.types.size + 1 = m + 3 := ⟨Try.prog.types.size - 2, by have h9 := tRow; generalize Try.prog.types.size = z at h9 ⊢; exact (by have h8 : 3 ≤ z := Nat.le_trans (by decide) (Nat.le_of_lt h9); omega)⟩
  rw [hm]
  have hr : List.range 4 = [0, 1, 2, 3] := rfl
  simp [Program.keyLits, Try.underlying128, Try.underlying126, Try.underlying3, Try.underlying9, tCells, tCells4, tCellsI, tCellsS, entryV, entryL, Value.cells, hr, h0, h1, g0, g1, g2, g3]

end Go.Proofs.Ytinphcnknionmab
