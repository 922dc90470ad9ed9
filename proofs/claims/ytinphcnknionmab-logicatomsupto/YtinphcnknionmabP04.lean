/- Package logic: the parser's small functions: next, skipBlanks, must, refuse, isOfName. Package logic: must, isOfName, termEnd. Package find: Join. -/
import Derived.Test.YtinphcnknionmabP03
import Derived.Test.YtinphcnknionmabP01
import Derived.Deep.RegionLaw
import Derived.RangeFuncBox
namespace Go.Proofs.Ytinphcnknionmab
open Go.RowKit

def parserC (bp : Value) (s : ByteArray) (i d : Nat) (j : Nat) : Value := if j = 0 then bp else if j = 1 then .string s else if j = 2 then .int .i64 (i : Int) else .int .u64 (d : Int)

/-- A parser at block r: at byte i, within d brackets and signs. -/
structure Lp (w : World) (r : Nat) (bp : Value) (s : ByteArray) (i d : Nat) : Prop where
  row : w.rowIs r 87 4 (parserC bp s i d)
  le : i ≤ s.size
  small : s.size ≤ 400

theorem Lp.c0 {w : World} {r : Nat} {bp : Value} {s : ByteArray} {i d : Nat} (h : Lp w r bp s i d) : w.cell? ⟨r, 0, none⟩ = some bp := h.row.cell (by omega)
theorem Lp.c1 {w : World} {r : Nat} {bp : Value} {s : ByteArray} {i d : Nat} (h : Lp w r bp s i d) : w.cell? ⟨r, 1, none⟩ = some (.string s) := h.row.cell (i := 1) (by omega)
theorem Lp.c2 {w : World} {r : Nat} {bp : Value} {s : ByteArray} {i d : Nat} (h : Lp w r bp s i d) : w.cell? ⟨r, 2, none⟩ = some (.int .i64 (i : Int)) := h.row.cell (i := 2) (by omega)
theorem Lp.c3 {w : World} {r : Nat} {bp : Value} {s : ByteArray} {i d : Nat} (h : Lp w r bp s i d) : w.cell? ⟨r, 3, none⟩ = some (.int .u64 (d : Int)) := h.row.cell (i := 3) (by omega)
theorem Lp.drewN {w : World} {r : Nat} {bp : Value} {s : ByteArray} {i d : Nat} (h : Lp w r bp s i d) (m : Nat) : Lp (w.drewN m) r bp s i d := ⟨h.row, h.le, h.small⟩
theorem Lp.step {w : World} {r : Nat} {bp : Value} {s : ByteArray} {i d : Nat} (h : Lp w r bp s i d) {k : Nat} (hk : k ≤ s.size) : Lp (w.setCell ⟨r, 2, none⟩ (.int .i64 (k : Int))) r bp s k d :=
  ⟨(h.row.set 2 _).congr (fun j hj => by
    rcases (by omega : j = 0 ∨ j = 1 ∨ j = 2 ∨ j = 3) with rfl | rfl | rfl | rfl <;> simp [parserC]), hk, h.small⟩
theorem Lp.deep {w : World} {r : Nat} {bp : Value} {s : ByteArray} {i d : Nat} (h : Lp w r bp s i d) (e : Nat) : Lp (w.setCell ⟨r, 3, none⟩ (.int .u64 (e : Int))) r bp s i e :=
  ⟨(h.row.set 3 _).congr (fun j hj => by
    rcases (by omega : j = 0 ∨ j = 1 ∨ j = 2 ∨ j = 3) with rfl | rfl | rfl | rfl <;> simp [parserC]), h.le, h.small⟩
theorem Lp.of_block {w w' : World} {r : Nat} {bp : Value} {s : ByteArray} {i d : Nat} (h : Lp w r bp s i d) (hb : w'.heap[r]? = w.heap[r]?) : Lp w' r bp s i d := ⟨h.row.of_block hb, h.le, h.small⟩

set_option maxHeartbeats 1000000 in
/-- The byte that stands here; 0 at the end. -/
theorem next_in (w : World) (r : Nat) (bp : Value) (s : ByteArray) (i d : Nat) (h : Lp w r bp s i d) :
    Calls Try.prog 57 #[.pointer (some ⟨r, 0, none⟩)] w fun e w' => e = .returned (.int .u8 (byt s i : Int)) ∧ ∃ m, w' = w.drewN m := by
  have hs := h.small
  have c1 := h.c1
  have c2 := h.c2
  have hle := h.le
  clear h
  go_enter Try.func57, Try.ntmps57
  by_cases h1 : i < s.size
  · have d2 : ((i : Int) == (s.size : Int)) = false := by simp; omega
    have e2 := byt_lt h1
    go_wp2_with fail
    go_quiet (fail)
    go_wp2_with fail
    go_quiet (fail)
    go_wp2_with fail
    go_ret
    refine ⟨?_, _, World.drewN_drewN _ _ _⟩
    rw [← e2]
    rfl
  · have d2 : ((i : Int) == (s.size : Int)) = true := by simp; omega
    have e2 : byt s i = 0 := by simp [byt, h1]
    go_wp2_with fail
    go_quiet (fail)
    go_wp2_with fail
    go_ret
    exact ⟨by rw [e2]; rfl, _, rfl⟩

theorem next_k (w : World) (r : Nat) (bp : Value) (s : ByteArray) (i d : Nat) (h : Lp w r bp s i d) :
    Calls Try.prog 57 #[.pointer (some ⟨r, 0, none⟩)] w fun e w' => e = .returned (.int .u8 (byt s i : Int)) ∧ Kept0 w w' :=
  (next_in w r bp s i d h).mono fun _ _ ⟨h1, m, h2⟩ => ⟨h1, h2 ▸ (Kept.refl _ w).drewN m⟩

theorem Lp.kept0 {w w' : World} {r : Nat} {bp : Value} {s : ByteArray} {i d : Nat} (h : Lp w r bp s i d) (K : Kept0 w w') : Lp w' r bp s i d := h.of_block (K.block _ h.row.lt (fun e => e))

set_option maxHeartbeats 1000000 in
theorem gblanks_in (w : World) (r : Nat) (bp : Value) (s : ByteArray) (i d : Nat) (h : Lp w r bp s i d) :
    Calls Try.prog 49 #[.pointer (some ⟨r, 0, none⟩)] w fun e w' => e = .returned (.tuple #[]) ∧ Lp w' r bp s (bl s i) d ∧ Kept1 r w w' := by
  go_enter Try.func49, Try.ntmps49
  go_wp2_with fail
  go_loopw [] (fun W => ∃ k : Nat, Lp W r bp s k d ∧ Hid (bl s k = bl s i) ∧ Hid (Kept1 r w W)) (fun W => s.size - (match W.cell? ⟨r, 2, none⟩ with | some v => (intOf v).toNat | none => 0))
  case atStart => exact ⟨i, h, rfl, Kept.refl _ w⟩
  case round =>
    obtain ⟨k, hR, hb, hK⟩ := hrel
    have NX := next_k wr r bp s k d hR
    have hle := hR.le
    have hsm := hR.small
    have c2r := hR.c2
    by_cases h1 : k < s.size ∧ byt s k = 32
    · rw [h1.2] at NX
      have STP : Hid (∀ W, Kept0 wr W → Lp (W.setCell ⟨r, 2, none⟩ (.int .i64 ((k : Int) + 1))) r bp s (k + 1) d) := fun W K => by
        have := (hR.kept0 K).step (k := k + 1) (by omega)
        simpa using this
      have HC : Hid (∀ W, Kept0 wr W → W.cell? ⟨r, 2, none⟩ = some (.int .i64 (k : Int)) ∧ W.frozen? ⟨r, 2, none⟩ = false) := fun W K => ⟨(hR.kept0 K).c2, (hR.kept0 K).row.frozen 2⟩
      have hb2 : Hid (bl s (k + 1) = bl s i) := (bl_at h1.1 h1.2).symm.trans hb
      have HC2 : Hid (wr.cell? ⟨r, 2, none⟩ = some (.int .i64 (k : Int))) := c2r
      have hk1 : k < s.size := h1.1
      clear hR h1 hb c2r
      go_wp2_with (go_at_call 57; refine NX.mono ?_; rintro e w3 ⟨rfl, K3⟩; obtain ⟨c2, f2⟩ := HC.out w3 K3)
      refine ⟨⟨k + 1, STP.out w3 K3, hb2, Kept1.set (hK.out.trans (Kept.mono K3 (fun _ _ e => e.elim))) _ _⟩, ?_⟩
      rw [(STP.out w3 K3).c2, HC2.out]
      simp only [intOf]
      omega
    · have e : bl s i = k := hb.symm.trans (bl_end h1)
      have hne : ¬ byt s k = 32 := fun e2 => by
        by_cases h2 : k < s.size
        · exact h1 ⟨h2, e2⟩
        · simp [byt, h2] at e2
      have dne : ((byt s k : Int) == 32) = false := by simp; omega
      have HR : Hid (_ ∧ _) := And.intro hR hK.out
      clear hR hb hK h1 c2r
      generalize byt s k = bk at *
      go_wp2_with (go_at_call 57; refine NX.mono ?_; rintro e w3 ⟨rfl, K3⟩)
      go_end0
      exact ⟨rfl, by rw [e]; exact HR.out.1.kept0 K3, HR.out.2.trans (Kept.mono K3 (fun _ _ e => e.elim))⟩

/-- What refuse panics with. -/
def grefusalV (e p : Int) : Value := .iface 109 (.agg #[.int .i64 e, .int .i64 p])

set_option maxHeartbeats 400000 in
theorem grefuse_any (w : World) (e p : Int) :
    Calls Try.prog 51 #[.int .i64 e, .int .i64 p] w fun x w' => x = .panicked [{ v := grefusalV e p, recovered := false }] ∧ w = w' := by
  go_enter Try.func51, Try.ntmps51
  go_wp2
  exact ⟨rfl, rfl, rfl⟩

end Go.Proofs.Ytinphcnknionmab

namespace Go.Proofs.Ytinphcnknionmab
open Go.RowKit

set_option maxHeartbeats 1000000 in
theorem must_yes (w : World) (r : Nat) (bp : Value) (s : ByteArray) (i d : Nat) (h : Lp w r bp s i d) (c : Nat) (hst : stands s i c = true) :
    Calls Try.prog 59 #[.pointer (some ⟨r, 0, none⟩), .int .u8 (c : Int)] w fun e w' => e = .returned (.tuple #[]) ∧ Lp w' r bp s (bl s (i + 1)) d ∧ Kept1 r w w' := by
  have h1 := of_decide_eq_true hst
  have NX := next_k w r bp s i d h
  rw [h1.2] at NX
  have hsm := h.small
  have HC : Hid (∀ W, Kept0 w W → W.cell? ⟨r, 2, none⟩ = some (.int .i64 (i : Int)) ∧ W.frozen? ⟨r, 2, none⟩ = false) := fun W K => ⟨(h.kept0 K).c2, (h.kept0 K).row.frozen 2⟩
  have STP : Hid (∀ W, Kept0 w W → Lp (W.setCell ⟨r, 2, none⟩ (.int .i64 ((i : Int) + 1))) r bp s (i + 1) d) := fun W K => by
    have := (h.kept0 K).step (k := i + 1) (by omega)
    simpa using this
  have hi1 : i < s.size := h1.1
  have dcc : ((c : Int) != (c : Int)) = false := by simp
  clear h h1 hst
  go_enter Try.func59, Try.ntmps59
  go_wp2_with (first | (go_at_call 57; refine NX.mono ?_; rintro e w3 ⟨rfl, K3⟩; obtain ⟨c2, f2⟩ := HC.out w3 K3; have BL := gblanks_in _ r bp s (i + 1) d (STP.out w3 K3)) | (go_at_call 49; refine BL.mono ?_; rintro e w4 ⟨rfl, L4, K4⟩))
  go_end0
  exact ⟨rfl, L4, Kept.trans (Kept1.set (Kept.mono K3 (fun _ _ e => e.elim)) _ _) K4⟩

set_option maxHeartbeats 1000000 in
theorem must_no (w : World) (r : Nat) (bp : Value) (s : ByteArray) (i d : Nat) (h : Lp w r bp s i d) (c : Nat) (hc : c ≠ 0) (hst : stands s i c = false) :
    Calls Try.prog 59 #[.pointer (some ⟨r, 0, none⟩), .int .u8 (c : Int)] w fun e w' => e = .panicked [{ v := grefusalV 2 (i : Int), recovered := false }] ∧ Kept0 w w' := by
  have hne : byt s i ≠ c := fun e => by
    by_cases h2 : i < s.size
    · rw [stands_true h2 e] at hst; cases hst
    · simp [byt, h2] at e; omega
  have NX := next_k w r bp s i d h
  have HC : Hid (∀ W, Kept0 w W → W.cell? ⟨r, 2, none⟩ = some (.int .i64 (i : Int))) := fun W K => (h.kept0 K).c2
  have dne : ((byt s i : Int) != (c : Int)) = true := by simp; omega
  have hle := h.le
  have hsm := h.small
  clear h hst hne
  generalize byt s i = bi at *
  go_enter Try.func59, Try.ntmps59
  go_wp2_with (first | (go_at_call 57; refine NX.mono ?_; rintro e w3 ⟨rfl, K3⟩; have c2 := HC.out w3 K3) | (go_at_call 51; refine (grefuse_any _ _ _).mono ?_; rintro e w4 ⟨rfl, rfl⟩))
  exact ⟨rfl, rfl, K3⟩

/-- Is it a byte of a name? -/
def ofNm (c : Nat) : Bool := isLet c || isDig c

set_option maxHeartbeats 1000000 in
theorem ofName_any (w : World) (c : Nat) :
    Calls Try.prog 72 #[.int .u8 (c : Int)] w fun e w' => e = .returned (.bool (ofNm c)) ∧ w = w' := by
  go_enter Try.func72, Try.ntmps72
  by_cases h1 : 97 ≤ c
  · have d1 : decide ((97 : Int) ≤ (c : Int)) = true := decide_eq_true (by omega)
    by_cases h2 : c ≤ 122
    · have d2 : decide ((c : Int) ≤ 122) = true := decide_eq_true (by omega)
      have e : ofNm c = true := by simp [ofNm, isLet, isDig]; omega
      go_wp2_with fail
      go_ret
      exact ⟨ret_bool e.symm, rfl⟩
    · have d2 : decide ((c : Int) ≤ 122) = false := decide_eq_false (by omega)
      have d3 : decide ((48 : Int) ≤ (c : Int)) = true := decide_eq_true (by omega)
      have d4 : decide ((c : Int) ≤ 57) = false := decide_eq_false (by omega)
      have e : ofNm c = false := by simp [ofNm, isLet, isDig]; omega
      go_wp2_with fail
      go_ret
      exact ⟨ret_bool e.symm, rfl⟩
  · have d1 : decide ((97 : Int) ≤ (c : Int)) = false := decide_eq_false (by omega)
    by_cases h3 : 48 ≤ c
    · have d3 : decide ((48 : Int) ≤ (c : Int)) = true := decide_eq_true (by omega)
      by_cases h4 : c ≤ 57
      · have d4 : decide ((c : Int) ≤ 57) = true := decide_eq_true (by omega)
        have e : ofNm c = true := by simp [ofNm, isLet, isDig]; omega
        go_wp2_with fail
        go_ret
        exact ⟨ret_bool e.symm, rfl⟩
      · have d4 : decide ((c : Int) ≤ 57) = false := decide_eq_false (by omega)
        have e : ofNm c = false := by simp [ofNm, isLet, isDig]; omega
        go_wp2_with fail
        go_ret
        exact ⟨ret_bool e.symm, rfl⟩
    · have d3 : decide ((48 : Int) ≤ (c : Int)) = false := decide_eq_false (by omega)
      have e : ofNm c = false := by simp [ofNm, isLet, isDig]; omega
      go_wp2_with fail
      go_ret
      exact ⟨ret_bool e.symm, rfl⟩

end Go.Proofs.Ytinphcnknionmab

namespace Go.Proofs.Ytinphcnknionmab
open Go.RowKit

/-- append onto a row of one's own: told besides: what comes lies where the row lay, or in a new block. -/
theorem run_append_here {P : Program} (w : World) (base : Nat) (t ty e : TypeId) (i : TypeInfo) (z : Value) (size bytes : Nat) (ht : P.underlying t = some (.slice e)) (hi : P.info? e = some i) (hz : i.zero = some z)
    (hsize : i.size = size) (hby : i.bytes = bytes) (hzs : z.cells.size = size) (hsz : 0 < size)
    (v : Value) (n : Nat) (xs : List Value) (hown : w.ownsRow base e size v n xs)
    (a : Addr) (m c : Nat) (news : List Value) (hl : news.length = m * size) (hnews : ∀ j u, news[j]? = some u → w.cell? (a.add j) = some u) (h1 : ∀ u ∈ news, u.oneCell' = true)
    (h63 : n + m ≤ maxLen) (hbytes : (n + m) * bytes ≤ 140737488355328) (hbase : base ≤ w.heap.size) :
    ∃ v' w', (Builtin.append_ #[t, t] ty #[v, .slice (some a) m c]).run P w = .ok v' w' ∧ w'.ownsRow base e size v' (n + m) (xs ++ news) ∧ w.grownBy w' v.ownBlock ∧
      (v'.ownBlock = v.ownBlock ∨ ∀ k, v'.ownBlock = some k → w.heap.size ≤ k) := by
  obtain ⟨v', w', hr, r1, r2, _⟩ := run_append_own (P := P) w base t ty e i z size bytes ht hi hz hsize hby hzs hsz v n xs hown a m c news hl hnews h1 h63 hbytes hbase
  refine ⟨v', w', hr, r1, r2, ?_⟩
  rcases hown.2 with ⟨rfl, rfl⟩ | ⟨g, cap, cur, rfl, hbg, hg, hnc, hcm, hcs, htake⟩
  · obtain rfl : xs = [] := List.eq_nil_of_length_eq_zero (by simpa using hown.1)
    obtain ⟨v2, w2, hr2, s1, _⟩ := run_append_own (P := P) w w.heap.size t ty e i z size bytes ht hi hz hsize hby hzs hsz (.slice none 0 0) 0 [] (World.ownsRow_nil w _ e size) a m c news hl hnews h1 h63 hbytes (Nat.le_refl _)
    rw [hr] at hr2
    cases hr2
    exact Or.inr fun k hk => (s1.lt k hk).1
  · by_cases hroom : n + m ≤ cap
    · subst hsize
      have hfit : n * i.size + news.length ≤ cur.size := by rw [hl, hcs, ← Nat.add_mul]; exact Nat.mul_le_mul_right _ hroom
      have hr2 := run_append_room (P := P) w t ty e i ht hi g n cap cur hg a m c news hl hnews h1 hroom hfit
      rw [hr] at hr2
      cases hr2
      exact Or.inl rfl
    · obtain ⟨v2, w2, hr2, s1, _⟩ := run_append_arg_grows (P := P) w t ty e i z size bytes ht hi hz hsize hby hzs hsz ⟨g, 0, none⟩ n cap xs hown.1 (hown.cells (g := g) rfl) a m c news hl hnews (by omega) h63 hbytes
      rw [hr] at hr2
      cases hr2
      exact Or.inr fun k hk => (s1.lt k hk).1

/-- .. as one step of a region that draws. -/
theorem step_append_here {P : Program} {ops : Array Oper} {o : Oper} {a : Act} {w : World} {K : Act → World → Prop} {Q : Exit → Act → World → Prop} {E : Prop}
    (hg : o.guard = none) (s x : Operand) (t : TypeId) (hop : o.op = Op.call { callee := Callee.builtin Builtin.append, args := #[s, x], argTypes := #[t, t] })
    (base : Nat) (e : TypeId) (i : TypeInfo) (z : Value) (size bytes : Nat) (h1 : P.underlying t = some (.slice e)) (h2 : P.info? e = some i) (h3 : i.zero = some z) (h4 : i.size = size) (h5 : i.bytes = bytes) (h6 : z.cells.size = size) (h7 : 0 < size)
    (v : Value) (n : Nat) (xs : List Value) (hs : a.eval s = v) (hown : w.ownsRow base e size v n xs)
    (ad : Addr) (m c : Nat) (news : List Value) (hx : a.eval x = .slice (some ad) m c) (hn : news.length = m * size) (hc : ∀ j u, news[j]? = some u → w.cell? (ad.add j) = some u) (h1c : ∀ u ∈ news, u.oneCell' = true)
    (b1 : n + m ≤ maxLen) (b2 : (n + m) * bytes ≤ 140737488355328) (hbase : base ≤ w.heap.size)
    (hK : ∀ v' w', w'.ownsRow base e size v' (n + m) (xs ++ news) → w.grownBy w' v.ownBlock → (v'.ownBlock = v.ownBlock ∨ ∀ k, v'.ownBlock = some k → w.heap.size ≤ k) → K (a.put o.dst v') w') :
    if Region.wanted o (yielded ops a.tmps) = true then Oper.wp P o a w K Q else E := by
  have hw : Region.wanted o (yielded ops a.tmps) = true := by simp [Region.wanted, hg]
  rw [if_pos hw]
  obtain ⟨v', w', hrun, r1, r2, r3⟩ := run_append_here (P := P) w base t o.type e i z size bytes h1 h2 h3 h4 h5 h6 h7 v n xs hown ad m c news hn hc h1c b1 b2 hbase
  unfold Oper.wp
  simp [execOp, hop, resolve, invoke, builtin, hs, hx, hrun, Result.andThen]
  exact hK v' w' r1 r2 r3

theorem cell_two_news (w : World) (m : Nat) (x y : Value) (t : TypeId) : ∀ j u, [x, y][j]? = some u → ((w.drewN m).alloc (.cells #[x, y] t)).cell? ((⟨w.heap.size, 0, none⟩ : Addr).add j) = some u := by
  intro j u hj
  have e : ∀ k, ((w.drewN m).alloc (.cells #[x, y] t)).cell? ⟨w.heap.size, k, none⟩ = #[x, y][k]? := fun k => World.cell?_alloc_at (w := w.drewN m) _ t _ k rfl
  match j, hj with
  | 0, hj => simp at hj; subst hj; rw [show (⟨w.heap.size, 0, none⟩ : Addr).add 0 = ⟨w.heap.size, 0, none⟩ from by simp [Addr.add], e]; rfl
  | 1, hj => simp at hj; subst hj; rw [show (⟨w.heap.size, 0, none⟩ : Addr).add 1 = ⟨w.heap.size, 1, none⟩ from by simp [Addr.add], e]; rfl
  | j + 2, hj => simp at hj

theorem joinC_snoc (js : List (Nat × Nat)) (c l : Nat) : joinC (js ++ [(c, l)]) = joinC js ++ [.int .i64 (c : Int), .int .i64 (l : Int)] := by simp [joinC]

abbrev Foot (p nb : Nat) (jv : Value) (k : Nat) : Prop := k = p ∨ k = nb ∨ jv.ownBlock = some k

theorem rowIs_type {w : World} {b : Nat} {t e : TypeId} {n : Nat} {f : Nat → Value} (h : w.rowIs b t n f) (hne : t ≠ e) {base size k : Nat} {v : Value} {xs : List Value} (hr : w.ownsRow base e size v k xs) : v.ownBlock ≠ some b := by
  intro hb
  rcases hr.2 with ⟨rfl, _⟩ | ⟨g, cap, cur, rfl, _, hg, _⟩
  · simp [Value.ownBlock] at hb
  · simp [Value.ownBlock] at hb
    subst hb
    obtain ⟨c, hc, _⟩ := h
    rw [hc] at hg
    simp at hg
    exact hne hg.2

end Go.Proofs.Ytinphcnknionmab
