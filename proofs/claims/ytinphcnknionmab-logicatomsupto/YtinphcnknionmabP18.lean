/- The document's Eval, whole. The statements' Same: of a Form that is the document's. -/
import Derived.Test.YtinphcnknionmabEvR
import Derived.Deep.CutRange
import Derived.Laws.Bits64
namespace Go.Proofs.Ytinphcnknionmab
open Go.RowKit

/-- What stays, behind a Kid's Eval. -/
theorem rev_kid {w : World} {ca : Option Addr} {cc : Nat} {cls : List Int} (hc : ClsAt w ca cls) {kids : List Lf} (hks : ∀ k ∈ kids, LayC w k) (ih : ∀ k ∈ kids, REv k) {op : Int} {kv : Value}
    (j : Nat) (k : Lf) (hj : kids[j]? = some k) (w2 : World) (hB : Below w.heap.size w w2) (e0 : w2.cell? ⟨w.heap.size, 0, none⟩ = some (.int .i64 op)) (e3 : w2.cell? ⟨w.heap.size, 3, none⟩ = some kv) :
    Calls Try.prog 9 #[.agg #[.int .i64 k.op, .int .i64 k.x, .int .i64 k.y, k.kv], .slice ca cls.length cc] w2 fun e w' => e = .returned (.bool (evF cls k.er)) ∧ Below w.heap.size w w' ∧ w'.cell? ⟨w.heap.size, 0, none⟩ = some (.int .i64 op) ∧ w'.cell? ⟨w.heap.size, 3, none⟩ = some kv := by
  have hm := List.mem_of_getElem? hj
  have hl := (hks k hm).kept hB
  have hz := World.block_lt_of_cell? w2 _ e0
  have hi := ih k hm w2 ca cc cls (hc.below hB)
  cases hl with
  | mk d0 d1 d2 d3 dk dh =>
    refine (hi dk dh).mono ?_
    rintro e w' ⟨rfl, B⟩
    exact ⟨rfl, hB.trans (B.mono hB.size), (B.cell (p := ⟨w.heap.size, 0, none⟩) hz).trans e0, (B.cell (p := ⟨w.heap.size, 3, none⟩) hz).trans e3⟩
theorem kid_cells {w : World} {kids : List Lf} (hks : ∀ k ∈ kids, LayC w k) {kb ko : Nat} (hadr : ∀ (j : Nat) (t : Lf), kids[j]? = some t → t.b = kb ∧ t.o = ko + j * 4) (j : Nat) (k : Lf) (hj : kids[j]? = some k) (w2 : World) (hB : Below w.heap.size w w2) :
    w2.cell? ⟨kb, ko + j * 4, none⟩ = some (.int .i64 k.op) ∧ w2.cell? ⟨kb, ko + j * 4 + 1, none⟩ = some (.int .i64 k.x) ∧ w2.cell? ⟨kb, ko + j * 4 + 2, none⟩ = some (.int .i64 k.y) ∧ ∃ sa sn sc, k.kv = .slice sa sn sc ∧ w2.cell? ⟨kb, ko + j * 4 + 3, none⟩ = some (.slice sa sn sc) := by
  have hm := List.mem_of_getElem? hj
  have hl := (hks k hm).kept hB
  obtain ⟨a1, a2⟩ := hadr j k hj
  cases hl with
  | mk d0 d1 d2 d3 dk dh =>
    simp only [Lf.b, Lf.o] at a1 a2
    subst a1 a2
    obtain ⟨sa, sc, rfl, _⟩ := dk
    exact ⟨d0, d1, d2, sa, _, sc, rfl, d3⟩

theorem rkids_box (w : World) (op x y : Int) (a : Option Addr) (n cap : Nat) : Calls Try.prog 22 #[.agg #[.int .i64 op, .int .i64 x, .int .i64 y, .slice a n cap]] (w.alloc (.cells #[.int .i64 op, .int .i64 x, .int .i64 y, .slice a n cap] 26)) fun e w' => e = .returned (.bool (whN op n)) ∧ Below w.heap.size w w' ∧ w'.cell? ⟨w.heap.size, 0, none⟩ = some (.int .i64 op) ∧ w'.cell? ⟨w.heap.size, 3, none⟩ = some (.slice a n cap) := by
  refine (rkids_in _ op x y a n cap).mono ?_
  rintro e w' ⟨rfl, B⟩
  have hz : w.heap.size < (w.alloc (.cells #[.int .i64 op, .int .i64 x, .int .i64 y, .slice a n cap] 26)).heap.size := by simp
  refine ⟨rfl, ((Below.refl _ w).alloc (Nat.le_refl _) _).trans (B.mono (by simp)), ?_, ?_⟩ <;>
    (rw [B.cell hz]; simp [go_sem])

set_option maxRecDepth 100000 in
set_option maxHeartbeats 2000000 in
theorem rev_one (t : Lf) (ih : ∀ k ∈ t.kids, REv k) (h1 : t.op = 1) (hn1 : t.kids.length = 1) : REv t := by
  intro w ca cc cls hc hk hks
  obtain ⟨b, o, op, x, y, kv, kids⟩ := t
  simp only [Lf.op, Lf.x, Lf.y, Lf.kv, Lf.kids] at ih hk hks h1 hn1 ⊢
  obtain ⟨a, cap, rfl, hcap, hkk⟩ := hk
  obtain ⟨k0, rfl⟩ := List.length_eq_one_iff.1 hn1
  subst h1
  obtain ⟨kb, ko, rfl, hadr⟩ : ∃ kb ko, a = some ⟨kb, ko, none⟩ ∧ ∀ (j : Nat) (t : Lf), [k0][j]? = some t → t.b = kb ∧ t.o = ko + j * 4 := by
    rcases hkk with e | h
    · cases e
    · exact h
  have HE : Hid (evF cls (Lf.er (.mk b o 1 x y (.slice (some ⟨kb, ko, none⟩) 1 cap) [k0])) = !(evF cls k0.er)) := by
    show _ = _
    simp [Lf.er, evF, evN]
  have RK := rkids_box w 1 x y (some ⟨kb, ko, none⟩) 1 cap
  have hw : whN 1 1 = true := rfl
  rw [hw] at RK
  have NX : Hid _ := @rev_kid w ca cc cls hc [k0] hks ih 1 (.slice (some ⟨kb, ko, none⟩) 1 cap) 0 k0 rfl
  have C0 : Hid _ := kid_cells hks hadr 0 k0 rfl
  clear hks ih hadr hc hkk hn1 hw
  go_enter Try.func9, Try.ntmps9
  go_wp2_with (first | (go_at_call 22; refine RK.mono ?_; rintro e w2 ⟨rfl, B2, c0, c3⟩; obtain ⟨g0, g1, g2, sa, sn, sc, hkv, g3⟩ := C0.out w2 B2; have N2 := NX.out w2 B2 c0 c3; rw [hkv] at N2; simp only [Nat.zero_mul, Nat.add_zero] at g0 g1 g2 g3; clear hkv) | (go_at_call 9; refine N2.mono ?_; rintro e w3 ⟨rfl, B3, m0, m3⟩))
  go_ret
  exact ⟨ret_b (by rw [HE.out]), B3⟩

set_option maxRecDepth 100000 in
set_option maxHeartbeats 2000000 in
theorem rev_two2 (t : Lf) (ih : ∀ k ∈ t.kids, REv k) (h1 : t.op = 2) (hn1 : t.kids.length = 2) : REv t := by
  intro w ca cc cls hc hk hks
  obtain ⟨b, o, op, x, y, kv, kids⟩ := t
  simp only [Lf.op, Lf.x, Lf.y, Lf.kv, Lf.kids] at ih hk hks h1 hn1 ⊢
  obtain ⟨a, cap, rfl, hcap, hkk⟩ := hk
  obtain ⟨k0, k1, rfl⟩ : ∃ k0 k1, kids = [k0, k1] := by
    match kids, hn1 with
    | [p, q], _ => exact ⟨p, q, rfl⟩
  subst h1
  obtain ⟨kb, ko, rfl, hadr⟩ : ∃ kb ko, a = some ⟨kb, ko, none⟩ ∧ ∀ (j : Nat) (t : Lf), [k0, k1][j]? = some t → t.b = kb ∧ t.o = ko + j * 4 := by
    rcases hkk with e | h
    · cases e
    · exact h
  have HE : Hid (evF cls (Lf.er (.mk b o 2 x y (.slice (some ⟨kb, ko, none⟩) 2 cap) [k0, k1])) = (evF cls k0.er && evF cls k1.er)) := by
    show _ = _
    simp [Lf.er, evF, evN]
  have RK := rkids_box w 2 x y (some ⟨kb, ko, none⟩) 2 cap
  have hw : whN 2 2 = true := rfl
  rw [hw] at RK
  have NX : Hid _ := @rev_kid w ca cc cls hc [k0, k1] hks ih 2 (.slice (some ⟨kb, ko, none⟩) 2 cap) 0 k0 rfl
  have NY : Hid _ := @rev_kid w ca cc cls hc [k0, k1] hks ih 2 (.slice (some ⟨kb, ko, none⟩) 2 cap) 1 k1 rfl
  have C0 : Hid _ := kid_cells hks hadr 0 k0 rfl
  have C1 : Hid _ := kid_cells hks hadr 1 k1 rfl
  clear hks ih hadr hc hkk hn1 hw
  generalize evF cls k0.er = p at *
  generalize evF cls k1.er = q at *
  go_enter Try.func9, Try.ntmps9
  cases p <;>
    (go_wp2_with (first | (go_at_call 22; refine RK.mono ?_; rintro e w2 ⟨rfl, B2, c0, c3⟩; obtain ⟨g0, g1, g2, sa, sn, sc, hkv, g3⟩ := C0.out w2 B2; have N2 := NX.out w2 B2 c0 c3; rw [hkv] at N2; simp only [Nat.zero_mul, Nat.add_zero] at g0 g1 g2 g3; clear hkv) | (go_at_call 9; refine N3.mono ?_; rintro e w4 ⟨rfl, B4, n0, n3⟩) | (go_at_call 9; refine N2.mono ?_; clear c0 c3 g0 g1 g2 g3; rintro e w3 ⟨rfl, B3, m0, m3⟩; obtain ⟨i0, i1, i2, sa', sn', sc', hkv', i3⟩ := C1.out w3 B3; have N3 := NY.out w3 B3 m0 m3; rw [hkv'] at N3; simp only [Nat.one_mul, Nat.add_assoc, Nat.reduceAdd] at i0 i1 i2 i3; clear hkv'))
     go_ret
     exact ⟨ret_b (by rw [HE.out]; simp), B4⟩)

set_option maxRecDepth 100000 in
set_option maxHeartbeats 2000000 in
theorem rev_two3 (t : Lf) (ih : ∀ k ∈ t.kids, REv k) (h1 : t.op = 3) (hn1 : t.kids.length = 2) : REv t := by
  intro w ca cc cls hc hk hks
  obtain ⟨b, o, op, x, y, kv, kids⟩ := t
  simp only [Lf.op, Lf.x, Lf.y, Lf.kv, Lf.kids] at ih hk hks h1 hn1 ⊢
  obtain ⟨a, cap, rfl, hcap, hkk⟩ := hk
  obtain ⟨k0, k1, rfl⟩ : ∃ k0 k1, kids = [k0, k1] := by
    match kids, hn1 with
    | [p, q], _ => exact ⟨p, q, rfl⟩
  subst h1
  obtain ⟨kb, ko, rfl, hadr⟩ : ∃ kb ko, a = some ⟨kb, ko, none⟩ ∧ ∀ (j : Nat) (t : Lf), [k0, k1][j]? = some t → t.b = kb ∧ t.o = ko + j * 4 := by
    rcases hkk with e | h
    · cases e
    · exact h
  have HE : Hid (evF cls (Lf.er (.mk b o 3 x y (.slice (some ⟨kb, ko, none⟩) 2 cap) [k0, k1])) = (evF cls k0.er || evF cls k1.er)) := by
    show _ = _
    simp [Lf.er, evF, evN]
  have RK := rkids_box w 3 x y (some ⟨kb, ko, none⟩) 2 cap
  have hw : whN 3 2 = true := rfl
  rw [hw] at RK
  have NX : Hid _ := @rev_kid w ca cc cls hc [k0, k1] hks ih 3 (.slice (some ⟨kb, ko, none⟩) 2 cap) 0 k0 rfl
  have NY : Hid _ := @rev_kid w ca cc cls hc [k0, k1] hks ih 3 (.slice (some ⟨kb, ko, none⟩) 2 cap) 1 k1 rfl
  have C0 : Hid _ := kid_cells hks hadr 0 k0 rfl
  have C1 : Hid _ := kid_cells hks hadr 1 k1 rfl
  clear hks ih hadr hc hkk hn1 hw
  generalize evF cls k0.er = p at *
  generalize evF cls k1.er = q at *
  go_enter Try.func9, Try.ntmps9
  cases p <;>
    (go_wp2_with (first | (go_at_call 22; refine RK.mono ?_; rintro e w2 ⟨rfl, B2, c0, c3⟩; obtain ⟨g0, g1, g2, sa, sn, sc, hkv, g3⟩ := C0.out w2 B2; have N2 := NX.out w2 B2 c0 c3; rw [hkv] at N2; simp only [Nat.zero_mul, Nat.add_zero] at g0 g1 g2 g3; clear hkv) | (go_at_call 9; refine N3.mono ?_; rintro e w4 ⟨rfl, B4, n0, n3⟩) | (go_at_call 9; refine N2.mono ?_; clear c0 c3 g0 g1 g2 g3; rintro e w3 ⟨rfl, B3, m0, m3⟩; obtain ⟨i0, i1, i2, sa', sn', sc', hkv', i3⟩ := C1.out w3 B3; have N3 := NY.out w3 B3 m0 m3; rw [hkv'] at N3; simp only [Nat.one_mul, Nat.add_assoc, Nat.reduceAdd] at i0 i1 i2 i3; clear hkv'))
     go_ret
     exact ⟨ret_b (by rw [HE.out]; simp), B4⟩)

set_option maxRecDepth 100000 in
set_option maxHeartbeats 2000000 in
theorem rev_two4 (t : Lf) (ih : ∀ k ∈ t.kids, REv k) (h1 : t.op = 4) (hn1 : t.kids.length = 2) : REv t := by
  intro w ca cc cls hc hk hks
  obtain ⟨b, o, op, x, y, kv, kids⟩ := t
  simp only [Lf.op, Lf.x, Lf.y, Lf.kv, Lf.kids] at ih hk hks h1 hn1 ⊢
  obtain ⟨a, cap, rfl, hcap, hkk⟩ := hk
  obtain ⟨k0, k1, rfl⟩ : ∃ k0 k1, kids = [k0, k1] := by
    match kids, hn1 with
    | [p, q], _ => exact ⟨p, q, rfl⟩
  subst h1
  obtain ⟨kb, ko, rfl, hadr⟩ : ∃ kb ko, a = some ⟨kb, ko, none⟩ ∧ ∀ (j : Nat) (t : Lf), [k0, k1][j]? = some t → t.b = kb ∧ t.o = ko + j * 4 := by
    rcases hkk with e | h
    · cases e
    · exact h
  have HE : Hid (evF cls (Lf.er (.mk b o 4 x y (.slice (some ⟨kb, ko, none⟩) 2 cap) [k0, k1])) = (!(evF cls k0.er) || evF cls k1.er)) := by
    show _ = _
    simp [Lf.er, evF, evN]
  have RK := rkids_box w 4 x y (some ⟨kb, ko, none⟩) 2 cap
  have hw : whN 4 2 = true := rfl
  rw [hw] at RK
  have NX : Hid _ := @rev_kid w ca cc cls hc [k0, k1] hks ih 4 (.slice (some ⟨kb, ko, none⟩) 2 cap) 0 k0 rfl
  have NY : Hid _ := @rev_kid w ca cc cls hc [k0, k1] hks ih 4 (.slice (some ⟨kb, ko, none⟩) 2 cap) 1 k1 rfl
  have C0 : Hid _ := kid_cells hks hadr 0 k0 rfl
  have C1 : Hid _ := kid_cells hks hadr 1 k1 rfl
  clear hks ih hadr hc hkk hn1 hw
  generalize evF cls k0.er = p at *
  generalize evF cls k1.er = q at *
  go_enter Try.func9, Try.ntmps9
  cases p <;>
    (go_wp2_with (first | (go_at_call 22; refine RK.mono ?_; rintro e w2 ⟨rfl, B2, c0, c3⟩; obtain ⟨g0, g1, g2, sa, sn, sc, hkv, g3⟩ := C0.out w2 B2; have N2 := NX.out w2 B2 c0 c3; rw [hkv] at N2; simp only [Nat.zero_mul, Nat.add_zero] at g0 g1 g2 g3; clear hkv) | (go_at_call 9; refine N3.mono ?_; rintro e w4 ⟨rfl, B4, n0, n3⟩) | (go_at_call 9; refine N2.mono ?_; clear c0 c3 g0 g1 g2 g3; rintro e w3 ⟨rfl, B3, m0, m3⟩; obtain ⟨i0, i1, i2, sa', sn', sc', hkv', i3⟩ := C1.out w3 B3; have N3 := NY.out w3 B3 m0 m3; rw [hkv'] at N3; simp only [Nat.one_mul, Nat.add_assoc, Nat.reduceAdd] at i0 i1 i2 i3; clear hkv'))
     go_ret
     exact ⟨ret_b (by rw [HE.out]; simp), B4⟩)

/-- The document's Eval. -/
theorem reval : ∀ t : Lf, REv t
  | .mk b o op x y kv kids => by
    have ih : ∀ k ∈ kids, REv k := fun k hk => by
      have := List.sizeOf_lt_of_mem hk
      exact reval k
    by_cases h0 : op = 0
    · exact rev_leaf _ (Or.inl h0)
    · cases hw : whN op kids.length with
      | false => exact rev_leaf _ (Or.inr hw)
      | true =>
        by_cases h1 : op = 1
        · exact rev_one _ ih h1 (by simp [whN, h1] at hw; exact hw)
        · by_cases h2 : op = 2
          · exact rev_two2 _ ih h2 (by simp [whN, h2] at hw; exact hw)
          · by_cases h3 : op = 3
            · exact rev_two3 _ ih h3 (by simp [whN, h3] at hw; exact hw)
            · by_cases h4 : op = 4
              · exact rev_two4 _ ih h4 (by simp [whN, h4] at hw; exact hw)
              · simp [whN, h0, h1, h2, h3, h4] at hw
termination_by t => SizeOf.sizeOf t
decreasing_by simp; omega

end Go.Proofs.Ytinphcnknionmab

namespace Go.Proofs.Ytinphcnknionmab
open Go.RowKit

/-- No Form of it has too many Kids. -/
inductive Szd : Lf → Prop where
  | mk {b o : Nat} {op x y : Int} {kv : Value} {kids : List Lf} (hn : kids.length ≤ 140737488355328) (h : ∀ k ∈ kids, Szd k) : Szd (.mk b o op x y kv kids)

/-- Same says true of two Forms that are the same. -/
def SmT (t : Lf) : Prop := ∀ (u : Lf) (w : World), t.er = u.er → Szd t → KidsIn t.kv t.kids → (∀ k ∈ t.kids, LayC w k) → KidsIn u.kv u.kids → (∀ k ∈ u.kids, LayC w k) →
  Calls Try.prog 8 #[.agg #[.int .i64 t.op, .int .i64 t.x, .int .i64 t.y, t.kv], .agg #[.int .i64 u.op, .int .i64 u.x, .int .i64 u.y, u.kv]] w fun e w' => e = .returned (.bool true) ∧ Below w.heap.size w w'

set_option maxRecDepth 100000 in
set_option maxHeartbeats 2000000 in
theorem smt_step (t : Lf) (ih : ∀ k ∈ t.kids, SmT k) : SmT t := by
  intro u w he hsz hk hks hk2 hks2
  obtain ⟨b, o, op, x, y, kv, kids⟩ := t
  obtain ⟨b2, o2, op2, x2, y2, kv2, kids2⟩ := u
  simp only [Lf.op, Lf.x, Lf.y, Lf.kv, Lf.kids, Lf.er, Fo.mk.injEq] at ih hk hks hk2 hks2 he ⊢
  obtain ⟨rfl, rfl, rfl, hm⟩ := he
  obtain ⟨hnb, hsz2⟩ : kids.length ≤ 140737488355328 ∧ ∀ k ∈ kids, Szd k := by cases hsz with | mk h1 h2 => exact ⟨h1, h2⟩
  obtain ⟨a, cap, rfl, hcap, hkk⟩ := hk
  obtain ⟨a2, cap2, rfl, hcap2, hkk2⟩ := hk2
  have hl : kids.length = kids2.length := by have := congrArg List.length hm; simpa using this
  rw [← hl] at hcap2 ⊢
  generalize hn : kids.length = n at *
  -- at each place: the cells of both Kids, and what Same says of them
  have KD : Hid (∀ (i : Nat), i < n → ∃ k u kb ko kb2 ko2 sa sn sc sa2 sn2 sc2, a = some ⟨kb, ko, none⟩ ∧ a2 = some ⟨kb2, ko2, none⟩ ∧ ∀ W, Below w.heap.size w W → W.cell? ⟨kb, ko + i * 4, none⟩ = some (.int .i64 (Lf.op k)) ∧ W.cell? ⟨kb, ko + i * 4 + 1, none⟩ = some (.int .i64 (Lf.x k)) ∧ W.cell? ⟨kb, ko + i * 4 + 2, none⟩ = some (.int .i64 (Lf.y k)) ∧ W.cell? ⟨kb, ko + i * 4 + 3, none⟩ = some (.slice sa sn sc) ∧
      W.cell? ⟨kb2, ko2 + i * 4, none⟩ = some (.int .i64 (Lf.op u)) ∧ W.cell? ⟨kb2, ko2 + i * 4 + 1, none⟩ = some (.int .i64 (Lf.x u)) ∧ W.cell? ⟨kb2, ko2 + i * 4 + 2, none⟩ = some (.int .i64 (Lf.y u)) ∧ W.cell? ⟨kb2, ko2 + i * 4 + 3, none⟩ = some (.slice sa2 sn2 sc2) ∧
      Calls Try.prog 8 #[.agg #[.int .i64 (Lf.op k), .int .i64 (Lf.x k), .int .i64 (Lf.y k), .slice sa sn sc], .agg #[.int .i64 (Lf.op u), .int .i64 (Lf.x u), .int .i64 (Lf.y u), .slice sa2 sn2 sc2]] W fun e w' => e = .returned (.bool true) ∧ Below W.heap.size W w') := by
    intro i hi
    have g1 : kids[i]? = some kids[i] := List.getElem?_eq_getElem (by omega)
    have g2 : kids2[i]? = some kids2[i] := List.getElem?_eq_getElem (by omega)
    obtain ⟨kb, ko, rfl, ha⟩ : ∃ kb ko, a = some ⟨kb, ko, none⟩ ∧ ∀ (j : Nat) (t : Lf), kids[j]? = some t → t.b = kb ∧ t.o = ko + j * 4 := by
      rcases hkk with e | h
      · exact absurd (hn ▸ congrArg List.length e) (by simp; omega)
      · exact h
    obtain ⟨kb2, ko2, rfl, ha2⟩ : ∃ kb ko, a2 = some ⟨kb, ko, none⟩ ∧ ∀ (j : Nat) (t : Lf), kids2[j]? = some t → t.b = kb ∧ t.o = ko + j * 4 := by
      rcases hkk2 with e | h
      · exact absurd (hl ▸ congrArg List.length e) (by simp; omega)
      · exact h
    have m1 := List.mem_of_getElem? g1
    have m2 := List.mem_of_getElem? g2
    have hee : kids[i].er = kids2[i].er := by
      have := congrArg (·[i]?) hm
      simpa [g1, g2] using this
    generalize kids[i] = k at *
    generalize kids2[i] = u at *
    have d1 := ha i k g1
    have d2 := ha2 i u g2
    obtain ⟨kb0, ko0, kop, kx, ky, kkv, kks⟩ := k
    obtain ⟨ub0, uo0, uop, ux, uy, ukv, uks⟩ := u
    simp only [Lf.b, Lf.o] at d1 d2
    obtain ⟨rfl, rfl⟩ := d1
    obtain ⟨rfl, rfl⟩ := d2
    have hi1 := ih _ m1
    have hz1 := hsz2 _ m1
    obtain ⟨sa, sc, rfl, s1⟩ : KidsIn kkv kks := by cases hks _ m1 with | mk _ _ _ _ h _ => exact h
    obtain ⟨sa2, sc2, rfl, s2⟩ : KidsIn ukv uks := by cases hks2 _ m2 with | mk _ _ _ _ h _ => exact h
    refine ⟨.mk kb0 (ko + i * 4) kop kx ky (.slice sa kks.length sc) kks, .mk ub0 (ko2 + i * 4) uop ux uy (.slice sa2 uks.length sc2) uks, _, _, _, _, sa, kks.length, sc, sa2, uks.length, sc2, rfl, rfl, fun W hB => ?_⟩
    cases (hks _ m1).kept hB with
    | mk q0 q1 q2 q3 q4 q5 =>
      cases (hks2 _ m2).kept hB with
      | mk r0 r1 r2 r3 r4 r5 => exact ⟨q0, q1, q2, q3, r0, r1, r2, r3, hi1 _ W hee hz1 q4 q5 r4 r5⟩
  clear hkk hkk2 hks hks2 ih hm hl hcap hcap2 hsz hsz2
  clear hn
  go_enter Try.func8, Try.ntmps8
  go_wp2_with fail
  go_loopw [5] (fun t5 W => ∃ k : Nat, k ≤ n ∧ t5 = .int .i64 (k : Int) ∧ Below w.heap.size w W ∧ W.cell? ⟨w.heap.size, 3, none⟩ = some (.slice a n cap) ∧ W.cell? ⟨w.heap.size + 1, 3, none⟩ = some (.slice a2 n cap2)) (fun t5 _ => n - (intOf t5).toNat)
  case atStart =>
    refine ⟨0, by omega, rfl, ((Below.refl _ w).alloc (Nat.le_refl _) _).alloc (by simp) _, ?_, ?_⟩ <;> simp [go_sem]
  case round =>
    obtain ⟨k, hk, rfl, B, y1, y2⟩ := hrel
    have z1 := World.block_lt_of_cell? _ _ y1
    have z2 := World.block_lt_of_cell? _ _ y2
    by_cases hk2 : k < n
    · have dk : decide ((k : Int) < (n : Int)) = true := decide_eq_true (by omega)
      obtain ⟨t, u, kb, ko, kb2, ko2, sa, sn, sc, sa2, sn2, sc2, rfl, rfl, hh⟩ := KD.out k hk2
      have BD : Below w.heap.size w wr.drew := B.drew
      obtain ⟨q0, q1, q2, q3, r0, r1, r2, r3, SM⟩ := hh wr.drew BD
      have FIN : Hid (∀ w3, Below wr.drew.heap.size wr.drew w3 → Below w.heap.size w w3 ∧ w3.cell? ⟨w.heap.size, 3, none⟩ = some (.slice (some ⟨kb, ko, none⟩) n cap) ∧ w3.cell? ⟨w.heap.size + 1, 3, none⟩ = some (.slice (some ⟨kb2, ko2, none⟩) n cap2)) := fun w3 B3 => ⟨BD.trans (B3.mono BD.size), (B3.cell (p := ⟨w.heap.size, 3, none⟩) z1).trans y1, (B3.cell (p := ⟨w.heap.size + 1, 3, none⟩) z2).trans y2⟩
      have wrp : IntKind.i64.wrap ((k : Int) + 1) = (k : Int) + 1 := by rw [IntKind.wrap_i64]; omega
      clear hh KD
      generalize t.op = top at *
      generalize t.x = tx at *
      generalize t.y = ty at *
      generalize u.op = uop at *
      generalize u.x = ux at *
      generalize u.y = uy at *
      go_wp2_with fail
      go_region_with (go_at_call 8; refine SM.mono ?_; rintro e w3 ⟨rfl, B3⟩)
      all_goals
        simp only [Act.put, List.getElem_toArray, List.getElem_cons_succ, List.getElem_cons_zero, List.setIfInBounds_toArray, List.set_cons_succ, List.set_cons_zero]
        obtain ⟨f1, f2, f3⟩ := FIN.out w3 B3
        go_wp2_with fail
        exact ⟨⟨k + 1, hk2, by simp, f1, f2, f3⟩, by simp [intOf]; omega⟩
    · have dk : decide ((k : Int) < (n : Int)) = false := decide_eq_false (by omega)
      clear KD
      go_wp2_with fail
      go_ret
      exact ⟨rfl, B⟩

/-- Same says true of Forms that are the same. -/
theorem smt : ∀ t : Lf, SmT t
  | .mk b o op x y kv kids => smt_step _ fun k hk => by
    have : k ∈ kids := hk
    have := List.sizeOf_lt_of_mem this
    exact smt k
termination_by t => SizeOf.sizeOf t
decreasing_by simp; omega

end Go.Proofs.Ytinphcnknionmab
