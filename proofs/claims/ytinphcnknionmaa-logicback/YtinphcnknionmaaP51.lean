/- law05's nested. LogicBack: its walk. LogicBack: its walk, whole. LogicBack: the statement. -/
import Derived.Test.YtinphcnknionmaaP50
import Derived.Test.YtinphcnknionmaaP40
import Derived.Test.YtinphcnknionmaaP49
namespace Go.Proofs.Ytinphcnknionmaa
open Go.RowKit

def NsT (t : Lf) : Prop := ∀ (w : World), KidsIn t.kv t.kids → (∀ k ∈ t.kids, LayC w k) → WfF t.er → Sp.nestF t.er ≤ 1000000 →
  Calls Try.prog 65 #[.agg #[.int .i64 t.op, .int .i64 t.x, .int .i64 t.y, t.kv]] w fun e w' => e = .returned (.int .i64 (Sp.nestF t.er : Int)) ∧ Below w.heap.size w w'

def mxK (xs : List Nat) (j : Nat) : Nat := (xs.take j).foldl max 0
theorem mxK_succ {xs : List Nat} {j : Nat} {x : Nat} (h : xs[j]? = some x) : mxK xs (j + 1) = max (mxK xs j) x := by
  unfold mxK
  rw [List.take_add_one, h]
  simp

theorem fold_le {B : Nat} : ∀ (xs : List Nat) (a : Nat), a ≤ B → (∀ x ∈ xs, x ≤ B) → xs.foldl max a ≤ B
  | [], _, h, _ => h
  | x :: xs, a, h, hx => fold_le xs (max a x) (Nat.max_le.2 ⟨h, hx x (by simp)⟩) (fun y hy => hx y (by simp [hy]))
theorem mxK_le {B : Nat} {xs : List Nat} (h : ∀ x ∈ xs, x ≤ B) (j : Nat) : mxK xs j ≤ B := fold_le _ 0 (Nat.zero_le _) (fun x hx => h x (List.mem_of_mem_take hx))

/-- Behind a Kid. -/
theorem ns_kid {w : World} {kids : List Lf} (hks : ∀ k ∈ kids, LayC w k) (ih : ∀ k ∈ kids, NsT k) {kv : Value} (hw : ∀ k ∈ kids, WfF k.er) (hn : ∀ k ∈ kids, Sp.nestF k.er ≤ 1000000)
    (j : Nat) (k : Lf) (hj : kids[j]? = some k) (w2 : World) (hB : Below w.heap.size w w2) (e3 : w2.cell? ⟨w.heap.size, 3, none⟩ = some kv) :
    Calls Try.prog 65 #[.agg #[.int .i64 k.op, .int .i64 k.x, .int .i64 k.y, k.kv]] w2 fun e w' => e = .returned (.int .i64 (Sp.nestF k.er : Int)) ∧ Below w.heap.size w w' ∧ w'.cell? ⟨w.heap.size, 3, none⟩ = some kv := by
  have hm := List.mem_of_getElem? hj
  have hl := (hks k hm).kept hB
  have hz := World.block_lt_of_cell? w2 _ e3
  have hi := ih k hm w2
  have hw' := hw k hm
  have hn' := hn k hm
  cases hl with
  | mk d0 d1 d2 d3 dk dh =>
    refine (hi dk dh hw' hn').mono ?_
    rintro e w' ⟨rfl, B⟩
    exact ⟨rfl, hB.trans (B.mono hB.size), (B.cell (p := ⟨w.heap.size, 3, none⟩) hz).trans e3⟩

set_option maxRecDepth 100000 in
set_option maxHeartbeats 2000000 in
/-- A Form whose Kids are gone through. -/
theorem ns_loop (op x y : Int) (kb ko cap : Nat) (kids : List Lf) (hlen : kids.length ≤ 2) (w : World) (hks : ∀ k ∈ kids, LayC w k) (ih : ∀ k ∈ kids, NsT k) (hw : ∀ k ∈ kids, WfF k.er) (hn : ∀ k ∈ kids, Sp.nestF k.er ≤ 1000000)
    (hadr : ∀ (j : Nat) (t : Lf), kids[j]? = some t → t.b = kb ∧ t.o = ko + j * 4) (h0 : ¬ op = 0) (h1 : op = 1 → ∃ k, kids[0]? = some k ∧ ¬ k.op = 0) :
    Calls Try.prog 65 #[.agg #[.int .i64 op, .int .i64 x, .int .i64 y, .slice (some ⟨kb, ko, none⟩) kids.length cap]] w fun e w' => e = .returned (.int .i64 ((mxK (kids.map fun k => Sp.nestF k.er) kids.length + 1 : Nat) : Int)) ∧ Below w.heap.size w w' := by
  have KA : Below w.heap.size w (w.alloc (.cells #[.int .i64 op, .int .i64 x, .int .i64 y, .slice (some ⟨kb, ko, none⟩) kids.length cap] 94)) := (Below.refl _ w).alloc (Nat.le_refl _) _
  have R1 := made_row w #[.int .i64 op, .int .i64 x, .int .i64 y, .slice (some ⟨kb, ko, none⟩) kids.length cap] 94
  have c0 : (w.alloc (.cells #[.int .i64 op, .int .i64 x, .int .i64 y, .slice (some ⟨kb, ko, none⟩) kids.length cap] 94)).cell? ⟨w.heap.size, 0, none⟩ = some (.int .i64 op) := R1.cell (i := 0) (by simp)
  have c3 : (w.alloc (.cells #[.int .i64 op, .int .i64 x, .int .i64 y, .slice (some ⟨kb, ko, none⟩) kids.length cap] 94)).cell? ⟨w.heap.size, 3, none⟩ = some (.slice (some ⟨kb, ko, none⟩) kids.length cap) := R1.cell (i := 3) (by simp)
  have d0 : (op == 0) = false := by simpa using h0
  have NX : Hid _ := @ns_kid w kids hks ih (.slice (some ⟨kb, ko, none⟩) kids.length cap) hw hn
  have CC : Hid _ := kid_cells hks hadr
  have HM : Hid (∀ j, mxK (kids.map fun k => Sp.nestF k.er) j ≤ 1000000) := fun j => mxK_le (fun x hx => by
    obtain ⟨k, hk, rfl⟩ := List.mem_map.1 hx
    exact hn k hk) j
  have HX : Hid (∀ j k, kids[j]? = some k → mxK (kids.map fun k => Sp.nestF k.er) (j + 1) = max (mxK (kids.map fun k => Sp.nestF k.er) j) (Sp.nestF k.er)) := fun j k hk => mxK_succ (by rw [List.getElem?_map, hk]; rfl)
  have hm0 : mxK (kids.map fun k => Sp.nestF k.er) 0 = 0 := by simp [mxK]
  generalize (kids.map fun k => Sp.nestF k.er) = xs at *
  clear hks ih hw hn hadr R1
  by_cases h1' : op = 1
  · subst h1'
    obtain ⟨k, hk, hk0⟩ := h1 rfl
    obtain ⟨g0, _⟩ := CC.out 0 k hk _ KA
    have dk : (k.op == 0) = false := by simpa using hk0
    have hpos : 0 < kids.length := (List.getElem?_eq_some_iff.1 hk).1
    have dpos : decide ((0 : Int) < (kids.length : Int)) = true := decide_eq_true (by omega)
    simp only [Nat.zero_mul, Nat.add_zero] at g0
    clear h1 hk0 hk
    go_enter Try.func65, Try.ntmps65
    go_wp2_with fail
    go_loopw [3, 4] (fun t3 t4 W => ∃ j : Nat, j ≤ kids.length ∧ t3 = .int .i64 (mxK xs j : Int) ∧ t4 = .int .i64 (j : Int) ∧ Hid (Below w.heap.size w W) ∧ W.cell? ⟨w.heap.size, 3, none⟩ = some (.slice (some ⟨kb, ko, none⟩) kids.length cap)) (fun _ t4 _ => kids.length - (intOf t4).toNat)
    case atStart => exact ⟨0, by omega, by rw [hm0]; rfl, rfl, KA, c3⟩
    case round =>
      obtain ⟨j, hj, rfl, rfl, BW, e3⟩ := hrel
      by_cases hj2 : j < kids.length
      · have dj : decide ((j : Int) < (kids.length : Int)) = true := decide_eq_true (by omega)
        have hkj : kids[j]? = some kids[j] := List.getElem?_eq_getElem hj2
        obtain ⟨g0, g1, g2, sa, sn, sc, hkv, g3⟩ := CC.out j kids[j] hkj wr BW.out
        have N2 := NX.out j kids[j] hkj wr BW.out e3
        have hmx : Hid (mxK xs (j + 1) = max (mxK xs j) (Sp.nestF kids[j].er)) := HX.out j kids[j] hkj
        have hb1 := HM.out j
        rw [hkv] at N2
        generalize kids[j] = k at *
        generalize Sp.nestF k.er = nk at *
        generalize mxK xs j = mj at *
        clear hkv hkj NX CC HX c3
        go_wp2_with (first | (go_at_call 65; refine N2.mono ?_; rintro e w3 ⟨rfl, B3, m3⟩))
        refine ⟨⟨j + 1, hj2, ?_, by simp, B3, m3⟩, by simp [intOf]; omega⟩
        rw [hmx.out]
        congr 1
        omega
      · have dj : decide ((j : Int) < (kids.length : Int)) = false := decide_eq_false (by omega)
        obtain rfl : j = kids.length := by omega
        have hb1 := HM.out kids.length
        clear NX CC HX c3
        go_wp2_with fail
        go_ret
        exact ⟨by simp, BW.out⟩
  · have d1 : (op == 1) = false := by simpa using h1'
    clear h1
    go_enter Try.func65, Try.ntmps65
    go_wp2_with fail
    go_loopw [3, 4] (fun t3 t4 W => ∃ j : Nat, j ≤ kids.length ∧ t3 = .int .i64 (mxK xs j : Int) ∧ t4 = .int .i64 (j : Int) ∧ Hid (Below w.heap.size w W) ∧ W.cell? ⟨w.heap.size, 3, none⟩ = some (.slice (some ⟨kb, ko, none⟩) kids.length cap)) (fun _ t4 _ => kids.length - (intOf t4).toNat)
    case atStart => exact ⟨0, by omega, by rw [hm0]; rfl, rfl, KA, c3⟩
    case round =>
      obtain ⟨j, hj, rfl, rfl, BW, e3⟩ := hrel
      by_cases hj2 : j < kids.length
      · have dj : decide ((j : Int) < (kids.length : Int)) = true := decide_eq_true (by omega)
        have hkj : kids[j]? = some kids[j] := List.getElem?_eq_getElem hj2
        obtain ⟨g0, g1, g2, sa, sn, sc, hkv, g3⟩ := CC.out j kids[j] hkj wr BW.out
        have N2 := NX.out j kids[j] hkj wr BW.out e3
        have hmx : Hid (mxK xs (j + 1) = max (mxK xs j) (Sp.nestF kids[j].er)) := HX.out j kids[j] hkj
        have hb1 := HM.out j
        rw [hkv] at N2
        generalize kids[j] = k at *
        generalize Sp.nestF k.er = nk at *
        generalize mxK xs j = mj at *
        clear hkv hkj NX CC HX c3
        go_wp2_with (first | (go_at_call 65; refine N2.mono ?_; rintro e w3 ⟨rfl, B3, m3⟩))
        refine ⟨⟨j + 1, hj2, ?_, by simp, B3, m3⟩, by simp [intOf]; omega⟩
        rw [hmx.out]
        congr 1
        omega
      · have dj : decide ((j : Int) < (kids.length : Int)) = false := decide_eq_false (by omega)
        obtain rfl : j = kids.length := by omega
        have hb1 := HM.out kids.length
        clear NX CC HX c3
        go_wp2_with fail
        go_ret
        exact ⟨by simp, BW.out⟩

set_option maxRecDepth 100000 in
set_option maxHeartbeats 2000000 in
theorem ns_zero (w : World) (x y : Int) (a : Option Addr) (n cap : Nat) :
    Calls Try.prog 65 #[.agg #[.int .i64 0, .int .i64 x, .int .i64 y, .slice a n cap]] w fun e w' => e = .returned (.int .i64 0) ∧ Below w.heap.size w w' := by
  have KA : Below w.heap.size w (w.alloc (.cells #[.int .i64 0, .int .i64 x, .int .i64 y, .slice a n cap] 94)) := (Below.refl _ w).alloc (Nat.le_refl _) _
  go_enter Try.func65, Try.ntmps65
  go_wp2_with fail
  go_ret
  exact ⟨rfl, KA⟩
set_option maxRecDepth 100000 in
set_option maxHeartbeats 2000000 in
theorem ns_one (w : World) (x y : Int) (kb ko cap : Nat) (c : w.cell? ⟨kb, ko, none⟩ = some (.int .i64 0)) :
    Calls Try.prog 65 #[.agg #[.int .i64 1, .int .i64 x, .int .i64 y, .slice (some ⟨kb, ko, none⟩) 1 cap]] w fun e w' => e = .returned (.int .i64 0) ∧ Below w.heap.size w w' := by
  have KA : Below w.heap.size w (w.alloc (.cells #[.int .i64 1, .int .i64 x, .int .i64 y, .slice (some ⟨kb, ko, none⟩) 1 cap] 94)) := (Below.refl _ w).alloc (Nat.le_refl _) _
  have hlt := World.block_lt_of_cell? w _ c
  have hlt' : kb < w.heap.size := hlt
  go_enter Try.func65, Try.ntmps65
  go_wp2_with fail
  go_ret
  exact ⟨rfl, KA⟩

theorem nst' {f : Fo} (h : WfF f) : ∀ t : Lf, t.er = f → NsT t := by
  induction h with
  | eq x0 y0 =>
    intro t ht w hk hks hw hn
    obtain ⟨h1, _, _, _⟩ := Lf.er_kids ht
    obtain ⟨a, cap, hkv, _⟩ := hk
    rw [h1, hkv, ht, show Sp.nestF (.mk 0 x0 y0 []) = 0 by simp [Sp.nestF]]
    exact ns_zero w _ _ a _ cap
  | neg g hg ih =>
    intro t ht w hk hks hw hn
    obtain ⟨h1, _, _, h4⟩ := Lf.er_kids ht
    obtain ⟨k, hkk, hke⟩ := map_one h4
    obtain ⟨a, cap, hkv, _, hor⟩ := hk
    rw [ht] at hn ⊢
    rw [h1, hkv]
    rw [hkk] at hks hor ⊢
    obtain ⟨kb, ko, rfl, hadr⟩ : ∃ kb ko, a = some ⟨kb, ko, none⟩ ∧ ∀ (j : Nat) (t : Lf), [k][j]? = some t → t.b = kb ∧ t.o = ko + j * 4 := by
      rcases hor with e | e
      · cases e
      · exact e
    rw [Sp.nestF_neg] at hn ⊢
    have hop : k.op = g.op := by rw [← hke]; exact (Lf.er_op k).symm
    by_cases h0 : g.op = 0
    · rw [if_pos h0]
      have hl := hks k (by simp)
      obtain ⟨e1, e2⟩ := hadr 0 k rfl
      cases hl with
      | mk d0 d1 d2 d3 dk dh =>
        simp only [Lf.b, Lf.o, Lf.op] at e1 e2 hop
        subst e1
        rw [Nat.zero_mul, Nat.add_zero] at e2
        subst e2
        rw [hop, h0] at d0
        exact ns_one w _ _ _ _ cap d0
    · rw [if_neg h0] at hn ⊢
      have R := ns_loop 1 t.x t.y kb ko cap [k] (by simp) w hks (fun u hu => by obtain rfl := List.mem_singleton.1 hu; exact ih _ hke) (fun u hu => by obtain rfl := List.mem_singleton.1 hu; rw [hke]; exact hg) (fun u hu => by obtain rfl := List.mem_singleton.1 hu; rw [hke]; omega) hadr (by decide) (fun _ => ⟨k, rfl, by rw [hop]; exact h0⟩)
      have e : mxK ([k].map fun k => Sp.nestF k.er) [k].length = Sp.nestF g := by simp [mxK, hke]
      rw [e] at R
      exact R
  | two o g1 g2 ho hg1 hg2 ih1 ih2 =>
    intro t ht w hk hks hw hn
    obtain ⟨h1, _, _, h4⟩ := Lf.er_kids ht
    obtain ⟨k1, k2, hkk, hk1, hk2⟩ := map_two h4
    obtain ⟨a, cap, hkv, _, hor⟩ := hk
    rw [ht] at hn ⊢
    rw [h1, hkv]
    rw [hkk] at hks hor ⊢
    obtain ⟨kb, ko, rfl, hadr⟩ : ∃ kb ko, a = some ⟨kb, ko, none⟩ ∧ ∀ (j : Nat) (t : Lf), [k1, k2][j]? = some t → t.b = kb ∧ t.o = ko + j * 4 := by
      rcases hor with e | e
      · cases e
      · exact e
    rw [Sp.nestF_two o ho] at hn ⊢
    have m1 : Sp.nestF g1 ≤ max (Sp.nestF g1) (Sp.nestF g2) := Nat.le_max_left _ _
    have m2 : Sp.nestF g2 ≤ max (Sp.nestF g1) (Sp.nestF g2) := Nat.le_max_right _ _
    have both : ∀ {P : Lf → Prop}, P k1 → P k2 → ∀ u ∈ [k1, k2], P u := fun p1 p2 u hu => by
      simp at hu
      rcases hu with rfl | rfl
      · exact p1
      · exact p2
    have R := ns_loop o t.x t.y kb ko cap [k1, k2] (by simp) w hks (both (ih1 _ hk1) (ih2 _ hk2)) (both (by rw [hk1]; exact hg1) (by rw [hk2]; exact hg2)) (both (by rw [hk1]; omega) (by rw [hk2]; omega)) hadr (by rcases ho with rfl | rfl | rfl <;> decide) (fun x => by rcases ho with rfl | rfl | rfl <;> cases x)
    have e : mxK ([k1, k2].map fun k => Sp.nestF k.er) [k1, k2].length = max (Sp.nestF g1) (Sp.nestF g2) := by simp [mxK, hk1, hk2]
    rw [e] at R
    exact R
theorem nst (t : Lf) (h : WfF t.er) : NsT t := nst' h t rfl

end Go.Proofs.Ytinphcnknionmaa

namespace Go.Proofs.Ytinphcnknionmaa
open Go.RowKit

def NqR : Res Fo → Prop
  | .ok _ _ l => Sp.Nq l
  | .bad _ _ l => Sp.Nq l
theorem NqR.bind {R : Res Fo} (h : NqR R) {g : Fo → Nat → List Tm → Res Fo} (hg : ∀ a k l, Sp.Nq l → NqR (g a k l)) : NqR (R.bind g) := by
  cases R with
  | ok a k l => exact hg a k l h
  | bad c q l => exact h
theorem lTerm_nq {s : ByteArray} {i : Nat} {l : List Tm} (h : Sp.Nq l) : Sp.Nq (lTerm s i l).list := by
  unfold lTerm
  split <;> exact h.read _
theorem gEqu_nq (s : ByteArray) (i : Nat) (l : List Tm) (h : Sp.Nq l) : NqR (gEqu s i l) := by
  unfold gEqu
  have m1 := lTerm_nq (s := s) (i := i) h
  cases h1 : lTerm s i l with
  | bad e p l1 => rw [h1] at m1; exact m1
  | ok a k l1 =>
    rw [h1] at m1
    simp only [Res.bind]
    generalize (if byt s k = 33 then k + 1 else k) = q
    split
    · have m2 := lTerm_nq (s := s) (i := bl s (q + 1)) (l := l1) m1
      cases h2 : lTerm s (bl s (q + 1)) l1 with
      | bad e p l2 => rw [h2] at m2; exact m2
      | ok b k2 l2 => rw [h2] at m2; exact m2
    · exact m1
theorem gp_nq (s : ByteArray) : ∀ f : Nat, (∀ lev d i l, Sp.Nq l → NqR (gp s f lev d i l)) ∧ (∀ lev d i l a, Sp.Nq l → NqR (gl s f lev d i l a))
  | 0 => ⟨fun _ _ _ _ h => (by rw [gp]; exact h), fun _ _ _ _ _ h => (by rw [gl]; exact h)⟩
  | f + 1 => by
    obtain ⟨IP, IL⟩ := gp_nq s f
    constructor
    · intro lev d i l h
      rw [gp]
      split
      · refine (IP 1 d i l h).bind fun a k l1 ha => ?_
        split
        · split
          · exact (IP 0 d (bl s (k + 1 + 1)) l1 ha).bind fun b k2 l2 hb => hb
          · exact ha
        · exact ha
      · split
        · split
          · split
            · exact h
            · exact (IP 3 (d + 1) (bl s (i + 1)) l h).bind fun a k l1 ha => ha
          · split
            · split
              · exact h
              · refine (IP 0 (d + 1) (bl s (i + 1)) l h).bind fun a k l1 ha => ?_
                split
                · exact ha
                · exact ha
            · exact gEqu_nq s i l h
        · exact (IP (lev + 1) d i l h).bind fun a k l1 ha => IL lev d k l1 a ha
    · intro lev d i l a h
      rw [gl]
      split
      · exact (IP (lev + 1) d (bl s (i + 1)) l h).bind fun b k2 l2 hb => IL lev d k2 l2 _ hb
      · exact h
theorem gParse_nq (s : ByteArray) (l : List Tm) (h : Sp.Nq l) : Sp.Nq (gParse s l).2.2.2 := by
  unfold gParse
  split
  · exact h
  · unfold gWhole
    have n := (gp_nq s (6 * s.size + 5)).1 0 0 (bl s 0) l h
    cases h1 : gp s (6 * s.size + 5) 0 0 (bl s 0) l with
    | bad c q l' => rw [h1] at n; exact n
    | ok f k l' =>
      rw [h1] at n
      simp only
      split <;> exact n

/-- What is shown is parsed again. -/
theorem Pa5.again {w W : World} {p : Nat} {ev : Value} {nb fb : Nat} {l : List Tm} {av : Value} {vs : List Value} (h : Pa5 w W p ev nb fb l av vs) (s : ByteArray) (f : Fo) (hp : gParse s l = (f, 0, 0, l)) :
    Calls Try.prog 58 #[.pointer (some ⟨p, 0, none⟩), .string s] W fun e W2 => ∃ op x y a n cap, e = .returned (.tuple #[.agg #[.int .i64 op, .int .i64 x, .int .i64 y, .slice a n cap], .int .i64 0, .int .i64 0]) ∧
      ∃ ev2, Pa5 w W2 p ev2 nb fb l av vs ∧ FIs W2 (.agg #[.int .i64 op, .int .i64 x, .int .i64 y, .slice a n cap]) f ∧ RKeep (fun _ => True) W W2 := by
  have G := gParse_in W w.heap.size p ev nb fb l h.b h.kl.len h.bel.size s
  rw [hp] at G
  refine G.mono ?_
  rintro e W2 ⟨v, rfl, V2, ev2, B2, K2, R2, _⟩
  obtain ⟨op, x, y, a, n, cap, rfl⟩ := V2.form
  exact ⟨op, x, y, a, n, cap, rfl, ev2, ⟨B2, h.ls.keptS K2 (fun k c T fz hk h1 h2 => h.b.apart hk h1 h2), h.kl, h.bel.trans (Kept.below K2 h.bel.size (fun k e => h.b.foot_ge e))⟩, V2.is, RKeep.of_kept K2 (fun k hk c fz hx => h.b.apart hx (by decide) (by decide) hk) _⟩

theorem nest5 (w : World) (z : Value) (f : Fo) (hz : RVal (fun _ => True) w z f) (hw : WfF f) (hn : Sp.nestF f ≤ 1000000) : Calls Try.prog 65 #[z] w fun e w' => e = .returned (.int .i64 (Sp.nestF f : Int)) ∧ Below w.heap.size w w' := by
  obtain ⟨op, x, y, kv, kids, rfl, h1, h2, rfl⟩ := hz
  have e1 : (Lf.mk 0 0 op x y kv kids).er = .mk op x y (kids.map Lf.er) := by rw [Lf.er]
  have R := nst (.mk 0 0 op x y kv kids) (by rw [e1]; exact hw) w h1 (fun k hkk => (h2 k hkk).layC) (by rw [e1]; exact hw) (by rw [e1]; exact hn)
  rw [e1] at R
  exact R
theorem nestF_le {f : Fo} (h : WfF f) : Sp.nestF f ≤ szF f := by
  induction h with
  | eq x y => simp [Sp.nestF]
  | neg f hf ih =>
    have h3 : szF (.mk 1 0 0 [f]) = szF f + 2 := szF_neg f
    rw [Sp.nestF_neg, h3]
    split <;> omega
  | two o f g ho hf hg ih1 ih2 =>
    have h3 : szF (.mk o 0 0 [f, g]) = szF f + szF g + 3 := szF_two o ho f g
    rw [Sp.nestF_two o ho, h3]
    omega

end Go.Proofs.Ytinphcnknionmaa

namespace Go.Proofs.Ytinphcnknionmaa
open Go.RowKit

set_option maxHeartbeats 4000000 in
set_option maxRecDepth 100000 in
theorem backs_in (w : World) (a : Option Addr) (cp : Nat) (ss : List ByteArray) (hT : Texts w a ss) (hm : ss.length ≤ maxLen) :
    Calls Try.prog 14 #[.slice a ss.length cp] w fun e w' => e = .returned (.bool true) ∧ Below w.heap.size w w' := by
  unfold maxLen at hm
  have NEW1 := tNew_any w
  go_enter Try.func14, Try.ntmps14
  go_wp2_with (first | (go_at_call 15; refine NEW1.mono ?_; rintro e w1 ⟨p, nb, fb, rfl, H1, B1⟩))
  have P0 : Pa5 w w1 p (.slice none 0 0) nb fb [] (.slice none 0 0) [] := ⟨H1, ⟨rfl, World.ownsRow_nil _ _ _ _, by simp⟩, Kp.nil, B1⟩
  clear NEW1 H1 B1
  go_loopw [4, 5] (fun t4 t5 W => ∃ k : Nat, k ≤ ss.length ∧ t5 = .int .i64 (k : Int) ∧ ∃ ev l vs, Pa5 w W p ev nb fb l t4 vs ∧ Hid (Sp.Nq l)) (fun _ t5 _ => ss.length - (intOf t5).toNat)
  case atStart => exact ⟨0, by omega, rfl, _, _, _, P0, Sp.Nq.nil⟩
  case round =>
    clear P0
    obtain ⟨k, hk, rfl, ev, l, vs, P, NQ⟩ := hrel
    by_cases hk2 : k < ss.length
    · have dk : decide ((k : Int) < (ss.length : Int)) = true := decide_eq_true (by omega)
      rcases hT with e | ⟨b, off, rfl, hb, hc⟩
      · rw [e] at hk2; simp at hk2
      · have hs : ss[k]? = some ss[k] := List.getElem?_eq_getElem hk2
        have ck := hc k _ hs
        generalize ss[k] = s at ck hs
        have c1 := (P.bel.cell (p := ⟨b, off + k, none⟩) hb).trans ck
        obtain ⟨aa, ac, rfl⟩ := P.form
        have PP := P.parse s
        have hni := gParse_nice s l P.kl
        have hin := gParse_inf s l
        have hnq := gParse_nq s l NQ.out
        clear NQ
        generalize gParse s l = G at *
        obtain ⟨f, eN, aN, l'⟩ := G
        simp only at PP hni hin hnq
        have HNQ : Hid (Sp.Nq l') := hnq
        clear hnq
        have HIN : Hid (eN = 0 → InF l' f) := hin
        clear hin
        obtain ⟨hwf, hsz, _⟩ := hni
        clear hs hc P
        go_wp2_with (first | (go_at_call 58; refine PP.mono ?_; rintro e w2 ⟨op2, x2, y2, a2, n2, cap2, rfl, bel2, PR⟩; have c2 := (bel2.cell (p := ⟨b, off + k, none⟩) hb).trans ck; have hb2 : b < w2.heap.size := Nat.lt_of_lt_of_le hb bel2.size) | (go_at_call 59; refine PR.mono ?_; rintro e w4 ⟨z4, av4, rfl, ev4, vs4, P4, F4, V4, K4⟩; obtain ⟨op4, x4, y4, a4, n4, cap4, rfl⟩ := V4.form; obtain ⟨aa4, ac4, rfl⟩ := P4.form; refine Aside.out ?_))
        delta Aside
        have K5 : Kept0 w4 (w4.alloc (.cells #[.int .i64 op4, .int .i64 x4, .int .i64 y4, .slice a4 n4 cap4] 94)) := Kept.alloc (Kept.refl _ w4) _
        have FB4 := made_form w2 (.int .i64 op2) (.int .i64 x2) (.int .i64 y2) (.slice a2 n2 cap2)
        have FB5 := (FB4.of_block (K4.block _ (World.rowIs.lt FB4) (fun e => e))).of_block (K5.block w2.heap.size (Nat.lt_of_lt_of_le (World.rowIs.lt FB4) K4.size) (fun e => e))
        have GB5 := Q5.made_formR w4 (.int .i64 op4) (.int .i64 x4) (.int .i64 y4) (.slice a4 n4 cap4)
        have P5 := P4.kept0 K5
        have F5 := F4.keep (Kept.below K5 (Nat.le_refl _) (fun _ e => e.elim))
        have V5 := V4.keep (RKeep.kept0 K5 _)
        obtain ⟨f0, f1, f2, f3⟩ := form_cells FB5
        obtain ⟨g0, g1, g2, g3⟩ := Q5.form_cellsR GB5
        have H5 : Hid (_ ∧ _ ∧ _ ∧ _ ∧ _) := And.intro P5 (And.intro F5 (And.intro V5 (And.intro FB5 GB5)))
        clear P5 F5 V5 FB5 GB5 FB4 K5 P4 F4 V4 K4 PR PP c2 c1 ck hb hb2 bel2
        generalize hgx : w4.heap.size = gx at *
        generalize hw5 : w4.alloc (.cells #[.int .i64 op4, .int .i64 x4, .int .i64 y4, .slice a4 n4 cap4] 94) = w5 at *
        generalize w2.heap.size = fx at *
        by_cases he : eN = 0
        · subst he
          have hIn := HIN.out (by trivial)
          have hlen : (shF l' [61] f).length ≤ 100000000000000 := shF_len H5.out.1.b.oks hwf hsz
          have hz9 : (ofB (shF l' [61] f)).size = (shF l' [61] f).length := bt_size _
          have hnf := nestF_le hwf
          have SHOW : Hid (∀ (W : World) (ev : Value) (v : Value), Pa5 w W p ev nb fb l' (.slice aa4 l'.length ac4) vs4 → FIs W v f → Calls Try.prog 62 #[.pointer (some ⟨p, 0, none⟩), v] W fun e w' => e = .returned (.string (ofB (shF l' [61] f))) ∧ Kept0 W w') := fun W ev v P7 F7 => (showF_in W w.heap.size p ev nb fb l' P7.b P7.kl.hs _ f F7 hwf (by omega) (by omega)).mono fun e w' hP => ⟨hP.1, Below.kept0 hP.2⟩
          have SH5 := SHOW.out w5 ev4 _ H5.out.1 H5.out.2.1
          have BK : Hid ((ofB (shF l' [61] f)).size ≤ 400 → Sp.nestF f ≤ 20 → gParse (ofB (shF l' [61] f)) l' = (f, 0, 0, l')) := fun h1 h2 => Sp.gParse_back H5.out.1.b.nodup H5.out.1.kl HNQ.out hwf hIn (by omega) h2
          generalize ofB (shF l' [61] f) = Z at *
          have hZ : Z.size ≤ 100000000000000 := by omega
          have hN : Sp.nestF f ≤ 1201 := by omega
          have NES : Hid (∀ W, RVal (fun _ => True) W (.agg #[.int .i64 op4, .int .i64 x4, .int .i64 y4, .slice a4 n4 cap4]) f → Calls Try.prog 65 #[.agg #[.int .i64 op4, .int .i64 x4, .int .i64 y4, .slice a4 n4 cap4]] W fun e w' => e = .returned (.int .i64 (Sp.nestF f : Int)) ∧ Below W.heap.size W w') := fun W hV => nest5 W _ f hV hwf (by omega)
          have SAM : Hid (∀ W v, FIs W v f → RVal (fun _ => True) W (.agg #[.int .i64 op4, .int .i64 x4, .int .i64 y4, .slice a4 n4 cap4]) f → Calls Try.prog 60 #[v, .agg #[.int .i64 op4, .int .i64 x4, .int .i64 y4, .slice a4 n4 cap4]] W fun e w' => e = .returned (.bool true) ∧ Below W.heap.size W w') := fun W v hF hV => same5w W v _ f hF hV hwf
          generalize Sp.nestF f = nf at *
          clear hlen hz9 hnf hwf hsz hIn HIN
          have hm63 : (Z.size : Int) ≤ 100000000000000 := by omega
          apply_assumption
          by_cases hbig : 400 < Z.size
          · have db : decide ((400 : Int) < (Z.size : Int)) = true := decide_eq_true (by omega)
            go_wp2_with (first | (go_at_call 61; refine (num5_any _ _).mono ?_; rintro e w9 ⟨rfl, rfl⟩) | (go_at_call 65; refine NE.mono ?_; rintro e w7 ⟨rfl, B7⟩; have K7 := Below.kept0 B7) | (go_at_call 21; refine SZ.mono ?_; rintro e w9 ⟨rfl, rfl⟩) | (go_at_call 62; refine SH5.mono ?_; rintro e w6 ⟨rfl, K6⟩; have P6 := H5.out.1.kept0 K6; have SZ := size_in w6 w.heap.size p ev4 nb fb l' P6.b; have V6 := H5.out.2.2.1.keep (RKeep.kept0 K6 _); have NE := NES.out w6 V6; obtain ⟨t0, t1, t2, t3⟩ := Q5.form_cellsR (Q5.rowIs_keepR (RKeep.kept0 K6 (fun _ => True)) trivial H5.out.2.2.2.2)))
            exact ⟨⟨k + 1, by omega, by simp, ev4, l', vs4, P6.kept0 K7, HNQ⟩, by simp [intOf]; omega⟩
          · have db : decide ((400 : Int) < (Z.size : Int)) = false := decide_eq_false (by omega)
            by_cases hdp : 20 < nf
            · have dd : decide ((20 : Int) < (nf : Int)) = true := decide_eq_true (by omega)
              go_wp2_with (first | (go_at_call 61; refine (num5_any _ _).mono ?_; rintro e w9 ⟨rfl, rfl⟩) | (go_at_call 65; refine NE.mono ?_; rintro e w7 ⟨rfl, B7⟩; have K7 := Below.kept0 B7) | (go_at_call 21; refine SZ.mono ?_; rintro e w9 ⟨rfl, rfl⟩) | (go_at_call 62; refine SH5.mono ?_; rintro e w6 ⟨rfl, K6⟩; have P6 := H5.out.1.kept0 K6; have SZ := size_in w6 w.heap.size p ev4 nb fb l' P6.b; have V6 := H5.out.2.2.1.keep (RKeep.kept0 K6 _); have NE := NES.out w6 V6; obtain ⟨t0, t1, t2, t3⟩ := Q5.form_cellsR (Q5.rowIs_keepR (RKeep.kept0 K6 (fun _ => True)) trivial H5.out.2.2.2.2)))
              exact ⟨⟨k + 1, by omega, by simp, ev4, l', vs4, P6.kept0 K7, HNQ⟩, by simp [intOf]; omega⟩
            · have dd : decide ((20 : Int) < (nf : Int)) = false := decide_eq_false (by omega)
              have hbk := BK.out (by omega) (by omega)
              go_wp2_with (first | (go_at_call 61; refine (num5_any _ _).mono ?_; rintro e w9 ⟨rfl, rfl⟩) | (go_at_call 60; refine SM9.mono ?_; rintro e w10 ⟨rfl, B10⟩; have K10 := Below.kept0 B10; have P10 := P9.kept0 K10; have SZ10 := size_in w10 w.heap.size p ev8 nb fb l' P10.b; have SH10 := SHOW.out w10 ev8 _ P10 (F9.keep B10); have FB10 := FB9.of_block (K10.block _ (World.rowIs.lt FB9) (fun e => e)); obtain ⟨m0, m1, m2, m3⟩ := form_cells FB10) | (go_at_call 58; refine AG.mono ?_; rintro e w8 ⟨op8, x8, y8, a8, n8, cap8, rfl, ev8, P8, F8, KR8⟩; have GB8 := Q5.rowIs_keepR KR8 trivial GB7; have hlt8 := World.rowIs.lt GB8; obtain ⟨r0, r1, r2, r3⟩ := Q5.form_cellsR GB8; have K9 : Kept0 w8 (w8.alloc (.cells #[.int .i64 op8, .int .i64 x8, .int .i64 y8, .slice a8 n8 cap8] 89)) := Kept.alloc (Kept.refl _ w8) _; have P9 := P8.kept0 K9; have F9 := F8.keep (Kept.below K9 (Nat.le_refl _) (fun _ e => e.elim)); have SM9 := SAM.out _ _ F9 ((V7.keep KR8).keep (RKeep.kept0 K9 _)); have FB9 := made_form w8 (.int .i64 op8) (.int .i64 x8) (.int .i64 y8) (.slice a8 n8 cap8)) | (go_at_call 65; refine NE.mono ?_; rintro e w7 ⟨rfl, B7⟩; have K7 := Below.kept0 B7; have P7 := P6.kept0 K7; have AG := P7.again Z f hbk; have V7 := V6.keep (RKeep.kept0 K7 _); have GB7 := Q5.rowIs_keepR (RKeep.kept0 K7 (fun _ => True)) trivial GB6; clear SZ) | (go_at_call 21; refine SZ10.mono ?_; rintro e w9 ⟨rfl, rfl⟩) | (go_at_call 21; refine SZ.mono ?_; rintro e w9 ⟨rfl, rfl⟩) | (go_at_call 62; refine SH10.mono ?_; rintro e w11 ⟨rfl, K11⟩) | (go_at_call 62; refine SH5.mono ?_; rintro e w6 ⟨rfl, K6⟩; have P6 := H5.out.1.kept0 K6; have SZ := size_in w6 w.heap.size p ev4 nb fb l' P6.b; have V6 := H5.out.2.2.1.keep (RKeep.kept0 K6 _); have NE := NES.out w6 V6; have GB6 := Q5.rowIs_keepR (RKeep.kept0 K6 (fun _ => True)) trivial H5.out.2.2.2.2; obtain ⟨t0, t1, t2, t3⟩ := Q5.form_cellsR GB6; clear SH5))
              exact ⟨⟨k + 1, by omega, by simp, ev8, l', vs4, P10.kept0 K11, HNQ⟩, by simp [intOf]; omega⟩
        · have de : ((eN : Int) == 0) = false := beq_eq_false_iff_ne.2 (by omega)
          have dn : ((eN : Int) != 0) = true := by simp; omega
          apply_assumption
          go_wp2_with (first | (go_at_call 61; refine (num5_any _ _).mono ?_; rintro e w9 ⟨rfl, rfl⟩))
          exact ⟨⟨k + 1, by omega, by simp, ev4, l', vs4, H5.out.1, HNQ⟩, by simp [intOf]; omega⟩
    · have dk : decide ((k : Int) < (ss.length : Int)) = false := decide_eq_false (by omega)
      go_wp2_with (first | (go_at_call 64; refine (alive5_any wr).mono ?_; rintro e w9 ⟨rfl, B9⟩))
      go_ret
      exact ⟨rfl, P.bel.trans (B9.mono P.bel.size)⟩

end Go.Proofs.Ytinphcnknionmaa

namespace Go.Proofs.Ytinphcnknionmaa
open Go.ChangeShapes Go.WideShapes Go.ChangeAt Go.RowKit Go.Deep

set_option maxRecDepth 100000 in
theorem LogicBack_lifted (os : Os) (started : os.Started) (H : Type) (enc : TypeId × Value → H) :
    ReturnsInHanded {} Try.checked os 14 .any (Rows.logicBackSpec.pre6 enc Try.prog Try.f14 Rows.logicBackRow.domain false) (Rows.logicBackSpec.post enc Try.prog Try.f14 false true false false) := by
  refine returnsInHanded_of_change (C := Try.checked) Try.own started (by kernel_rfl) Try.func14
    (ChangeSpec.witness6 (enc := enc) (C := Try.checked) false ⟨#[], #[.slice none 0 0], []⟩ 8 (by kernel_rfl) (by kernel_rfl) (by kernel_rfl) (by kernel_rfl)) ?_
  intro W base args ds gs before hval0 hW hcnd _
  have hval : ∀ (j : Nat) t v, Try.f14.params[j]? = some t → args[j]? = some v → Value.okWide Try.prog W .any base t v := hval0
  have hW' := hW
  obtain ⟨p, q, hA0, hV, rfl, hfz, hnd⟩ := hW
  have hA : DataW.TrodAll enc Try.prog W 0 (fun _ => true) true Try.f14.params.toList args.toList ds p := hA0
  rw [Try.params14] at hA hval
  obtain ⟨v0, vs0, d0, ds0, p0, q0, hargs, rfl, rfl, h0, r0⟩ := trodAll_cons hA
  obtain ⟨rfl, rfl, rfl⟩ := trodAll_nil r0
  obtain rfl : args = #[v0] := by cases args; simp_all
  obtain ⟨rfl, rfl⟩ := trodVars_none hV
  obtain ⟨a0, len0, cap0, rfl⟩ := okWide_slice Try.underlying22 (hval 0 22 v0 rfl rfl)
  have lt0 : ∀ x ∈ p0, x.block < W.heap.size := by obtain ⟨m, hm⟩ := h0; exact DataW.trod_lt m _ _ _ hm
  obtain ⟨ss, e1, s1, l1⟩ := texts_at h0
  subst e1
  clear hA0 hval0
  refine (backs_in W a0 cap0 ss s1 l1).mono fun e W' ⟨he, bel⟩ => ?_
  subst he
  exact ⟨_, rfl, _, _, _, [], _, [], hW', trodAll_mk1 (shut_bool Try.underlying4 _), (trodAll_cons_mk (Below.trod Try.laidOut (by kernel_rfl) (of_decide_eq_true (by kernel_rfl)) h0 bel lt0) trodAll_mk0), rfl, bel.frame _, fun h => by cases h⟩

theorem LogicBack_holds : Rows.LogicBackSaid :=
  OpenClaim.holds_of_wide 14 Try.f14 rfl rfl rfl rfl rfl rfl rfl ⟨rfl, rfl, rfl, rfl, rfl⟩ rfl rfl rfl rfl rfl (by kernel_rfl) Try.func14 (by kernel_rfl)
    (of_decide_eq_true (by kernel_rfl)) (by unfold Func.isWrapper; first | (rw [if_pos (by decide +kernel)]; kernel_rfl) | (rw [if_neg (by decide +kernel)]; exact ⟨rfl, rfl⟩))
    (fun os started H enc _ => LogicBack_lifted os started H enc)
#print axioms LogicBack_holds

end Go.Proofs.Ytinphcnknionmaa
