/- The document's Truth. -/
import Derived.Test.YtinphcnknionmabP42
namespace Go.Proofs.Ytinphcnknionmab
open Go.RowKit Go.Maps

/-- The value of an equality, by the atoms' values. -/
def tau : List (Int × Int) → List Bool → Int × Int → Bool
  | q :: l, b :: bs, p => if q = p then b else tau l bs p
  | _, _, _ => false

/-- Pairs in memory; truths in memory. -/
def PrAt (W : World) (pa : Option Addr) (l : List (Int × Int)) : Prop :=
  l = [] ∨ ∃ g off, pa = some ⟨g, off, none⟩ ∧ ∀ (i : Nat) (p : Int × Int), l[i]? = some p → W.cell? ⟨g, off + i * 2, none⟩ = some (.int .i64 p.1) ∧ W.cell? ⟨g, off + i * 2 + 1, none⟩ = some (.int .i64 p.2)
def TrAt (W : World) (ta : Option Addr) (bs : List Bool) : Prop :=
  bs = [] ∨ ∃ g off, ta = some ⟨g, off, none⟩ ∧ ∀ (i : Nat) (b : Bool), bs[i]? = some b → W.cell? ⟨g, off + i, none⟩ = some (.bool b)
theorem PrAt.below {w w' : World} {pa : Option Addr} {l : List (Int × Int)} (hB : Below w.heap.size w w') (h : PrAt w pa l) : PrAt w' pa l := by
  rcases h with e | ⟨g, off, h1, h2⟩
  · exact Or.inl e
  · refine Or.inr ⟨g, off, h1, fun i p hi => ?_⟩
    obtain ⟨q1, q2⟩ := h2 i p hi
    have hb := World.block_lt_of_cell? w _ q1
    exact ⟨(hB.cell hb).trans q1, (hB.cell (p := ⟨g, off + i * 2 + 1, none⟩) hb).trans q2⟩
theorem TrAt.below {w w' : World} {ta : Option Addr} {bs : List Bool} (hB : Below w.heap.size w w') (h : TrAt w ta bs) : TrAt w' ta bs := by
  rcases h with e | ⟨g, off, h1, h2⟩
  · exact Or.inl e
  · exact Or.inr ⟨g, off, h1, fun j c hj => (hB.cell (World.block_lt_of_cell? w _ (h2 j c hj))).trans (h2 j c hj)⟩

structure TrS (W : World) (pa : Option Addr) (l : List (Int × Int)) (ta : Option Addr) (bs : List Bool) : Prop where
  pr : PrAt W pa l
  tr : TrAt W ta bs
  len : bs.length = l.length
  small : l.length ≤ 1048576
theorem TrS.below {w w' : World} {pa : Option Addr} {l : List (Int × Int)} {ta : Option Addr} {bs : List Bool} (h : TrS w pa l ta bs) (hB : Below w.heap.size w w') : TrS w' pa l ta bs := ⟨h.pr.below hB, h.tr.below hB, h.len, h.small⟩

def TrT (t : Lf) : Prop := ∀ (w : World) (pa : Option Addr) (pc : Nat) (l : List (Int × Int)) (ta : Option Addr) (tc : Nat) (bs : List Bool), TrS w pa l ta bs → WfF t.er → KidsIn t.kv t.kids → (∀ k ∈ t.kids, LayC w k) →
  Calls Try.prog 33 #[.agg #[.int .i64 t.op, .int .i64 t.x, .int .i64 t.y, t.kv], .slice pa l.length pc, .slice ta bs.length tc] w fun e w' => e = .returned (.bool (Cn.trF (tau l bs) t.er)) ∧ Below w.heap.size w w'

set_option maxRecDepth 100000 in
set_option maxHeartbeats 2000000 in
theorem tr_leaf (t : Lf) (h0 : t.op = 0) : TrT t := by
  intro w pa pc l ta tc bs hS hwf hk hks
  obtain ⟨b, o, op, x, y, kv, kids⟩ := t
  simp only [Lf.op] at h0
  subst h0
  simp only [Lf.op, Lf.x, Lf.y, Lf.kv, Lf.kids, Lf.er] at hk ⊢
  obtain ⟨a, cap, rfl, _⟩ := hk
  have HE : Hid (Cn.trF (tau l bs) (.mk 0 x y (kids.map Lf.er)) = tau l bs (x, y)) := by show _ = _; simp [Cn.trF]
  clear hks hwf
  generalize kids.length = kn at *
  have Y1 := FB.new' w 0 x y (.slice a kn cap)
  have B1 := Below.new w (.cells #[.int .i64 0, .int .i64 x, .int .i64 y, .slice a kn cap] 26)
  obtain ⟨y0, y1, y2, y3⟩ := Y1
  have hlen := hS.len
  have hsm := hS.small
  have HS : Hid (TrS (w.alloc (.cells #[.int .i64 0, .int .i64 x, .int .i64 y, .slice a kn cap] 26)) pa l ta bs) := hS.below B1
  clear hS
  go_enter Try.func33, Try.ntmps33
  go_wp2_with fail
  generalize w.alloc (.cells #[.int .i64 0, .int .i64 x, .int .i64 y, .slice a kn cap] 26) = w1 at *
  have HB1 : Hid (∀ m, Below w.heap.size w (w1.drewN m)) := fun m => B1.trans ⟨rfl, rfl, rfl, Nat.le_refl _, fun _ _ => rfl⟩
  go_loopw [7] (fun t5 W => ∃ i m : Nat, i ≤ l.length ∧ t5 = .int .i64 (i : Int) ∧ W = w1.drewN m ∧ Hid (tau (l.drop i) (bs.drop i) (x, y) = tau l bs (x, y))) (fun t5 _ => l.length - (intOf t5).toNat)
  case atStart => exact ⟨0, 0, by omega, rfl, rfl, rfl⟩
  case round =>
    obtain ⟨i, m, hi, rfl, rfl, HT⟩ := hrel
    by_cases hi2 : i < l.length
    · have di : decide ((i : Int) < (l.length : Int)) = true := decide_eq_true (by omega)
      have hi3 : i < bs.length := by omega
      have e1 : l.drop i = l[i] :: l.drop (i + 1) := List.drop_eq_getElem_cons hi2
      have e2 : bs.drop i = bs[i] :: bs.drop (i + 1) := List.drop_eq_getElem_cons hi3
      have hT := HT.out
      rw [e1, e2, tau] at hT
      obtain ⟨g, off, rfl, hg⟩ := HS.out.pr.resolve_left (by intro e; rw [e] at hi2; simp at hi2)
      obtain ⟨g2, o2, rfl, hg2⟩ := HS.out.tr.resolve_left (by intro e; rw [e] at hi3; simp at hi3)
      have q0 := hg2 i _ (List.getElem?_eq_getElem hi3)
      obtain ⟨q1, q2⟩ := hg i _ (List.getElem?_eq_getElem hi2)
      have wrp : IntKind.i64.wrap ((i : Int) + 1) = (i : Int) + 1 := by rw [IntKind.wrap_i64]; omega
      generalize l[i] = p at *
      generalize bs[i] = bb at *
      clear hg hg2 e1 e2 HT
      by_cases he : p = (x, y)
      · subst he
        rw [if_pos rfl] at hT
        have HT2 : Hid (_) := hT
        clear hT
        go_wp2_with fail
        go_quiet (fail)
        go_wp2_with fail
        go_ret
        exact ⟨ret_b (by rw [HE.out, ← HT2.out]), HB1.out _⟩
      · rw [if_neg he] at hT
        have HT2 : Hid (_) := hT
        clear hT
        by_cases h1 : p.1 = x
        · have h2 : ¬ p.2 = y := fun h2 => he (Prod.ext h1 h2)
          have d2 : (p.2 == y) = false := by simpa using h2
          rw [h1] at q1
          clear h2 h1 he
          go_wp2_with fail
          go_quiet (fail)
          go_wp2_with fail
          exact ⟨⟨i + 1, m + nq, hi2, by simp, by first | rfl | rw [World.drewN_drewN], HT2.out⟩, by simp [intOf]; omega⟩
        · have d1 : (p.1 == x) = false := by simpa using h1
          clear h1 he
          go_wp2_with fail
          go_quiet (fail)
          go_wp2_with fail
          exact ⟨⟨i + 1, m + nq, hi2, by simp, by first | rfl | rw [World.drewN_drewN], HT2.out⟩, by simp [intOf]; omega⟩
    · have di : decide ((i : Int) < (l.length : Int)) = false := decide_eq_false (by omega)
      have hT := HT.out
      rw [List.drop_of_length_le (by omega)] at hT
      have hT2 : tau l bs (x, y) = false := by rw [← hT]; simp [tau]
      go_wp2_with fail
      go_ret
      exact ⟨ret_b (by rw [HE.out, hT2]), HB1.out _⟩

/-- Behind a Kid's. -/
theorem tr_kid {w : World} {pa : Option Addr} {pc : Nat} {l : List (Int × Int)} {ta : Option Addr} {tc : Nat} {bs : List Bool} (hS : TrS w pa l ta bs) {kids : List Lf} {a : Option Addr} {cap : Nat} (hk : KidsIn (.slice a kids.length cap) kids) (hks : ∀ k ∈ kids, LayC w k) (hw : ∀ k ∈ kids, WfF k.er) (ih : ∀ k ∈ kids, TrT k) {op x y : Int} (i : Nat) (hi : i < kids.length) :
    ∃ k, kids[i]? = some k ∧ ∃ sa sn sc, ∀ W, Below w.heap.size w W → FB W w.heap.size op x y (.slice a kids.length cap) → KidC W a i k sa sn sc ∧ Calls Try.prog 33 #[.agg #[.int .i64 k.op, .int .i64 k.x, .int .i64 k.y, .slice sa sn sc], .slice pa l.length pc, .slice ta bs.length tc] W fun e w' => e = .returned (.bool (Cn.trF (tau l bs) k.er)) ∧ Below w.heap.size w w' ∧ FB w' w.heap.size op x y (.slice a kids.length cap) := by
  obtain ⟨k, hm, hj, sa, sn, sc, h1, h2, h3⟩ := kid_atC hk hks i hi
  refine ⟨k, hj, sa, sn, sc, fun W hB hF => ⟨(h3 W hB).1, ?_⟩⟩
  have h4 := ih k hm W pa pc l ta tc bs (by
    refine ⟨?_, ?_, hS.len, hS.small⟩
    · rcases hS.pr with e | ⟨g, off, g1, g2⟩
      · exact Or.inl e
      · refine Or.inr ⟨g, off, g1, fun i p hi => ?_⟩
        obtain ⟨q1, q2⟩ := g2 i p hi
        have hb := World.block_lt_of_cell? w _ q1
        exact ⟨(hB.cell hb).trans q1, (hB.cell (p := ⟨g, off + i * 2 + 1, none⟩) hb).trans q2⟩
    · rcases hS.tr with e | ⟨g, off, g1, g2⟩
      · exact Or.inl e
      · exact Or.inr ⟨g, off, g1, fun j c hj => (hB.cell (World.block_lt_of_cell? w _ (g2 j c hj))).trans (g2 j c hj)⟩) (hw k hm) h2 (h3 W hB).2
  rw [h1] at h4
  refine h4.mono ?_
  rintro e w' ⟨rfl, B⟩
  exact ⟨rfl, hB.trans (B.mono hB.size), hF.keep B⟩

set_option maxRecDepth 100000 in
set_option maxHeartbeats 2000000 in
theorem tr_one (t : Lf) (ih : ∀ k ∈ t.kids, TrT k) (h1 : t.op = 1) (hn1 : t.kids.length = 1) : TrT t := by
  intro w pa pc l ta tc bs hS hwf hk hks
  obtain ⟨b, o, op, x, y, kv, kids⟩ := t
  simp only [Lf.op, Lf.x, Lf.y, Lf.kv, Lf.kids, Lf.er] at ih hk hks h1 hn1 hwf ⊢
  obtain ⟨a, cap, hkv, _⟩ := id hk
  subst hkv
  subst h1
  have hw : ∀ k ∈ kids, WfF k.er := fun k hk => wf_kids hwf _ (List.mem_map.2 ⟨k, hk, rfl⟩)
  obtain ⟨k0, j0, sa, sn, sc, K0⟩ := @tr_kid w pa pc l ta tc bs hS kids a cap hk hks hw ih 1 x y 0 (by omega)
  obtain ⟨k0', rfl⟩ := List.length_eq_one_iff.1 hn1
  simp at j0
  subst j0
  have HE : Hid (Cn.trF (tau l bs) (.mk 1 x y ([k0'].map Lf.er)) = !(Cn.trF (tau l bs) k0'.er)) := by show _ = _; rw [List.map_cons, List.map_nil, Cn.trF]; simp
  have HK0 : Hid _ := K0
  have Y1 := FB.new' w 1 x y (.slice a 1 cap)
  have B1 := Below.new w (.cells #[.int .i64 1, .int .i64 x, .int .i64 y, .slice a 1 cap] 26)
  obtain ⟨⟨kb, ko, rfl, q0, q1, q2, q3⟩, N2⟩ := HK0.out _ B1 Y1
  obtain ⟨y0, y1, y2, y3⟩ := Y1
  generalize Cn.trF (tau l bs) k0'.er = p at *
  generalize k0'.op = kop at *
  generalize k0'.x = kx at *
  generalize k0'.y = ky at *
  simp only [Nat.zero_mul, Nat.add_zero] at q0 q1 q2 q3
  clear K0 HK0 ih hks hk hS hwf hw hn1
  go_enter Try.func33, Try.ntmps33
  go_wp2_with (first | (go_at_call 33; refine N2.mono ?_; rintro e w3 ⟨rfl, B3, F3⟩; obtain ⟨c0, c1, c2, c3⟩ := F3))
  go_ret
  exact ⟨ret_b (by rw [HE.out]), B3⟩

set_option maxRecDepth 100000 in
set_option maxHeartbeats 2000000 in
theorem tr_two2 (t : Lf) (ih : ∀ k ∈ t.kids, TrT k) (h1 : t.op = 2) (hn1 : t.kids.length = 2) : TrT t := by
  intro w pa pc l ta tc bs hS hwf hk hks
  obtain ⟨b, o, op, x, y, kv, kids⟩ := t
  simp only [Lf.op, Lf.x, Lf.y, Lf.kv, Lf.kids, Lf.er] at ih hk hks h1 hn1 hwf ⊢
  obtain ⟨a, cap, hkv, _⟩ := id hk
  subst hkv
  subst h1
  have hw : ∀ k ∈ kids, WfF k.er := fun k hk => wf_kids hwf _ (List.mem_map.2 ⟨k, hk, rfl⟩)
  obtain ⟨k0, j0, sa, sn, sc, K0⟩ := @tr_kid w pa pc l ta tc bs hS kids a cap hk hks hw ih 2 x y 0 (by omega)
  obtain ⟨k1, j1, sa', sn', sc', K1⟩ := @tr_kid w pa pc l ta tc bs hS kids a cap hk hks hw ih 2 x y 1 (by omega)
  obtain ⟨a0, a1, rfl⟩ : ∃ k0 k1, kids = [k0, k1] := by
    match kids, hn1 with
    | [p, q], _ => exact ⟨p, q, rfl⟩
  simp at j0 j1
  subst j0 j1
  have HE : Hid (Cn.trF (tau l bs) (.mk 2 x y ([a0, a1].map Lf.er)) = (Cn.trF (tau l bs) a0.er && Cn.trF (tau l bs) a1.er)) := by show _ = _; simp only [List.map_cons, List.map_nil]; rw [Cn.trF] <;> simp
  have HK1 : Hid _ := K1
  have Y1 := FB.new' w 2 x y (.slice a 2 cap)
  have B1 := Below.new w (.cells #[.int .i64 2, .int .i64 x, .int .i64 y, .slice a 2 cap] 26)
  obtain ⟨⟨kb, ko, rfl, q0, q1, q2, q3⟩, N2⟩ := K0 _ B1 Y1
  obtain ⟨y0, y1, y2, y3⟩ := Y1
  generalize Cn.trF (tau l bs) a0.er = p at *
  generalize Cn.trF (tau l bs) a1.er = q at *
  generalize a0.op = kop at *
  generalize a0.x = kx at *
  generalize a0.y = ky at *
  simp only [Nat.zero_mul, Nat.add_zero] at q0 q1 q2 q3
  clear K0 K1 ih hks hk hS hwf hw hn1
  go_enter Try.func33, Try.ntmps33
  cases p <;>
    (go_wp2_with (first | (go_at_call 33; refine N3.mono ?_; rintro e w4 ⟨rfl, B4, F4⟩; obtain ⟨n0, n1, n2, n3⟩ := F4) | (go_at_call 33; refine N2.mono ?_; clear q0 q1 q2 q3 y0 y1 y2 y3; rintro e w3 ⟨rfl, B3, F3⟩; obtain ⟨⟨kb', ko', hkb, i0, i1, i2, i3⟩, N3⟩ := HK1.out _ B3 F3; obtain ⟨c0, c1, c2, c3⟩ := F3; simp only [Option.some.injEq, Addr.mk.injEq, and_true] at hkb; obtain ⟨rfl, rfl⟩ := hkb; simp only [Nat.one_mul, Nat.add_assoc, Nat.reduceAdd] at i0 i1 i2 i3))
     go_ret
     exact ⟨ret_b (by rw [HE.out]; simp), B4⟩)

set_option maxRecDepth 100000 in
set_option maxHeartbeats 2000000 in
theorem tr_two3 (t : Lf) (ih : ∀ k ∈ t.kids, TrT k) (h1 : t.op = 3) (hn1 : t.kids.length = 2) : TrT t := by
  intro w pa pc l ta tc bs hS hwf hk hks
  obtain ⟨b, o, op, x, y, kv, kids⟩ := t
  simp only [Lf.op, Lf.x, Lf.y, Lf.kv, Lf.kids, Lf.er] at ih hk hks h1 hn1 hwf ⊢
  obtain ⟨a, cap, hkv, _⟩ := id hk
  subst hkv
  subst h1
  have hw : ∀ k ∈ kids, WfF k.er := fun k hk => wf_kids hwf _ (List.mem_map.2 ⟨k, hk, rfl⟩)
  obtain ⟨k0, j0, sa, sn, sc, K0⟩ := @tr_kid w pa pc l ta tc bs hS kids a cap hk hks hw ih 3 x y 0 (by omega)
  obtain ⟨k1, j1, sa', sn', sc', K1⟩ := @tr_kid w pa pc l ta tc bs hS kids a cap hk hks hw ih 3 x y 1 (by omega)
  obtain ⟨a0, a1, rfl⟩ : ∃ k0 k1, kids = [k0, k1] := by
    match kids, hn1 with
    | [p, q], _ => exact ⟨p, q, rfl⟩
  simp at j0 j1
  subst j0 j1
  have HE : Hid (Cn.trF (tau l bs) (.mk 3 x y ([a0, a1].map Lf.er)) = (Cn.trF (tau l bs) a0.er || Cn.trF (tau l bs) a1.er)) := by show _ = _; simp only [List.map_cons, List.map_nil]; rw [Cn.trF] <;> simp
  have HK1 : Hid _ := K1
  have Y1 := FB.new' w 3 x y (.slice a 2 cap)
  have B1 := Below.new w (.cells #[.int .i64 3, .int .i64 x, .int .i64 y, .slice a 2 cap] 26)
  obtain ⟨⟨kb, ko, rfl, q0, q1, q2, q3⟩, N2⟩ := K0 _ B1 Y1
  obtain ⟨y0, y1, y2, y3⟩ := Y1
  generalize Cn.trF (tau l bs) a0.er = p at *
  generalize Cn.trF (tau l bs) a1.er = q at *
  generalize a0.op = kop at *
  generalize a0.x = kx at *
  generalize a0.y = ky at *
  simp only [Nat.zero_mul, Nat.add_zero] at q0 q1 q2 q3
  clear K0 K1 ih hks hk hS hwf hw hn1
  go_enter Try.func33, Try.ntmps33
  cases p <;>
    (go_wp2_with (first | (go_at_call 33; refine N3.mono ?_; rintro e w4 ⟨rfl, B4, F4⟩; obtain ⟨n0, n1, n2, n3⟩ := F4) | (go_at_call 33; refine N2.mono ?_; clear q0 q1 q2 q3 y0 y1 y2 y3; rintro e w3 ⟨rfl, B3, F3⟩; obtain ⟨⟨kb', ko', hkb, i0, i1, i2, i3⟩, N3⟩ := HK1.out _ B3 F3; obtain ⟨c0, c1, c2, c3⟩ := F3; simp only [Option.some.injEq, Addr.mk.injEq, and_true] at hkb; obtain ⟨rfl, rfl⟩ := hkb; simp only [Nat.one_mul, Nat.add_assoc, Nat.reduceAdd] at i0 i1 i2 i3))
     go_ret
     exact ⟨ret_b (by rw [HE.out]; simp), B4⟩)

set_option maxRecDepth 100000 in
set_option maxHeartbeats 2000000 in
theorem tr_two4 (t : Lf) (ih : ∀ k ∈ t.kids, TrT k) (h1 : t.op = 4) (hn1 : t.kids.length = 2) : TrT t := by
  intro w pa pc l ta tc bs hS hwf hk hks
  obtain ⟨b, o, op, x, y, kv, kids⟩ := t
  simp only [Lf.op, Lf.x, Lf.y, Lf.kv, Lf.kids, Lf.er] at ih hk hks h1 hn1 hwf ⊢
  obtain ⟨a, cap, hkv, _⟩ := id hk
  subst hkv
  subst h1
  have hw : ∀ k ∈ kids, WfF k.er := fun k hk => wf_kids hwf _ (List.mem_map.2 ⟨k, hk, rfl⟩)
  obtain ⟨k0, j0, sa, sn, sc, K0⟩ := @tr_kid w pa pc l ta tc bs hS kids a cap hk hks hw ih 4 x y 0 (by omega)
  obtain ⟨k1, j1, sa', sn', sc', K1⟩ := @tr_kid w pa pc l ta tc bs hS kids a cap hk hks hw ih 4 x y 1 (by omega)
  obtain ⟨a0, a1, rfl⟩ : ∃ k0 k1, kids = [k0, k1] := by
    match kids, hn1 with
    | [p, q], _ => exact ⟨p, q, rfl⟩
  simp at j0 j1
  subst j0 j1
  have HE : Hid (Cn.trF (tau l bs) (.mk 4 x y ([a0, a1].map Lf.er)) = (!Cn.trF (tau l bs) a0.er || Cn.trF (tau l bs) a1.er)) := by show _ = _; simp only [List.map_cons, List.map_nil]; rw [Cn.trF] <;> simp
  have HK1 : Hid _ := K1
  have Y1 := FB.new' w 4 x y (.slice a 2 cap)
  have B1 := Below.new w (.cells #[.int .i64 4, .int .i64 x, .int .i64 y, .slice a 2 cap] 26)
  obtain ⟨⟨kb, ko, rfl, q0, q1, q2, q3⟩, N2⟩ := K0 _ B1 Y1
  obtain ⟨y0, y1, y2, y3⟩ := Y1
  generalize Cn.trF (tau l bs) a0.er = p at *
  generalize Cn.trF (tau l bs) a1.er = q at *
  generalize a0.op = kop at *
  generalize a0.x = kx at *
  generalize a0.y = ky at *
  simp only [Nat.zero_mul, Nat.add_zero] at q0 q1 q2 q3
  clear K0 K1 ih hks hk hS hwf hw hn1
  go_enter Try.func33, Try.ntmps33
  cases p <;>
    (go_wp2_with (first | (go_at_call 33; refine N3.mono ?_; rintro e w4 ⟨rfl, B4, F4⟩; obtain ⟨n0, n1, n2, n3⟩ := F4) | (go_at_call 33; refine N2.mono ?_; clear q0 q1 q2 q3 y0 y1 y2 y3; rintro e w3 ⟨rfl, B3, F3⟩; obtain ⟨⟨kb', ko', hkb, i0, i1, i2, i3⟩, N3⟩ := HK1.out _ B3 F3; obtain ⟨c0, c1, c2, c3⟩ := F3; simp only [Option.some.injEq, Addr.mk.injEq, and_true] at hkb; obtain ⟨rfl, rfl⟩ := hkb; simp only [Nat.one_mul, Nat.add_assoc, Nat.reduceAdd] at i0 i1 i2 i3))
     go_ret
     exact ⟨ret_b (by rw [HE.out]; simp), B4⟩)

/-- The document's Truth. -/
theorem trt : ∀ t : Lf, TrT t
  | .mk b o op x y kv kids => by
    have ih : ∀ k ∈ kids, TrT k := fun k hk => by
      have := List.sizeOf_lt_of_mem hk
      exact trt k
    intro w pa pc l ta tc bs hS hwf
    have hwf' := hwf
    rw [Lf.er] at hwf'
    generalize hks : kids.map Lf.er = ks at hwf'
    cases hwf' with
    | eq => exact tr_leaf (.mk b o 0 _ _ kv kids) rfl w pa pc l ta tc bs hS hwf
    | neg f hf => exact tr_one (.mk b o 1 0 0 kv kids) ih rfl (by have := congrArg List.length hks; simpa [Lf.kids] using this) w pa pc l ta tc bs hS hwf
    | two o f g ho hf hg =>
      have hl : kids.length = 2 := by have := congrArg List.length hks; simpa using this
      rcases ho with rfl | rfl | rfl
      · exact tr_two2 (.mk b o 2 0 0 kv kids) ih rfl hl w pa pc l ta tc bs hS hwf
      · exact tr_two3 (.mk b o 3 0 0 kv kids) ih rfl hl w pa pc l ta tc bs hS hwf
      · exact tr_two4 (.mk b o 4 0 0 kv kids) ih rfl hl w pa pc l ta tc bs hS hwf
termination_by t => SizeOf.sizeOf t
decreasing_by simp; omega

end Go.Proofs.Ytinphcnknionmab
