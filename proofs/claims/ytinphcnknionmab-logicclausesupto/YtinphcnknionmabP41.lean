/- The document's Atoms: an equality; other Forms. LogicAtoms: its walk. -/
import Derived.Test.YtinphcnknionmabP30
import Derived.Test.YtinphcnknionmabP40
namespace Go.Proofs.Ytinphcnknionmab
open Go.RowKit Go.Maps

theorem Kept.ofAlloc {S : Nat → Prop} {w : World} (o : Obj) : Kept S w (w.alloc o) := (Kept.refl S w).alloc o

theorem cell_twoR (w : World) (a b : Value) (ty : TypeId) : ∀ j u, [a, b][j]? = some u → (w.alloc (.cells #[a, b] ty)).cell? ((⟨w.heap.size, 0, none⟩ : Addr).add j) = some u := by
  intro j u hj
  have hn := made_row w #[a, b] ty
  match j, hj with
  | 0, hj => simp at hj; subst hj; exact hn.cell (i := 0) (by simp)
  | 1, hj => simp at hj; subst hj; exact hn.cell (i := 1) (by simp)

/-- What is known in the loop over the list. -/
structure RL (w W : World) (B : Nat) (v : Value) (l : List (Int × Int)) (x y : Int) : Prop where
  row : W.ownsRow B 23 2 v l.length (pairC l)
  c1 : W.cell? ⟨w.heap.size, 1, none⟩ = some (.int .i64 x)
  c2 : W.cell? ⟨w.heap.size, 2, none⟩ = some (.int .i64 y)
  kept : Kept (fun k => v.ownBlock = some k) w W
theorem RL.drewN {w W : World} {B : Nat} {v : Value} {l : List (Int × Int)} {x y : Int} (h : RL w W B v l x y) (m : Nat) : RL w (W.drewN m) B v l x y := ⟨h.row, h.c1, h.c2, h.kept.drewN m⟩

set_option maxRecDepth 100000 in
set_option maxHeartbeats 2000000 in
theorem rat_leaf (t : Lf) (h0 : t.op = 0) : RAt t := by
  intro w0 w B v l hsm hB0 hB hk hks hr hl hBw
  obtain ⟨b, o, op, x, y, kv, kids⟩ := t
  simp only [Lf.op] at h0
  subst h0
  simp only [Lf.op, Lf.x, Lf.y, Lf.kv, Lf.kids, Lf.er, eqF, if_true] at hk hl ⊢
  obtain ⟨a, cap, rfl, _⟩ := hk
  clear hks hB hB0 hsm
  generalize kids.length = kn at *
  have hll : l.length + 1 ≤ 1048576 := by simpa using hl
  have R1 := made_row w #[.int .i64 0, .int .i64 x, .int .i64 y, .slice a kn cap] 26
  have hne : ∀ k, v.ownBlock = some k → k < w.heap.size := fun k hk => (ownsRow_at hr hk).2
  have L1 : RL w (w.alloc (.cells #[.int .i64 0, .int .i64 x, .int .i64 y, .slice a kn cap] 26)) B v l x y := ⟨hr.alloc _, R1.cell (i := 1) (by simp), R1.cell (i := 2) (by simp), Kept.ofAlloc _⟩
  have c0 : (w.alloc (.cells #[.int .i64 0, .int .i64 x, .int .i64 y, .slice a kn cap] 26)).cell? ⟨w.heap.size, 0, none⟩ = some (.int .i64 0) := R1.cell (i := 0) (by simp)
  have hs1 : B ≤ (w.alloc (.cells #[.int .i64 0, .int .i64 x, .int .i64 y, .slice a kn cap] 26)).heap.size := by simp; omega
  have hsz : (w.alloc (.cells #[.int .i64 0, .int .i64 x, .int .i64 y, .slice a kn cap] 26)).heap.size = w.heap.size + 1 := by simp
  obtain ⟨va, vc, hv⟩ := row_formG hr
  subst hv
  clear R1 hr hl
  go_enter Try.func12, Try.ntmps12
  go_wp2_with fail
  generalize w.alloc (.cells #[.int .i64 0, .int .i64 x, .int .i64 y, .slice a kn cap] 26) = w1 at L1 c0 hs1 hsz ⊢
  go_loopw [5] (fun t5 W => ∃ k : Nat, k ≤ l.length ∧ t5 = .int .i64 (k : Int) ∧ Hid ((∀ j, j < k → l[j]? ≠ some (x, y)) ∧ RL w W B (.slice va l.length vc) l x y ∧ B ≤ W.heap.size ∧ w.heap.size ≤ W.heap.size)) (fun t5 _ => l.length - (intOf t5).toNat)
  case atStart => exact ⟨0, by omega, rfl, by simp, L1, hs1, by omega⟩
  case round =>
    obtain ⟨k, hk, rfl, HR⟩ := hrel
    by_cases hk2 : k < l.length
    · have dk : decide ((k : Int) < (l.length : Int)) = true := decide_eq_true (by omega)
      obtain ⟨hno, LW, hBW, hwW⟩ := HR.out
      have hpk : l[k]? = some l[k] := List.getElem?_eq_getElem hk2
      obtain ⟨g, gc, hv, _, _, q1, q2⟩ := row_cells LW.row hpk
      simp only [Value.slice.injEq, true_and] at hv
      obtain ⟨rfl, rfl⟩ := hv
      have c1 := LW.c1
      have c2 := LW.c2
      have wrp : IntKind.i64.wrap ((k : Int) + 1) = (k : Int) + 1 := by rw [IntKind.wrap_i64]; omega
      have LD : Hid (∀ m, RL w (wr.drewN m) B (.slice (some ⟨g, 0, none⟩) l.length vc) l x y ∧ B ≤ (wr.drewN m).heap.size ∧ w.heap.size ≤ (wr.drewN m).heap.size) := fun m => ⟨LW.drewN m, hBW, hwW⟩
      have HN : Hid (∀ j, j < k → l[j]? ≠ some (x, y)) := hno
      generalize l[k] = pk at *
      clear hno LW HR L1 c0
      by_cases he : pk = (x, y)
      · subst he
        have hin : (x, y) ∈ l := List.mem_of_getElem? hpk
        have HM : Hid (atsG l [(x, y)] = l) := by show (if _ then _ else _) = l; rw [if_pos hin]
        clear hpk hin
        go_wp2_with fail
        go_quiet (fail)
        go_wp2_with fail
        go_ret
        exact ⟨_, rfl, HM.out.symm ▸ (LD.out nq).1.row, (LD.out nq).1.kept, Or.inl rfl⟩
      · have HN2 : Hid (∀ j, j < k + 1 → l[j]? ≠ some (x, y)) := fun j hj => by
          by_cases hjk : j = k
          · subst hjk; rw [hpk]; simpa using he
          · exact HN.out j (by omega)
        clear hpk HN
        by_cases h1 : pk.1 = x
        · have h2 : ¬ pk.2 = y := fun h2 => he (Prod.ext h1 h2)
          have d2 : (pk.2 == y) = false := by simpa using h2
          rw [h1] at q1
          clear h2 h1 he
          go_wp2_with fail
          go_quiet (fail)
          go_wp2_with fail
          exact ⟨⟨k + 1, hk2, by simp, HN2.out, LD.out nq⟩, by simp [intOf]; omega⟩
        · have d1 : (pk.1 == x) = false := by simpa using h1
          clear h1 he
          go_wp2_with fail
          go_quiet (fail)
          go_wp2_with fail
          exact ⟨⟨k + 1, hk2, by simp, HN2.out, LD.out nq⟩, by simp [intOf]; omega⟩
    · have dk : decide ((k : Int) < (l.length : Int)) = false := decide_eq_false (by omega)
      obtain ⟨hno, LW, hBW, hwW⟩ := HR.out
      have hnot : ¬ (x, y) ∈ l := fun hm => by
        obtain ⟨j, hj⟩ := List.getElem?_of_mem hm
        have := (List.getElem?_eq_some_iff.1 hj).1
        exact hno j (by omega) hj
      have HM : Hid (atsG l [(x, y)] = l ++ [(x, y)]) := by show (if _ then _ else _) = _; rw [if_neg hnot]
      have c1 := LW.c1
      have c2 := LW.c2
      have HL : Hid (_) := LW
      clear hno LW HR L1 c0 hnot
      obtain ⟨i0, hi0, hz0, hz1, hz2⟩ := info_parts infoRP
      go_wp2_with (at_builtin; refine Aside.out ?_)
      delta Aside
      refine wpList_append_own_at _ rfl _ _ 39 rfl B 23 i0 _ 2 16 Try.underlying39 hi0 hz0 hz1 hz2 rfl (by decide) _ _ _ rfl (HL.out.row.alloc _) ⟨_, 0, none⟩ 1 1 [.int .i64 x, .int .i64 y] rfl rfl (cell_twoR wr _ _ _) (by simp [Value.oneCell']) (by unfold maxLen; omega) (by omega) (by simp; omega) ?_
      intro v8 w8 hown8 hgrow8 _ hat8
      obtain ⟨va8, vc8, hv8⟩ := row_formG hown8
      subst hv8
      have K8 : Kept (fun k => (Value.slice va l.length vc).ownBlock = some k) w w8 := Kept.grown (HL.out.kept.alloc _) hgrow8 (fun _ e => e)
      have HF : Hid (_ ∧ _ ∧ _) := And.intro hown8 (And.intro K8 hat8)
      clear hown8 hgrow8 hat8 K8
      go_wp2_with fail
      go_ret
      obtain ⟨hown8, K8, hat8⟩ := HF.out
      refine ⟨_, rfl, ?_, K8, hat8.imp id (fun e k hk => ?_)⟩
      · rw [HM.out]
        simpa [pairC] using hown8
      · have hk' : (Value.slice va8 (l.length + 1) vc8).ownBlock = some k := hk
        rw [e] at hk'
        cases hk'
        simp
        omega

/-- What is known in the loop over the Kids. -/
structure RK (w W : World) (B : Nat) (v v0 : Value) (l : List (Int × Int)) (kv : Value) : Prop where
  row : W.ownsRow B 23 2 v l.length (pairC l)
  c3 : W.cell? ⟨w.heap.size, 3, none⟩ = some kv
  kept : Kept (fun k => v0.ownBlock = some k) w W
  at_ : v.ownBlock = v0.ownBlock ∨ ∀ k, v.ownBlock = some k → w.heap.size < k

theorem RK.next {w W W' : World} {B : Nat} {v v0 v' : Value} {l l' : List (Int × Int)} {kv : Value} (h : RK w W B v v0 l kv) (h0 : ∀ k, v0.ownBlock = some k → k < w.heap.size) (hr : W'.ownsRow B 23 2 v' l'.length (pairC l')) (K : Kept (fun k => v.ownBlock = some k) W W') (hat : v'.ownBlock = v.ownBlock ∨ ∀ k, v'.ownBlock = some k → W.heap.size ≤ k) : RK w W' B v' v0 l' kv := by
  have hlt := World.block_lt_of_cell? W _ h.c3
  have hv : ∀ k, v.ownBlock = some k → k ≠ w.heap.size := fun k hk => by
    rcases h.at_ with e | e
    · rw [e] at hk
      have := h0 k hk
      omega
    · have := e k hk
      omega
  refine ⟨hr, (World.cell?_of_block (K.block w.heap.size hlt (fun e => hv _ e rfl))).trans h.c3, ?_, ?_⟩
  · refine ⟨K.os.trans h.kept.os, K.tape.trans h.kept.tape, K.output.trans h.kept.output, Nat.le_trans h.kept.size K.size, fun k hk hs => ?_⟩
    refine (K.block k (Nat.lt_of_lt_of_le hk h.kept.size) (fun e => ?_)).trans (h.kept.block k hk hs)
    rcases h.at_ with e' | e'
    · exact hs (e' ▸ e)
    · have := e' k e
      omega
  · rcases hat with e | e
    · rw [e]; exact h.at_
    · exact Or.inr (fun k hk => Nat.lt_of_lt_of_le hlt (e k hk))

set_option maxRecDepth 100000 in
set_option maxHeartbeats 2000000 in
theorem rat_step (t : Lf) (h0 : ¬ t.op = 0) (ih : ∀ k ∈ t.kids, RAt k) : RAt t := by
  intro w0 w B v l hsm hB0 hB hk hks hr hl hBw
  obtain ⟨b, o, op, x, y, kv, kids⟩ := t
  simp only [Lf.op] at h0
  simp only [Lf.op, Lf.x, Lf.y, Lf.kv, Lf.kids, Lf.er, eqF, if_neg h0] at ih hk hks hl ⊢
  obtain ⟨hnb, hsm2⟩ : kids.length ≤ 1048576 ∧ ∀ k ∈ kids, Sml k := by cases hsm with | mk h1 h2 => exact ⟨h1, h2⟩
  obtain ⟨a, cap, rfl, hcap, hkk⟩ := hk
  have dE : (op == 0) = false := by simpa using h0
  have hv0 : ∀ k, v.ownBlock = some k → k < w.heap.size := fun k hk => (ownsRow_at hr hk).2
  have hvB : ∀ k, v.ownBlock = some k → B ≤ k := fun k hk => (ownsRow_at hr hk).1
  have hfl : (kids.map Lf.er).map eqF = ((kids.map Lf.er).map eqF).take kids.length := by rw [List.take_of_length_le (by simp)]
  have hsub : ∀ i, (((kids.map Lf.er).map eqF).take i).flatten.length ≤ ((kids.map Lf.er).map eqF).flatten.length := fun i => by
    conv => rhs; rw [← List.take_append_drop i ((kids.map Lf.er).map eqF), List.flatten_append, List.length_append]
    omega
  have KD : Hid (∀ (i : Nat), i < kids.length → ∃ k kb ko sa sn sc, a = some ⟨kb, ko, none⟩ ∧ (((kids.map Lf.er).map eqF).take (i + 1)).flatten = (((kids.map Lf.er).map eqF).take i).flatten ++ eqF (Lf.er k) ∧ ∀ W, Below B w0 W → W.cell? ⟨kb, ko + i * 4, none⟩ = some (.int .i64 (Lf.op k)) ∧ W.cell? ⟨kb, ko + i * 4 + 1, none⟩ = some (.int .i64 (Lf.x k)) ∧ W.cell? ⟨kb, ko + i * 4 + 2, none⟩ = some (.int .i64 (Lf.y k)) ∧ W.cell? ⟨kb, ko + i * 4 + 3, none⟩ = some (.slice sa sn sc) ∧
      ∀ (v : Value) (l : List (Int × Int)), W.ownsRow B 23 2 v l.length (pairC l) → l.length + (eqF (Lf.er k)).length ≤ 1048576 → B ≤ W.heap.size → Calls Try.prog 12 #[.agg #[.int .i64 (Lf.op k), .int .i64 (Lf.x k), .int .i64 (Lf.y k), .slice sa sn sc], v] W fun e w' => ∃ v', e = .returned v' ∧ w'.ownsRow B 23 2 v' (atsG l (eqF (Lf.er k))).length (pairC (atsG l (eqF (Lf.er k)))) ∧ Kept (fun k => v.ownBlock = some k) W w' ∧ (v'.ownBlock = v.ownBlock ∨ ∀ k, v'.ownBlock = some k → W.heap.size ≤ k)) := by
    intro i hi
    have g1 : kids[i]? = some kids[i] := List.getElem?_eq_getElem hi
    obtain ⟨kb, ko, rfl, ha⟩ : ∃ kb ko, a = some ⟨kb, ko, none⟩ ∧ ∀ (j : Nat) (t : Lf), kids[j]? = some t → t.b = kb ∧ t.o = ko + j * 4 := by
      rcases hkk with e | h
      · rw [e] at hi; simp at hi
      · exact h
    have m1 := List.mem_of_getElem? g1
    have htk : (((kids.map Lf.er).map eqF).take (i + 1)).flatten = (((kids.map Lf.er).map eqF).take i).flatten ++ eqF (Lf.er kids[i]) := by
      rw [List.take_add_one, List.getElem?_map, List.getElem?_map, g1]
      simp
    generalize kids[i] = k at *
    have d1 := ha i k g1
    obtain ⟨kb0, ko0, kop, kx, ky, kkv, kks⟩ := k
    simp only [Lf.b, Lf.o] at d1
    obtain ⟨rfl, rfl⟩ := d1
    have hi1 := ih _ m1
    have hz1 := hsm2 _ m1
    obtain ⟨sa, sc, rfl, s1⟩ : KidsIn kkv kks := by cases hks _ m1 with | mk _ _ _ _ h _ => exact h
    refine ⟨.mk kb0 (ko + i * 4) kop kx ky (.slice sa kks.length sc) kks, _, _, sa, kks.length, sc, rfl, htk, fun W hB => ?_⟩
    have hBw0 : Below w0.heap.size w0 W := hB.mono hB0
    cases (hks _ m1).kept hBw0 with
    | mk q0 q1 q2 q3 q4 q5 =>
      refine ⟨q0, q1, q2, q3, fun v l hr hl hBW => ?_⟩
      exact hi1 w0 W B v l hz1 hB0 hB q4 (fun k hk => by cases hks _ m1 with | mk _ _ _ _ _ h => exact h k hk) hr hl hBW
  rw [hfl]
  clear hkk hks ih hcap hfl hsm hsm2
  generalize (kids.map Lf.er).map eqF = fs at *
  generalize kids.length = n at *
  have R1 := made_row w #[.int .i64 op, .int .i64 x, .int .i64 y, .slice a n cap] 26
  have c0 : (w.alloc (.cells #[.int .i64 op, .int .i64 x, .int .i64 y, .slice a n cap] 26)).cell? ⟨w.heap.size, 0, none⟩ = some (.int .i64 op) := R1.cell (i := 0) (by simp)
  have L1 : RK w (w.alloc (.cells #[.int .i64 op, .int .i64 x, .int .i64 y, .slice a n cap] 26)) B v v (atsG l (fs.take 0).flatten) (.slice a n cap) := ⟨by simpa [atsG] using hr.alloc _, R1.cell (i := 3) (by simp), Kept.ofAlloc _, Or.inl rfl⟩
  obtain ⟨va, vc, hv⟩ := row_formG hr
  subst hv
  clear R1 hr
  have HW : Hid (∀ W, Kept (fun k => (Value.slice va l.length vc).ownBlock = some k) w W → Below B w0 W) := fun W K => hB.trans ⟨K.os, K.tape, K.output, K.size, fun k hk => K.block k (by omega) (fun e => by have := hvB k e; omega)⟩
  go_enter Try.func12, Try.ntmps12
  go_wp2_with fail
  generalize w.alloc (.cells #[.int .i64 op, .int .i64 x, .int .i64 y, .slice a n cap] 26) = w1 at L1 c0 ⊢
  go_loopw [1, 6] (fun t1 t6 W => ∃ k : Nat, k ≤ n ∧ t6 = .int .i64 (k : Int) ∧ ∃ sa sn sc, t1 = .slice sa sn sc ∧ Hid (RK w W B (.slice sa sn sc) (.slice va l.length vc) (atsG l (fs.take k).flatten) (.slice a n cap))) (fun _ t6 _ => n - (intOf t6).toNat)
  case atStart => exact ⟨0, by omega, rfl, va, _, vc, rfl, L1⟩
  case round =>
    obtain ⟨k, hk, rfl, sa, sn, sc, rfl, LK⟩ := hrel
    have y3 := LK.out.c3
    by_cases hk2 : k < n
    · have dk : decide ((k : Int) < (n : Int)) = true := decide_eq_true (by omega)
      obtain ⟨t, kb, ko, ta, tn, tc, rfl, htk, hh⟩ := KD.out k hk2
      obtain ⟨q0, q1, q2, q3, SM⟩ := hh wr (HW.out wr LK.out.kept)
      have h1 := hsub (k + 1)
      rw [htk, List.length_append] at h1
      have h2 := atsG_len (fs.take k).flatten l
      have SM1 := SM _ _ LK.out.row (by omega) (Nat.le_trans hBw LK.out.kept.size)
      have wrp : IntKind.i64.wrap ((k : Int) + 1) = (k : Int) + 1 := by rw [IntKind.wrap_i64]; omega
      have HT : Hid (_) := htk
      clear hh KD htk SM h1 h2 L1 c0
      generalize hte : t.er = te at *
      clear hte
      generalize t.op = top at *
      generalize t.x = tx at *
      generalize t.y = ty at *
      go_wp2_with (first | (go_at_call 12; refine SM1.mono ?_; rintro e w3 ⟨v3, rfl, R3, K3, A3⟩; obtain ⟨ra, rc, hv3⟩ := row_formG R3; subst hv3))
      have L3 : RK w w3 B _ (.slice va l.length vc) (atsG l (fs.take (k + 1)).flatten) (.slice (some ⟨kb, ko, none⟩) n cap) := LK.out.next hv0 (by rw [HT.out, atsG_app]; exact R3) K3 A3
      exact ⟨⟨k + 1, hk2, by simp, _, _, _, rfl, L3⟩, by simp [intOf]; omega⟩
    · have dk : decide ((k : Int) < (n : Int)) = false := decide_eq_false (by omega)
      obtain rfl : k = n := by omega
      clear KD
      go_wp2_with fail
      go_ret
      refine ⟨_, rfl, LK.out.row, LK.out.kept, LK.out.at_.imp id (fun e k hk => Nat.le_of_lt (e k hk))⟩

/-- The document's Atoms. -/
theorem rat : ∀ t : Lf, RAt t
  | .mk b o op x y kv kids => by
    by_cases h0 : op = 0
    · exact rat_leaf _ h0
    · exact rat_step _ h0 (fun k hk => by
        have : k ∈ kids := hk
        have := List.sizeOf_lt_of_mem this
        exact rat k)
termination_by t => SizeOf.sizeOf t
decreasing_by simp; omega

end Go.Proofs.Ytinphcnknionmab

namespace Go.Proofs.Ytinphcnknionmab
open Go.RowKit Go.Maps

/-- What is known of the Forms. -/
structure LfAt (w W : World) (op x y : Int) (kv : Value) (xb : Nat) (op2 x2 y2 : Int) (kv2 : Value) (f : Fo) : Prop where
  below : Below w.heap.size w W
  fb : FB W w.heap.size op x y kv
  ib : FB W xb op2 x2 y2 kv2
  is : FIs W (.agg #[.int .i64 op2, .int .i64 x2, .int .i64 y2, kv2]) f
theorem LfAt.keep {w W W' : World} {op x y : Int} {kv : Value} {xb : Nat} {op2 x2 y2 : Int} {kv2 : Value} {f : Fo} (h : LfAt w W op x y kv xb op2 x2 y2 kv2 f) (hB : Below W.heap.size W W') : LfAt w W' op x y kv xb op2 x2 y2 kv2 f :=
  ⟨h.below.trans (hB.mono h.below.size), h.fb.keep hB, h.ib.keep hB, h.is.keep hB⟩

/-- The document's answer. -/
def WantIs (W : World) (v : Value) (m : List (Int × Int)) : Prop := m = [] ∨ ∃ g cap, v = .slice (some ⟨g, 0, none⟩) m.length cap ∧ m.length ≤ cap ∧ ∀ j p, m[j]? = some p → W.cell? ⟨g, j * 2, none⟩ = some (.int .i64 p.1) ∧ W.cell? ⟨g, j * 2 + 1, none⟩ = some (.int .i64 p.2)
theorem WantIs.keep {W W' : World} {v : Value} {m : List (Int × Int)} (h : WantIs W v m) (hB : Below W.heap.size W W') : WantIs W' v m := by
  rcases h with e | ⟨g, cap, h1, h2, h3⟩
  · exact Or.inl e
  · refine Or.inr ⟨g, cap, h1, h2, fun j p hj => ?_⟩
    obtain ⟨q1, q2⟩ := h3 j p hj
    have hb := World.block_lt_of_cell? W _ q1
    exact ⟨(hB.cell hb).trans q1, (hB.cell (p := ⟨g, j * 2 + 1, none⟩) hb).trans q2⟩
theorem want_of {W : World} {base : Nat} {ty : TypeId} {v : Value} {m : List (Int × Int)} (h : W.ownsRow base ty 2 v m.length (pairC m)) : WantIs W v m := by
  by_cases hm : m = []
  · exact Or.inl hm
  · cases m with
    | nil => exact absurd rfl hm
    | cons p0 r =>
      obtain ⟨g, cap, e, _, hc, _⟩ := row_cells h (i := 0) (p := p0) rfl
      refine Or.inr ⟨g, cap, e, hc, fun j p hj => ?_⟩
      obtain ⟨g', cap', e', _, _, q1, q2⟩ := row_cells h hj
      rw [e] at e'
      simp at e'
      obtain ⟨rfl, rfl⟩ := e'
      exact ⟨q1, q2⟩

/-- The program's answer, of whose first k the number A is written over. -/
def MarkIs (W : World) (lo hi : Nat) (v : Value) (m : List (Int × Int)) (k : Nat) : Prop := m = [] ∨ ∃ g cap N F, v = .slice (some ⟨g, 0, none⟩) m.length cap ∧ m.length ≤ cap ∧ lo ≤ g ∧ g < hi ∧ W.rowIs g 28 N F ∧ ∀ j p, m[j]? = some p → j * 2 + 1 < N ∧ F (j * 2 + 1) = .int .i64 p.2 ∧ (k ≤ j → F (j * 2) = .int .i64 p.1)
theorem mark_of {W : World} {base : Nat} {v : Value} {m : List (Int × Int)} (h : W.ownsRow base 28 2 v m.length (pairC m)) : MarkIs W base W.heap.size v m 0 := by
  by_cases hm : m = []
  · exact Or.inl hm
  · rcases h.2 with ⟨e, h0⟩ | ⟨g, cap, cur, e, e1, e2, e3, e4, e5, e6⟩
    · exact absurd (List.length_eq_zero_iff.1 h0) hm
    · have get : ∀ j u, (pairC m)[j]? = some u → cur[j]? = some u := fun j u hu => by
        rw [← e6, List.getElem?_take] at hu
        split at hu
        · simpa using hu
        · cases hu
      refine Or.inr ⟨g, cap, cur.size, fun i => cur[i]?.getD undef, e, e3, e1, (Array.getElem?_eq_some_iff.1 e2).1, ⟨cur, e2, rfl, fun i hi => by simp [hi]⟩, fun j p hj => ?_⟩
      obtain ⟨h1, h2⟩ := pairC_at m j
      rw [hj] at h1 h2
      have g1 := get _ _ h1
      have g2 := get _ _ h2
      exact ⟨(Array.getElem?_eq_some_iff.1 g2).1, by simp [g2], fun _ => by simp [g1]⟩

/-- All of it. -/
structure LaAt (w W : World) (op x y : Int) (kv : Value) (xb : Nat) (op2 x2 y2 : Int) (kv2 : Value) (f : Fo) (lo hi : Nat) (va vw : Value) (m : List (Int × Int)) (k : Nat) : Prop where
  lf : LfAt w W op x y kv xb op2 x2 y2 kv2 f
  mark : MarkIs W lo hi va m k
  want : ∀ W', (∀ b, hi ≤ b → W'.heap[b]? = W.heap[b]?) → WantIs W' vw m
  lo1 : w.heap.size < lo
  lo2 : xb < lo
theorem LaAt.drewN {w W : World} {op x y : Int} {kv : Value} {xb : Nat} {op2 x2 y2 : Int} {kv2 : Value} {f : Fo} {lo hi : Nat} {va vw : Value} {m : List (Int × Int)} {k : Nat} (h : LaAt w W op x y kv xb op2 x2 y2 kv2 f lo hi va vw m k) (n : Nat) : LaAt w (W.drewN n) op x y kv xb op2 x2 y2 kv2 f lo hi va vw m k :=
  ⟨h.lf.keep ⟨rfl, rfl, rfl, Nat.le_refl _, fun _ _ => rfl⟩, h.mark, h.want, h.lo1, h.lo2⟩

/-- One number more is written over. -/
theorem LaAt.put {w W : World} {op x y : Int} {kv : Value} {xb : Nat} {op2 x2 y2 : Int} {kv2 : Value} {f : Fo} {lo hi : Nat} {vw : Value} {m : List (Int × Int)} {k g cap N : Nat} {F : Nat → Value} (h : LaAt w W op x y kv xb op2 x2 y2 kv2 f lo hi (.slice (some ⟨g, 0, none⟩) m.length cap) vw m k) (hg1 : lo ≤ g) (hg2 : g < hi) (hc : m.length ≤ cap) (hr : W.rowIs g 28 N F) (hF : ∀ j p, m[j]? = some p → j * 2 + 1 < N ∧ F (j * 2 + 1) = .int .i64 p.2 ∧ (k ≤ j → F (j * 2) = .int .i64 p.1)) (u : Value) :
    LaAt w (W.setCell ⟨g, k * 2, none⟩ u) op x y kv xb op2 x2 y2 kv2 f lo hi (.slice (some ⟨g, 0, none⟩) m.length cap) vw m (k + 1) := by
  have nm : ∀ b, b ≠ g → (W.setCell ⟨g, k * 2, none⟩ u).heap[b]? = W.heap[b]? := fun b hb => Below.heap_setCell W ⟨g, k * 2, none⟩ u b hb
  have fbk : ∀ {b : Nat} {o1 o2 o3 : Int} {kk : Value}, b ≠ g → FB W b o1 o2 o3 kk → FB (W.setCell ⟨g, k * 2, none⟩ u) b o1 o2 o3 kk := fun {b o1 o2 o3 kk} hb hh => ⟨(World.cell?_of_block (nm b hb)).trans hh.1, (World.cell?_of_block (nm b hb)).trans hh.2.1, (World.cell?_of_block (nm b hb)).trans hh.2.2.1, (World.cell?_of_block (nm b hb)).trans hh.2.2.2⟩
  have h1 := h.lo1
  have h2 := h.lo2
  refine ⟨⟨h.lf.below.setCell (p := ⟨g, k * 2, none⟩) (by show w.heap.size ≤ g; omega) _, fbk (by omega) h.lf.fb, fbk (by omega) h.lf.ib, ?_⟩, Or.inr ⟨g, cap, N, fun i => if i = k * 2 then u else F i, rfl, hc, hg1, hg2, World.rowIs.congr (hr.set (k * 2) u) (fun j hj => rfl), fun j p hj => ?_⟩, fun W' hW' => h.want W' (fun b hb => (hW' b hb).trans (nm b (by omega))), h.lo1, h.lo2⟩
  · refine FValA.keep (fun b c fz _ hb => (nm b ?_).trans hb) h.lf.is
    rintro rfl
    obtain ⟨c', hc', _⟩ := hr
    rw [hc'] at hb
    simp at hb
  · obtain ⟨a1, a2, a3⟩ := hF j p hj
    refine ⟨a1, by simp only [if_neg (show ¬ j * 2 + 1 = k * 2 by omega)]; exact a2, fun hk => by simp only [if_neg (show ¬ j * 2 = k * 2 by omega)]; exact a3 (by omega)⟩

end Go.Proofs.Ytinphcnknionmab
