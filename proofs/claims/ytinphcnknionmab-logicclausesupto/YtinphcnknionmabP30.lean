/- The statements' Same: of a Form that is the document's. law05: Given. The document's Atoms. The document's search: size, holds. The document's search: forced. -/
import Derived.Test.YtinphcnknionmabP29
import Derived.Deep.CutRange
import Derived.Laws.Bits64
import Derived.Test.YtinphcnknionmabP13
import Derived.Maps.AppendAt
import Derived.Test.YtinphcnknionmabP20
import Derived.Test.YtinphcnknionmabP24
import Derived.Test.YtinphcnknionmabP21
import Derived.Test.YtinphcnknionmabP00
namespace Go.Proofs.Ytinphcnknionmab
open Go.RowKit

/-- No Form of it has too many Kids. -/
inductive Szd : Lf → Prop where
  | mk {b o : Nat} {op x y : Int} {kv : Value} {kids : List Lf} (hn : kids.length ≤ 140737488355328) (h : ∀ k ∈ kids, Szd k) : Szd (.mk b o op x y kv kids)

/-- Same says true of two Forms that are the same. -/
def SmT (t : Lf) : Prop := ∀ (u : Lf) (w : World), t.er = u.er → Szd t → KidsIn t.kv t.kids → (∀ k ∈ t.kids, LayC w k) → KidsIn u.kv u.kids → (∀ k ∈ u.kids, LayC w k) →
  Calls Try.prog 8 #[.agg #[.int .i64 t.op, .int .i64 t.x, .int .i64 t.y, t.kv], .agg #[.int .i64 u.op, .int .i64 u.x, .int .i64 u.y, u.kv]] w fun e w' => e = .returned (.bool true) ∧ Below w.heap.size w w'

set_option maxRecDepth 100000 in
set_option maxHeartbeats 2000000 in
theorem smt_step (t : Lf) (ih : ∀ k ∈ t.kids, SmT k) : SmT t := by
  intro u w he hsz hk hks hk2 hks2
  obtain ⟨b, o, op, x, y, kv, kids⟩ := t
  obtain ⟨b2, o2, op2, x2, y2, kv2, kids2⟩ := u
  simp only [Lf.op, Lf.x, Lf.y, Lf.kv, Lf.kids, Lf.er, Fo.mk.injEq] at ih hk hks hk2 hks2 he ⊢
  obtain ⟨rfl, rfl, rfl, hm⟩ := he
  obtain ⟨hnb, hsz2⟩ : kids.length ≤ 140737488355328 ∧ ∀ k ∈ kids, Szd k := by cases hsz with | mk h1 h2 => exact ⟨h1, h2⟩
  obtain ⟨a, cap, rfl, hcap, hkk⟩ := hk
  obtain ⟨a2, cap2, rfl, hcap2, hkk2⟩ := hk2
  have hl : kids.length = kids2.length := by have := congrArg List.length hm; simpa using this
  rw [← hl] at hcap2 ⊢
  generalize hn : kids.length = n at *
  -- at each place: the cells of both Kids, and what Same says of them
  have KD : Hid (∀ (i : Nat), i < n → ∃ k u kb ko kb2 ko2 sa sn sc sa2 sn2 sc2, a = some ⟨kb, ko, none⟩ ∧ a2 = some ⟨kb2, ko2, none⟩ ∧ ∀ W, Below w.heap.size w W → W.cell? ⟨kb, ko + i * 4, none⟩ = some (.int .i64 (Lf.op k)) ∧ W.cell? ⟨kb, ko + i * 4 + 1, none⟩ = some (.int .i64 (Lf.x k)) ∧ W.cell? ⟨kb, ko + i * 4 + 2, none⟩ = some (.int .i64 (Lf.y k)) ∧ W.cell? ⟨kb, ko + i * 4 + 3, none⟩ = some (.slice sa sn sc) ∧
      W.cell? ⟨kb2, ko2 + i * 4, none⟩ = some (.int .i64 (Lf.op u)) ∧ W.cell? ⟨kb2, ko2 + i * 4 + 1, none⟩ = some (.int .i64 (Lf.x u)) ∧ W.cell? ⟨kb2, ko2 + i * 4 + 2, none⟩ = some (.int .i64 (Lf.y u)) ∧ W.cell? ⟨kb2, ko2 + i * 4 + 3, none⟩ = some (.slice sa2 sn2 sc2) ∧
      Calls Try.prog 8 #[.agg #[.int .i64 (Lf.op k), .int .i64 (Lf.x k), .int .i64 (Lf.y k), .slice sa sn sc], .agg #[.int .i64 (Lf.op u), .int .i64 (Lf.x u), .int .i64 (Lf.y u), .slice sa2 sn2 sc2]] W fun e w' => e = .returned (.bool true) ∧ Below W.heap.size W w') := by
    intro i hi
    have g1 : kids[i]? = some kids[i] := List.getElem?_eq_getElem (by omega)
    have g2 : kids2[i]? = some kids2[i] := List.getElem?_eq_getElem (by omega)
    obtain ⟨kb, ko, rfl, ha⟩ : ∃ kb ko, a = some ⟨kb, ko, none⟩ ∧ ∀ (j : Nat) (t : Lf), kids[j]? = some t → t.b = kb ∧ t.o = ko + j * 4 := by
      rcases hkk with e | h
      · exact absurd (hn ▸ congrArg List.length e) (by simp; omega)
      · exact h
    obtain ⟨kb2, ko2, rfl, ha2⟩ : ∃ kb ko, a2 = some ⟨kb, ko, none⟩ ∧ ∀ (j : Nat) (t : Lf), kids2[j]? = some t → t.b = kb ∧ t.o = ko + j * 4 := by
      rcases hkk2 with e | h
      · exact absurd (hl ▸ congrArg List.length e) (by simp; omega)
      · exact h
    have m1 := List.mem_of_getElem? g1
    have m2 := List.mem_of_getElem? g2
    have hee : kids[i].er = kids2[i].er := by
      have := congrArg (·[i]?) hm
      simpa [g1, g2] using this
    generalize kids[i] = k at *
    generalize kids2[i] = u at *
    have d1 := ha i k g1
    have d2 := ha2 i u g2
    obtain ⟨kb0, ko0, kop, kx, ky, kkv, kks⟩ := k
    obtain ⟨ub0, uo0, uop, ux, uy, ukv, uks⟩ := u
    simp only [Lf.b, Lf.o] at d1 d2
    obtain ⟨rfl, rfl⟩ := d1
    obtain ⟨rfl, rfl⟩ := d2
    have hi1 := ih _ m1
    have hz1 := hsz2 _ m1
    obtain ⟨sa, sc, rfl, s1⟩ : KidsIn kkv kks := by cases hks _ m1 with | mk _ _ _ _ h _ => exact h
    obtain ⟨sa2, sc2, rfl, s2⟩ : KidsIn ukv uks := by cases hks2 _ m2 with | mk _ _ _ _ h _ => exact h
    refine ⟨.mk kb0 (ko + i * 4) kop kx ky (.slice sa kks.length sc) kks, .mk ub0 (ko2 + i * 4) uop ux uy (.slice sa2 uks.length sc2) uks, _, _, _, _, sa, kks.length, sc, sa2, uks.length, sc2, rfl, rfl, fun W hB => ?_⟩
    cases (hks _ m1).kept hB with
    | mk q0 q1 q2 q3 q4 q5 =>
      cases (hks2 _ m2).kept hB with
      | mk r0 r1 r2 r3 r4 r5 => exact ⟨q0, q1, q2, q3, r0, r1, r2, r3, hi1 _ W hee hz1 q4 q5 r4 r5⟩
  clear hkk hkk2 hks hks2 ih hm hl hcap hcap2 hsz hsz2
  clear hn
  go_enter Try.func8, Try.ntmps8
  go_wp2_with fail
  go_loopw [5] (fun t5 W => ∃ k : Nat, k ≤ n ∧ t5 = .int .i64 (k : Int) ∧ Below w.heap.size w W ∧ W.cell? ⟨w.heap.size, 3, none⟩ = some (.slice a n cap) ∧ W.cell? ⟨w.heap.size + 1, 3, none⟩ = some (.slice a2 n cap2)) (fun t5 _ => n - (intOf t5).toNat)
  case atStart =>
    refine ⟨0, by omega, rfl, ((Below.refl _ w).alloc (Nat.le_refl _) _).alloc (by simp) _, ?_, ?_⟩ <;> simp [go_sem]
  case round =>
    obtain ⟨k, hk, rfl, B, y1, y2⟩ := hrel
    have z1 := World.block_lt_of_cell? _ _ y1
    have z2 := World.block_lt_of_cell? _ _ y2
    by_cases hk2 : k < n
    · have dk : decide ((k : Int) < (n : Int)) = true := decide_eq_true (by omega)
      obtain ⟨t, u, kb, ko, kb2, ko2, sa, sn, sc, sa2, sn2, sc2, rfl, rfl, hh⟩ := KD.out k hk2
      have BD : Below w.heap.size w wr.drew := B.drew
      obtain ⟨q0, q1, q2, q3, r0, r1, r2, r3, SM⟩ := hh wr.drew BD
      have FIN : Hid (∀ w3, Below wr.drew.heap.size wr.drew w3 → Below w.heap.size w w3 ∧ w3.cell? ⟨w.heap.size, 3, none⟩ = some (.slice (some ⟨kb, ko, none⟩) n cap) ∧ w3.cell? ⟨w.heap.size + 1, 3, none⟩ = some (.slice (some ⟨kb2, ko2, none⟩) n cap2)) := fun w3 B3 => ⟨BD.trans (B3.mono BD.size), (B3.cell (p := ⟨w.heap.size, 3, none⟩) z1).trans y1, (B3.cell (p := ⟨w.heap.size + 1, 3, none⟩) z2).trans y2⟩
      have wrp : IntKind.i64.wrap ((k : Int) + 1) = (k : Int) + 1 := by rw [IntKind.wrap_i64]; omega
      clear hh KD
      generalize t.op = top at *
      generalize t.x = tx at *
      generalize t.y = ty at *
      generalize u.op = uop at *
      generalize u.x = ux at *
      generalize u.y = uy at *
      go_wp2_with fail
      go_region_with (go_at_call 8; refine SM.mono ?_; rintro e w3 ⟨rfl, B3⟩)
      all_goals
        simp only [Act.put, List.getElem_toArray, List.getElem_cons_succ, List.getElem_cons_zero, List.setIfInBounds_toArray, List.set_cons_succ, List.set_cons_zero]
        obtain ⟨f1, f2, f3⟩ := FIN.out w3 B3
        go_wp2_with fail
        exact ⟨⟨k + 1, hk2, by simp, f1, f2, f3⟩, by simp [intOf]; omega⟩
    · have dk : decide ((k : Int) < (n : Int)) = false := decide_eq_false (by omega)
      clear KD
      go_wp2_with fail
      go_ret
      exact ⟨rfl, B⟩

/-- Same says true of Forms that are the same. -/
theorem smt : ∀ t : Lf, SmT t
  | .mk b o op x y kv kids => smt_step _ fun k hk => by
    have : k ∈ kids := hk
    have := List.sizeOf_lt_of_mem this
    exact smt k
termination_by t => SizeOf.sizeOf t
decreasing_by simp; omega

end Go.Proofs.Ytinphcnknionmab

namespace Go.Proofs.Ytinphcnknionmab
open Go.RowKit Go.Maps

/-- No Form has more Kids than that. -/
inductive Sml : Lf → Prop where
  | mk {b o : Nat} {op x y : Int} {kv : Value} {kids : List Lf} (hn : kids.length ≤ 1048576) (h : ∀ k ∈ kids, Sml k) : Sml (.mk b o op x y kv kids)
theorem Sml.szd {t : Lf} (h : Sml t) : Szd t := by
  induction h with
  | mk hn _ ih => exact .mk (by omega) ih

def formC (c : Lf) : List Value := [.int .i64 c.op, .int .i64 c.x, .int .i64 c.y, c.kv]
theorem formC_len (cs : List Lf) : (cs.flatMap formC).length = cs.length * 4 := by
  induction cs with
  | nil => rfl
  | cons c cs ih => simp [List.flatMap_cons, formC] at ih ⊢; omega
theorem formC_at (cs : List Lf) (i j : Nat) (hj : j < 4) : (cs.flatMap formC)[i * 4 + j]? = (cs[i]?).bind (fun t => (formC t)[j]?) := by
  induction cs generalizing i with
  | nil => simp
  | cons t l ih =>
    cases i with
    | zero => rcases (by omega : j = 0 ∨ j = 1 ∨ j = 2 ∨ j = 3) with rfl | rfl | rfl | rfl <;> simp [formC]
    | succ i =>
      have e : (i + 1) * 4 + j = 4 + (i * 4 + j) := by omega
      simp [List.flatMap_cons, e]
      rw [List.getElem?_append_right (by simp [formC])]
      simpa [formC] using ih i

/-- A row of Forms that is being made; their Kids lie elsewhere. -/
def KR (B : Nat) (W : World) (v : Value) (cs : List Lf) : Prop :=
  W.ownsRow B 31 4 v cs.length (cs.flatMap formC) ∧ ∀ c ∈ cs, KidsIn c.kv c.kids ∧ ∀ k ∈ c.kids, LayA (fun b => B ≤ b ∧ v.ownBlock ≠ some b) W k

theorem KR.nil (B : Nat) (W : World) : KR B W (.slice none 0 0) [] := ⟨World.ownsRow_nil _ _ _ _, by simp⟩
theorem row_formG {w : World} {base : Nat} {e : TypeId} {size : Nat} {v : Value} {n : Nat} {xs : List Value} (h : w.ownsRow base e size v n xs) : ∃ a c, v = .slice a n c := by
  rcases h.2 with ⟨rfl, h0⟩ | ⟨b, cap, cur, rfl, _⟩
  · rw [h0]; exact ⟨none, 0, rfl⟩
  · exact ⟨_, cap, rfl⟩
theorem row_blockG {W W' : World} {base size k : Nat} {ty : TypeId} {v : Value} {xs : List Value} (h : W.ownsRow base ty size v k xs) (hb : ∀ b, v.ownBlock = some b → W'.heap[b]? = W.heap[b]?) : W'.ownsRow base ty size v k xs := by
  refine ⟨h.1, ?_⟩
  rcases h.2 with e | ⟨g, cap, cur, e, e1, e2, e3⟩
  · exact Or.inl e
  · exact Or.inr ⟨g, cap, cur, e, e1, (hb g (by rw [e]; rfl)).trans e2, e3⟩
theorem KR.form {B : Nat} {W : World} {v : Value} {cs : List Lf} (h : KR B W v cs) : ∃ a c, v = .slice a cs.length c := row_formG h.1
theorem ownsRow_at {W : World} {base size k : Nat} {ty : TypeId} {v : Value} {xs : List Value} (h : W.ownsRow base ty size v k xs) {b : Nat} (hb : v.ownBlock = some b) : base ≤ b ∧ b < W.heap.size := by
  rcases h.2 with ⟨e, _⟩ | ⟨g, cap, cur, e, e1, e2, _⟩
  · rw [e] at hb; simp [Value.ownBlock] at hb
  · rw [e] at hb
    simp [Value.ownBlock] at hb
    subst hb
    exact ⟨e1, (Array.getElem?_eq_some_iff.1 e2).1⟩
theorem KR.below {B : Nat} {W W' : World} {v : Value} {cs : List Lf} (h : KR B W v cs) (hB : Below W.heap.size W W') : KR B W' v cs := by
  refine ⟨row_blockG h.1 (fun k hk => hB.block k (ownsRow_at h.1 hk).2), fun c hc => ⟨(h.2 c hc).1, fun k hk => ((h.2 c hc).2 k hk).keep (fun i _ _ _ hi => (hB.block i (Array.getElem?_eq_some_iff.1 hi).1).trans hi)⟩⟩

theorem KR.push {B : Nat} {W w7 w8 : World} {v v8 : Value} {cs : List Lf} {c : Lf} (h : KR B W v cs) (hBW : B ≤ W.heap.size) (hB : Below W.heap.size W w7) (hk : KidsIn c.kv c.kids) (hks : ∀ k ∈ c.kids, LayA (fun b => W.heap.size ≤ b) w7 k)
    (hown : w8.ownsRow B 31 4 v8 (cs.length + 1) (cs.flatMap formC ++ formC c)) (hgrow : w7.grownBy w8 v.ownBlock) (hat : v8.ownBlock = v.ownBlock ∨ v8.ownBlock = some w7.heap.size) : KR B w8 v8 (cs ++ [c]) := by
  have hv : ∀ b, v.ownBlock = some b → B ≤ b ∧ b < W.heap.size := fun b hb => ownsRow_at h.1 hb
  have K8 : FKeepA (fun b => v.ownBlock ≠ some b) w7 w8 := fun k c fz hk hc => (hgrow.block k (Array.getElem?_eq_some_iff.1 hc).1 (fun e => hk e.symm)).trans hc
  refine ⟨by simpa using hown, fun c' hc' => ?_⟩
  rcases List.mem_append.1 hc' with hc' | hc'
  · refine ⟨(h.2 c' hc').1, fun k hk => ?_⟩
    have h1 := ((h.2 c' hc').2 k hk).lt
    have h2 : LayA (fun b => (B ≤ b ∧ v.ownBlock ≠ some b) ∧ b < W.heap.size) w7 k := h1.keep (fun i _ _ _ hi => (hB.block i (Array.getElem?_eq_some_iff.1 hi).1).trans hi)
    refine (h2.keep (K8.mono (fun b hb => hb.1.2))).mono (fun b hb => ⟨hb.1.1, ?_⟩)
    rcases hat with e | e
    · rw [e]; exact hb.1.2
    · rw [e]
      have := hB.size
      intro e'
      cases e'
      omega
  · obtain rfl := List.mem_singleton.1 hc'
    refine ⟨hk, fun k hkk => ?_⟩
    have h1 := (hks k hkk).lt
    refine (h1.keep (K8.mono (fun b hb e => by have := (hv b e).2; omega))).mono (fun b hb => ⟨by omega, ?_⟩)
    rcases hat with e | e
    · rw [e]
      intro e'
      have := (hv b e').2
      omega
    · rw [e]
      intro e'
      cases e'
      omega

/-- When it is made, it is the Kids of a Form. -/
theorem KR.done {B : Nat} {W : World} {v : Value} {cs : List Lf} (h : KR B W v cs) (op x y : Int) : FVal B W (.agg #[.int .i64 op, .int .i64 x, .int .i64 y, v]) (.mk op x y (cs.map Lf.er)) := by
  obtain ⟨h1, h2⟩ := h
  rcases h1.2 with ⟨e, h0⟩ | ⟨g, cap, cur, e, e1, e2, e3, e4, e5, e6⟩
  · have : cs = [] := List.length_eq_zero_iff.1 h0
    subst this
    exact ⟨op, x, y, v, [], rfl, ⟨none, 0, e, Nat.le_refl _, Or.inl rfl⟩, by simp, rfl⟩
  · refine ⟨op, x, y, v, cs.mapIdx (fun j c => .mk g (j * 4) c.op c.x c.y c.kv c.kids), rfl, ⟨_, cap, by rw [List.length_mapIdx]; exact e, by rw [List.length_mapIdx]; exact e3, Or.inr ⟨g, 0, rfl, fun j t hj => ?_⟩⟩, fun k hk => ?_, ?_⟩
    · rw [List.getElem?_mapIdx] at hj
      obtain ⟨c, _, rfl⟩ := Option.map_eq_some_iff.1 hj
      simp [Lf.b, Lf.o]
    · obtain ⟨j, hj⟩ := List.getElem?_of_mem hk
      rw [List.getElem?_mapIdx] at hj
      obtain ⟨c, hc, rfl⟩ := Option.map_eq_some_iff.1 hj
      have hcm := List.mem_of_getElem? hc
      have hlt := (List.getElem?_eq_some_iff.1 hc).1
      have cell : ∀ i u, i < 4 → (formC c)[i]? = some u → cur[j * 4 + i]? = some u := fun i u hi hu => by
        have h3 : (cs.flatMap formC)[j * 4 + i]? = some u := by rw [formC_at cs j i hi, hc]; exact hu
        rw [← e6, List.getElem?_take] at h3
        split at h3
        · simpa using h3
        · cases h3
      exact .mk e1 ⟨cur, (0, 0), e2, cell 0 _ (by omega) rfl, cell 1 _ (by omega) rfl, cell 2 _ (by omega) rfl, cell 3 _ (by omega) rfl⟩ (h2 c hcm).1 (fun k hk => ((h2 c hcm).2 k hk).mono (fun b hb => hb.1))
    · congr 1
      apply List.ext_getElem?
      intro j
      simp only [List.getElem?_map, List.getElem?_mapIdx, Option.map_map]
      cases cs[j]? with
      | none => rfl
      | some c => simp [Lf.er]; cases c; simp [Lf.er, Lf.op, Lf.x, Lf.y, Lf.kids]

theorem infoForm : (Try.prog.info? 31).map (fun i => (i.zero, i.size, i.bytes)) = some (some (.agg #[.int .i64 0, .int .i64 0, .int .i64 0, .slice none 0 0]), 4, 48) := by kernel_rfl

end Go.Proofs.Ytinphcnknionmab

namespace Go.Proofs.Ytinphcnknionmab
open Go.RowKit Go.Maps

/-- Each once, behind some others. -/
def atsG (l0 l : List (Int × Int)) : List (Int × Int) := l.foldl (fun acc p => if p ∈ acc then acc else acc ++ [p]) l0
theorem atsG_nil (l : List (Int × Int)) : atsG [] l = ats l := rfl
theorem atsG_app (l0 a b : List (Int × Int)) : atsG l0 (a ++ b) = atsG (atsG l0 a) b := by simp [atsG, List.foldl_append]
theorem atsG_len (l : List (Int × Int)) : ∀ l0, (atsG l0 l).length ≤ l0.length + l.length := by
  induction l with
  | nil => intro l0; simp [atsG]
  | cons p l ih =>
    intro l0
    have h := ih (if p ∈ l0 then l0 else l0 ++ [p])
    have e : atsG l0 (p :: l) = atsG (if p ∈ l0 then l0 else l0 ++ [p]) l := rfl
    rw [e]
    refine Nat.le_trans h ?_
    split <;> simp <;> omega

theorem pairC_len (l : List (Int × Int)) : (pairC l).length = l.length * 2 := by
  induction l with
  | nil => rfl
  | cons c cs ih => simp [pairC, List.flatMap_cons] at ih ⊢; omega
theorem pairC_at (l : List (Int × Int)) (i : Nat) : (pairC l)[i * 2]? = (l[i]?).map (fun p => Value.int .i64 p.1) ∧ (pairC l)[i * 2 + 1]? = (l[i]?).map (fun p => Value.int .i64 p.2) := by
  induction l generalizing i with
  | nil => simp [pairC]
  | cons t l ih =>
    cases i with
    | zero => simp [pairC]
    | succ i =>
      have e : (i + 1) * 2 = (i * 2) + 1 + 1 := by omega
      have h := ih i
      unfold pairC at h ⊢
      rw [List.flatMap_cons, e]
      simpa using h

theorem row_cells {W : World} {base : Nat} {ty : TypeId} {v : Value} {l : List (Int × Int)} (h : W.ownsRow base ty 2 v l.length (pairC l)) {i : Nat} {p : Int × Int} (hi : l[i]? = some p) :
    ∃ g cap, v = .slice (some ⟨g, 0, none⟩) l.length cap ∧ base ≤ g ∧ l.length ≤ cap ∧ W.cell? ⟨g, i * 2, none⟩ = some (.int .i64 p.1) ∧ W.cell? ⟨g, i * 2 + 1, none⟩ = some (.int .i64 p.2) := by
  have hlt := (List.getElem?_eq_some_iff.1 hi).1
  rcases h.2 with ⟨e, h0⟩ | ⟨g, cap, cur, e, e1, e2, e3, e4, e5, e6⟩
  · omega
  · have get : ∀ j u, (pairC l)[j]? = some u → cur[j]? = some u := fun j u hu => by
      rw [← e6, List.getElem?_take] at hu
      split at hu
      · simpa using hu
      · cases hu
    obtain ⟨h1, h2⟩ := pairC_at l i
    rw [hi] at h1 h2
    refine ⟨g, cap, e, e1, e3, ?_, ?_⟩
    · simp only [World.cell?, e2]; exact get _ _ h1
    · simp only [World.cell?, e2]; exact get _ _ h2

def RAt (t : Lf) : Prop := ∀ (w0 w : World) (B : Nat) (v : Value) (l : List (Int × Int)), Sml t → w0.heap.size ≤ B → Below B w0 w → KidsIn t.kv t.kids → (∀ k ∈ t.kids, LayC w0 k) → w.ownsRow B 23 2 v l.length (pairC l) → l.length + (eqF t.er).length ≤ 1048576 → B ≤ w.heap.size →
  Calls Try.prog 12 #[.agg #[.int .i64 t.op, .int .i64 t.x, .int .i64 t.y, t.kv], v] w fun e w' => ∃ v', e = .returned v' ∧ w'.ownsRow B 23 2 v' (atsG l (eqF t.er)).length (pairC (atsG l (eqF t.er))) ∧ Kept (fun k => v.ownBlock = some k) w w' ∧ (v'.ownBlock = v.ownBlock ∨ ∀ k, v'.ownBlock = some k → w.heap.size ≤ k)

theorem infoRP : (Try.prog.info? 23).map (fun i => (i.zero, i.size, i.bytes)) = some (some (.agg #[.int .i64 0, .int .i64 0]), 2, 16) := by kernel_rfl

end Go.Proofs.Ytinphcnknionmab

namespace Go.Proofs.Ytinphcnknionmab
open Go.RowKit

set_option maxHeartbeats 400000 in
theorem size6_in (w : World) (x : Int) (h1 : -1099511627776 ≤ x) (h2 : x ≤ 1099511627776) : Calls Try.prog 62 #[.int .i64 x] w fun e w' => e = .returned (.int .i64 (x.natAbs : Int)) ∧ w = w' := by
  by_cases h : x < 0
  · have d : decide (x < 0) = true := decide_eq_true h
    have e1 : (x.natAbs : Int) = -x := by omega
    rw [e1]
    go_enter Try.func62, Try.ntmps62
    go_wp2
    go_ret
    exact ⟨rfl, rfl⟩
  · have d : decide (x < 0) = false := decide_eq_false h
    have e1 : (x.natAbs : Int) = x := by omega
    rw [e1]
    go_enter Try.func62, Try.ntmps62
    go_wp2
    go_ret
    exact ⟨rfl, rfl⟩

set_option maxHeartbeats 400000 in
theorem holds6_in (w : World) (a : Option Addr) (cap : Nat) (vs : List Int) (hc : ClsAt w a vs) (ht : Cn.Tri vs) (hl : vs.length ≤ 1099511627776) (x : Int) (hx : x.natAbs < vs.length) :
    Calls Try.prog 56 #[.slice a vs.length cap, .int .i64 x] w fun e w' => e = .returned (.int .i64 (Cn.hold vs x)) ∧ w = w' := by
  have SZ := size6_in w x (by omega) (by omega)
  rcases hc with e | ⟨g, off, rfl, hc⟩
  · rw [e] at hx; simp at hx
  · have c1 := hc x.natAbs vs[x.natAbs] (List.getElem?_eq_getElem hx)
    have hv := ht x.natAbs
    have hh : Hid (Cn.hold vs x = if x < 0 then -vs[x.natAbs] else vs[x.natAbs]) := by
      show _ = _
      unfold Cn.hold
      rw [List.getElem?_eq_getElem hx]
      rfl
    rw [List.getElem?_eq_getElem hx] at hv
    simp only [Option.getD_some] at hv
    generalize vs[x.natAbs] = v at *
    have d0 : decide ((x.natAbs : Int) < (vs.length : Int)) = true := decide_eq_true (by omega)
    clear hc ht
    generalize x.natAbs = nx at *
    by_cases h : x < 0
    · have d : decide (x < 0) = true := decide_eq_true h
      have e2 := hh.out
      rw [if_pos h] at e2
      rw [e2]
      clear e2 hh
      go_enter Try.func56, Try.ntmps56
      go_wp2_with (go_at_call 62; refine SZ.mono ?_; rintro e w2 ⟨rfl, rfl⟩)
      go_ret
      exact ⟨rfl, rfl⟩
    · have d : decide (x < 0) = false := decide_eq_false h
      have e2 := hh.out
      rw [if_neg h] at e2
      rw [e2]
      clear e2 hh
      go_enter Try.func56, Try.ntmps56
      go_wp2_with (go_at_call 62; refine SZ.mono ?_; rintro e w2 ⟨rfl, rfl⟩)
      go_ret
      exact ⟨rfl, rfl⟩

end Go.Proofs.Ytinphcnknionmab

namespace Go.Proofs.Ytinphcnknionmab
open Go.RowKit

/-- Clauses in memory. -/
def Cl2 (w : World) (ca : Option Addr) (cs : List (List Int)) : Prop :=
  cs = [] ∨ ∃ g off, ca = some ⟨g, off, none⟩ ∧ ∀ (i : Nat) (c : List Int), cs[i]? = some c → ∃ a cap, w.cell? ⟨g, off + i, none⟩ = some (.slice a c.length cap) ∧ ClsAt w a c

set_option maxRecDepth 100000 in
set_option maxHeartbeats 2000000 in
theorem forced6_in (w : World) (ca : Option Addr) (cc : Nat) (cs : List (List Int)) (hcs : Cl2 w ca cs) (a : Option Addr) (cap : Nat) (vs : List Int) (hv : ClsAt w a vs) (ht : Cn.Tri vs) (hl : vs.length ≤ 1099511627776) (hi : Cn.InV vs.length cs) (hn : cs.length ≤ 1099511627776) (hn2 : ∀ c ∈ cs, c.length ≤ 1099511627776) :
    Calls Try.prog 46 #[.slice ca cs.length cc, .slice a vs.length cap] w fun e w' => e = .returned (.tuple #[.int .i64 (Cn.forc vs cs).1, .bool (Cn.forc vs cs).2]) ∧ w = w' := by
  have HOLD : Hid (∀ x : Int, x.natAbs < vs.length → Calls Try.prog 56 #[.slice a vs.length cap, .int .i64 x] w fun e w' => e = .returned (.int .i64 (Cn.hold vs x)) ∧ w = w') := fun x hx => holds6_in w a cap vs hv ht hl x hx
  have HT : Hid (∀ x, Cn.hold vs x = 0 ∨ Cn.hold vs x = 1 ∨ Cn.hold vs x = -1) := fun x => Cn.hold_tri ht x
  have HI : Hid (_ ∧ _) := And.intro hi hn2
  clear hv ht hi hn2
  go_enter Try.func46, Try.ntmps46
  go_wp2_with fail
  go_loopw [6] (fun t6 W => ∃ i : Nat, i ≤ cs.length ∧ t6 = .int .i64 (i : Int) ∧ W = w ∧ Hid (Cn.forc vs (cs.drop i) = Cn.forc vs cs)) (fun t6 _ => cs.length - (intOf t6).toNat)
  case atStart => exact ⟨0, by omega, rfl, rfl, rfl⟩
  case round =>
    obtain ⟨i, hi1, rfl, rfl, HF⟩ := hrel
    by_cases hi2 : i < cs.length
    · have di : decide ((i : Int) < (cs.length : Int)) = true := decide_eq_true (by omega)
      have hci : cs[i]? = some cs[i] := List.getElem?_eq_getElem hi2
      obtain ⟨g, off, rfl, hg⟩ : ∃ g off, ca = some ⟨g, off, none⟩ ∧ ∀ (i : Nat) (c : List Int), cs[i]? = some c → ∃ a cap, wr.cell? ⟨g, off + i, none⟩ = some (.slice a c.length cap) ∧ ClsAt wr a c := hcs.resolve_left (by intro e; rw [e] at hi2; simp at hi2)
      obtain ⟨ra, rc, c1, hcl⟩ := hg i _ hci
      have hdrop : cs.drop i = cs[i] :: cs.drop (i + 1) := List.drop_eq_getElem_cons hi2
      have hin : Hid (∀ x ∈ cs[i], x ≠ 0 ∧ x.natAbs < vs.length) := HI.out.1 _ (List.getElem_mem hi2)
      have hcn := HI.out.2 _ (List.getElem_mem hi2)
      have HD : Hid (cs.drop i = cs[i] :: cs.drop (i + 1)) := hdrop
      have HC : Hid (ClsAt wr ra cs[i]) := hcl
      clear hg hcl hdrop hci
      generalize cs[i] = c at *
      go_wp2_with fail
      go_loopw [7, 8, 9, 10] (fun t7 t8 t9 t10 W => ∃ (k n : Nat) (o : Int) (d : Bool), k ≤ c.length ∧ n ≤ k ∧ t7 = .int .i64 o ∧ t8 = .int .i64 (n : Int) ∧ t9 = .bool d ∧ t10 = .int .i64 (k : Int) ∧ W = wr ∧ Hid ((d = false ∧ Cn.scan vs (c.drop k) o n = Cn.scan vs c 0 0) ∨ (d = true ∧ Cn.scan vs c 0 0 = (o, n, true)))) (fun _ _ _ t10 _ => c.length - (intOf t10).toNat)
      case atStart => exact ⟨0, 0, 0, false, by omega, by omega, rfl, rfl, rfl, rfl, rfl, Or.inl ⟨rfl, rfl⟩⟩
      case round =>
        obtain ⟨k, n, o, d, hk, hnk, rfl, rfl, rfl, rfl, rfl, HK⟩ := hrel
        by_cases hgo : k < c.length ∧ d = false
        · obtain ⟨hk2, rfl⟩ := hgo
          have dk : decide ((k : Int) < (c.length : Int)) = true := decide_eq_true (by omega)
          obtain ⟨g2, o2, rfl, hg2⟩ : ∃ g off, ra = some ⟨g, off, none⟩ ∧ ∀ (j : Nat) (x : Int), c[j]? = some x → wr.cell? ⟨g, off + j, none⟩ = some (.int .i64 x) := HC.out.resolve_left (by intro e; rw [e] at hk2; simp at hk2)
          have c2 := hg2 k _ (List.getElem?_eq_getElem hk2)
          have hx := hin.out _ (List.getElem_mem hk2)
          have HS : Hid (Cn.scan vs (c[k] :: c.drop (k + 1)) o n = Cn.scan vs c 0 0) := by
            rcases HK.out with ⟨_, h⟩ | ⟨h, _⟩
            · rw [← List.drop_eq_getElem_cons hk2]; exact h
            · cases h
          have HO := HOLD.out _ hx.2
          have ht := HT.out c[k]
          clear hg2 HK
          generalize c[k] = x at *
          generalize hhv : Cn.hold vs x = v at *
          clear hin HI HF HD HC HOLD HT hcs
          rcases ht with rfl | rfl | rfl
          · by_cases hxo : x = o
            · subst hxo
              have dx : (x != x) = false := by simp
              go_wp2_with (go_at_call 56; refine HO.mono ?_; rintro e w9 ⟨rfl, rfl⟩)
              refine ⟨⟨k + 1, n, x, false, by omega, by omega, rfl, by simp, rfl, by simp, by trivial, ?_⟩, by simp [intOf]; omega⟩
              have := HS.out; rw [Cn.scan, if_neg (by omega), if_neg (fun e => e.2 rfl)] at this; exact Or.inl ⟨rfl, this⟩
            · have dx : (x != o) = true := by simpa using hxo
              skip
              go_wp2_with (go_at_call 56; refine HO.mono ?_; rintro e w9 ⟨rfl, rfl⟩)
              refine ⟨⟨k + 1, n + 1, x, false, by omega, by omega, rfl, by simp, rfl, by simp, by trivial, ?_⟩, by simp [intOf]; omega⟩
              have := HS.out; rw [Cn.scan, if_neg (by omega), if_pos ⟨hhv, hxo⟩] at this; exact Or.inl ⟨rfl, this⟩
          · have := HS.out
            rw [Cn.scan, if_pos hhv] at this
            have HS2 : Hid (Cn.scan vs c 0 0 = (o, n, true)) := this.symm
            clear this HS
            skip
            go_wp2_with (go_at_call 56; refine HO.mono ?_; rintro e w9 ⟨rfl, rfl⟩)
            refine ⟨⟨k + 1, n, o, true, by omega, by omega, rfl, by simp, rfl, by simp, by trivial, ?_⟩, by simp [intOf]; omega⟩
            exact Or.inr ⟨rfl, HS2.out⟩
          · have := HS.out
            rw [Cn.scan, if_neg (by omega), if_neg (by omega)] at this
            have HS2 : Hid (Cn.scan vs (c.drop (k + 1)) o n = Cn.scan vs c 0 0) := this
            clear this HS
            skip
            go_wp2_with (go_at_call 56; refine HO.mono ?_; rintro e w9 ⟨rfl, rfl⟩)
            refine ⟨⟨k + 1, n, o, false, by omega, by omega, rfl, by simp, rfl, by simp, by trivial, ?_⟩, by simp [intOf]; omega⟩
            exact Or.inl ⟨rfl, HS2.out⟩
        · have HN0 : Hid (Cn.forc vs (c :: cs.drop (i + 1)) = Cn.forc vs cs) := by rw [← HD.out]; exact HF.out
          clear HI HF HD HC HOLD HT hcs hin
          cases d with
          | true =>
            have HN : Hid (Cn.forc vs (cs.drop (i + 1)) = Cn.forc vs cs) := by
              have hsc : Cn.scan vs c 0 0 = (o, n, true) := by
                rcases HK.out with ⟨h, _⟩ | ⟨_, h⟩
                · cases h
                · exact h
              have := HN0.out
              rw [Cn.forc, hsc] at this
              show Cn.forc vs (cs.drop (i + 1)) = Cn.forc vs cs
              simpa using this
            clear HK HN0
            by_cases hk2 : k < c.length
            · have dk : decide ((k : Int) < (c.length : Int)) = true := decide_eq_true (by omega)
              go_wp2_with fail
              exact ⟨⟨i + 1, by omega, by simp, by trivial, HN.out⟩, by simp [intOf]; omega⟩
            · have dk : decide ((k : Int) < (c.length : Int)) = false := decide_eq_false (by omega)
              go_wp2_with fail
              exact ⟨⟨i + 1, by omega, by simp, by trivial, HN.out⟩, by simp [intOf]; omega⟩
          | false =>
            have hkc : k = c.length := by
              refine Decidable.byContradiction fun h => hgo ⟨by omega, rfl⟩
            have dk : decide ((k : Int) < (c.length : Int)) = false := decide_eq_false (by omega)
            have hsc : Hid (Cn.scan vs c 0 0 = (o, n, false)) := by
              rcases HK.out with ⟨_, h⟩ | ⟨h, _⟩
              · rw [hkc, List.drop_length] at h; exact h.symm
              · cases h
            clear HK
            by_cases hn0 : n = 0
            · subst hn0
              have hres : Hid (Cn.forc vs cs = (0, false)) := by
                show Cn.forc vs cs = (0, false)
                rw [← HN0.out, Cn.forc, hsc.out]
                simp
              go_wp2_with fail
              refine ⟨rfl, .tuple #[.int .i64 0, .bool false], by simp [results, Try.results46], ?_⟩
              rw [hres.out]
              exact ⟨rfl, rfl⟩
            · have d0 : ((n : Int) == 0) = false := beq_eq_false_iff_ne.2 (by omega)
              by_cases hn1 : n = 1
              · subst hn1
                have hres : Hid (Cn.forc vs cs = (o, true)) := by
                  show Cn.forc vs cs = (o, true)
                  rw [← HN0.out, Cn.forc, hsc.out]
                  simp
                go_wp2_with fail
                refine ⟨rfl, .tuple #[.int .i64 o, .bool true], by simp [results, Try.results46], ?_⟩
                rw [hres.out]
                exact ⟨rfl, rfl⟩
              · have d1 : ((n : Int) == 1) = false := beq_eq_false_iff_ne.2 (by omega)
                have HN : Hid (Cn.forc vs (cs.drop (i + 1)) = Cn.forc vs cs) := by
                  have := HN0.out
                  rw [Cn.forc, hsc.out] at this
                  show Cn.forc vs (cs.drop (i + 1)) = Cn.forc vs cs
                  simpa [hn0, hn1] using this
                go_wp2_with fail
                exact ⟨⟨i + 1, by omega, by simp, by trivial, HN.out⟩, by simp [intOf]; omega⟩
    · have di : decide ((i : Int) < (cs.length : Int)) = false := decide_eq_false (by omega)
      have hf : Cn.forc vs cs = (0, true) := by rw [← HF.out, List.drop_of_length_le (by omega)]; rfl
      go_wp2_with fail
      refine ⟨rfl, .tuple #[.int .i64 0, .bool true], by simp [results, Try.results46], ?_⟩
      rw [hf]
      exact ⟨rfl, rfl⟩

end Go.Proofs.Ytinphcnknionmab
