/- LogicBack: what is shown of a formula is read as that formula. law05's nested. TermReads' walk. -/
import Derived.Test.YtinphcnknionmaaP18
import Derived.Test.YtinphcnknionmaaP44
import Derived.Test.YtinphcnknionmaaP36
import Derived.Test.YtinphcnknionmaaP13
namespace Go.Proofs.Ytinphcnknionmaa.Sp
open Go.RowKit

/-- How deep ( and ! stand in its text. -/
def nestF : Fo → Nat
  | .mk 0 _ _ _ => 0
  | .mk _ _ _ [k] => if k.op = 0 then 0 else nestF k + 1
  | .mk _ _ _ [a, b] => max (nestF a) (nestF b) + 1
  | _ => 0
theorem nestF_neg (k : Fo) : nestF (.mk 1 0 0 [k]) = if k.op = 0 then 0 else nestF k + 1 := by rw [nestF]; simp
theorem nestF_two (o : Int) (ho : o = 2 ∨ o = 3 ∨ o = 4) (a b : Fo) : nestF (.mk o 0 0 [a, b]) = max (nestF a) (nestF b) + 1 := by rcases ho with rfl | rfl | rfl <;> simp [nestF]

/-- A formula ends at k. -/
def Stp (s : ByteArray) (k : Nat) : Prop := k = s.size ∨ (k < s.size ∧ (byt s k = 41 ∨ byt s k = 38 ∨ byt s k = 124 ∨ byt s k = 45))
theorem Stp.stop {s : ByteArray} {k : Nat} (h : Stp s k) : Stop s k := by
  rcases h with e | ⟨h1, e⟩
  · exact Or.inl e
  · exact Or.inr ⟨h1, by omega⟩

theorem byt_out {s : ByteArray} {k : Nat} (h : k = s.size) : byt s k = 0 := by simp [byt, h]

/-- A name's text. -/
theorem shwB_nat {l : List Tm} {x : Int} (h : inB l.length x = true) : ∃ n : Nat, x = (n : Int) ∧ n < l.length ∧ (shwB l x).data.toList = shw l 13 n := by
  obtain ⟨h1, h2⟩ := inB_true h
  refine ⟨x.toNat, by omega, by omega, ?_⟩
  unfold shwB
  rw [if_pos h]

/-- Levels above not. -/
theorem up2 {s : ByteArray} {F d i k : Nat} {l : List Tm} {a : Fo} (h : gp s (F + 1) 3 d i l = .ok a k l) (h1 : ¬ byt s k = 38) : gp s (F + 2) 2 d i l = .ok a k l := by
  rw [gp, if_neg (by omega), if_neg (by omega), h]
  simp only [Res.bind]
  rw [gl, if_neg (by simpa [sgn] using h1)]
theorem up1 {s : ByteArray} {F d i k : Nat} {l : List Tm} {a : Fo} (h : gp s (F + 2) 2 d i l = .ok a k l) (h1 : ¬ byt s k = 124) : gp s (F + 3) 1 d i l = .ok a k l := by
  rw [gp, if_neg (by omega), if_neg (by omega), h]
  simp only [Res.bind]
  rw [gl, if_neg (by simpa [sgn] using h1)]
theorem up0 {s : ByteArray} {F d i k : Nat} {l : List Tm} {a : Fo} (h : gp s (F + 3) 1 d i l = .ok a k l) (h1 : ¬ byt s k = 45) : gp s (F + 4) 0 d i l = .ok a k l := by
  rw [gp, if_pos rfl, h]
  simp only [Res.bind]
  rw [if_neg h1]
theorem up {s : ByteArray} {F d i k : Nat} {l : List Tm} {a : Fo} (h : gp s (F + 1) 3 d i l = .ok a k l) (h1 : ¬ byt s k = 38) (h2 : ¬ byt s k = 124) (h3 : ¬ byt s k = 45) : gp s (F + 4) 0 d i l = .ok a k l := up0 (up1 (up2 h h1) h2) h3

/-- The first byte of a text. -/
theorem shF_first {l : List Tm} (hk : Kp l) (hq : Nq l) {f : Fo} (hw : WfF f) : ∀ g, InF l f → ∀ {s : ByteArray} {i : Nat}, At s i (shF l g f) → i < s.size ∧ bl s i = i := by
  cases hw with
  | eq x y =>
    intro g hin s i ha
    rw [shF_eq] at ha
    have hx := (hin (x, y) (by simp [eqF])).1
    obtain ⟨n, hn, hlt, he⟩ := shwB_nat hx
    rw [he] at ha
    have h1 := shw_first hq.nms (hk.hs n hlt) ha.left.left
    exact ⟨h1.1, bl_end fun x => isNm_not h1.2 x.2⟩
  | neg f hf =>
    intro g hin s i ha
    have h4 : shF l g (.mk 1 0 0 [f]) = if f.op = 0 then shF l [33, 61] f else 33 :: shF l [61] f := by rw [shF]; simp
    rw [h4] at ha
    split at ha
    · next h0 =>
      cases hf with
      | eq x y =>
        rw [shF_eq] at ha
        have hx := (hin (x, y) (by simp [eqF])).1
        obtain ⟨n, hn, hlt, he⟩ := shwB_nat hx
        rw [he] at ha
        have h1 := shw_first hq.nms (hk.hs n hlt) ha.left.left
        exact ⟨h1.1, bl_end fun x => isNm_not h1.2 x.2⟩
      | neg => exact absurd h0 (by simp [Fo.op])
      | two o _ _ ho => exact absurd h0 (by simp [Fo.op]; omega)
    · have h1 := ha.head
      exact ⟨h1.1, bl_end fun x => by have := h1.2; have h2 : byt s i = 33 := h1.2; omega⟩
  | two o a b ho ha hb =>
    intro g hin s i hA
    have h5 : shF l g (.mk o 0 0 [a, b]) = 40 :: (shF l [61] a ++ opS o ++ shF l [61] b ++ [41]) := by rcases ho with rfl | rfl | rfl <;> simp [shF]
    rw [h5] at hA
    have h1 := hA.head
    exact ⟨h1.1, bl_end fun x => by have h2 : byt s i = 40 := h1.2; omega⟩

/-- An equality's text. -/
theorem equ_back {l : List Tm} (hnd : l.Nodup) (hk : Kp l) (hq : Nq l) {s : ByteArray} (hs : s.size ≤ 400) {x y : Int} (hx : inB l.length x = true) (hy : inB l.length y = true) {i d F : Nat} (hi : i ≤ s.size) (neg : Bool)
    (ha : At s i ((shwB l x).data.toList ++ (if neg then [33, 61] else [61]) ++ (shwB l y).data.toList)) (hst : Stp s (i + ((shwB l x).data.toList ++ (if neg then [33, 61] else [61]) ++ (shwB l y).data.toList).length)) :
    gp s (F + 1) 3 d i l = .ok (if neg then .mk 1 0 0 [.mk 0 x y []] else .mk 0 x y []) (i + ((shwB l x).data.toList ++ (if neg then [33, 61] else [61]) ++ (shwB l y).data.toList).length) l := by
  obtain ⟨n, rfl, hn, hen⟩ := shwB_nat hx
  obtain ⟨m, rfl, hm, hem⟩ := shwB_nat hy
  rw [hen, hem] at ha hst ⊢
  have a1 := ha.left.left
  have a2 := ha.left.right
  have a3 := ha.right
  have h1 := shw_first hq.nms (hk.hs n hn) a1
  have b33 : ¬ byt s i = 33 := fun e => by have := h1.2; rw [e] at this; exact absurd this (by decide)
  have b40 : ¬ byt s i = 40 := fun e => by have := h1.2; rw [e] at this; exact absurd this (by decide)
  rw [gp, if_neg (by omega), if_pos rfl, if_neg b33, if_neg b40]
  unfold gEqu
  rw [List.append_assoc, List.length_append] at hst ⊢
  rw [List.length_append] at a3
  generalize hp : i + (shw l 13 n).length = p at *
  have hple : p ≤ s.size := by have := a1.le hi; omega
  cases neg with
  | false =>
    simp only [Bool.false_eq_true, if_false] at a2 a3 hst ⊢
    have q := a2.head
    have q61 : byt s p = 61 := q.2
    have lt1 := lterm_back hnd hk hq hs hn hi a1 (Or.inr ⟨by omega, by rw [hp]; omega⟩)
    rw [lt1, hp]
    simp only [Res.bind]
    have e3 : i + ((shw l 13 n).length + ([61] : List UInt8).length) = p + 1 := by simp; omega
    rw [e3] at a3
    have a3' : At s (p + 1) (shw l 13 m) := a3
    have h3 := shw_first hq.nms (hk.hs m hm) a3'
    have hb3 : bl s (p + 1) = p + 1 := bl_end fun x => isNm_not h3.2 x.2
    have hst' : Stp s (p + 1 + (shw l 13 m).length) := by
      have : i + ((shw l 13 n).length + ([61] ++ shw l 13 m).length) = p + 1 + (shw l 13 m).length := by simp; omega
      rw [this] at hst; exact hst
    have n33 : ¬ byt s p = 33 := by omega
    rw [if_neg n33, if_pos (stands_true q.1 q61), hb3, lterm_back hnd hk hq hs hm (by omega) a3' hst'.stop]
    simp only [if_neg n33]
    have : i + ((shw l 13 n).length + ([61] ++ shw l 13 m).length) = p + 1 + (shw l 13 m).length := by simp; omega
    rw [this]
    rfl
  | true =>
    simp only [if_true] at a2 a3 hst ⊢
    have q := a2.head
    have q33 : byt s p = 33 := q.2
    have q2 := a2.tail.head
    have q61 : byt s (p + 1) = 61 := q2.2
    have lt1 := lterm_back hnd hk hq hs hn hi a1 (Or.inr ⟨by omega, by rw [hp]; omega⟩)
    rw [lt1, hp]
    simp only [Res.bind]
    have e3 : i + ((shw l 13 n).length + ([33, 61] : List UInt8).length) = p + 1 + 1 := by simp; omega
    rw [e3] at a3
    have a3' : At s (p + 1 + 1) (shw l 13 m) := a3
    have h3 := shw_first hq.nms (hk.hs m hm) a3'
    have hb3 : bl s (p + 1 + 1) = p + 1 + 1 := bl_end fun x => isNm_not h3.2 x.2
    have hst' : Stp s (p + 1 + 1 + (shw l 13 m).length) := by
      have : i + ((shw l 13 n).length + ([33, 61] ++ shw l 13 m).length) = p + 1 + 1 + (shw l 13 m).length := by simp; omega
      rw [this] at hst; exact hst
    rw [if_pos q33, if_pos (stands_true q2.1 q61), hb3, lterm_back hnd hk hq hs hm (by omega) a3' hst'.stop]
    simp only [if_pos q33]
    have : i + ((shw l 13 n).length + ([33, 61] ++ shw l 13 m).length) = p + 1 + 1 + (shw l 13 m).length := by simp; omega
    rw [this]
    rfl

set_option maxHeartbeats 1000000 in
/-- What is shown is read so. -/
theorem rd3 {l : List Tm} (hnd : l.Nodup) (hk : Kp l) (hq : Nq l) {s : ByteArray} (hs : s.size ≤ 400) {f : Fo} (hw : WfF f) : InF l f → ∀ i d F, At s i (shF l [61] f) → Stp s (i + (shF l [61] f).length) → i ≤ s.size → d + nestF f ≤ 20 → 6 * (s.size - i) + 2 ≤ F → gp s F 3 d i l = .ok f (i + (shF l [61] f).length) l := by
  induction hw with
  | eq x y =>
    intro hin i d F ha hst hi hd hF
    obtain ⟨F, rfl⟩ : ∃ g, F = g + 1 := ⟨F - 1, by omega⟩
    obtain ⟨hx, hy⟩ := hin (x, y) (by simp [eqF])
    rw [shF_eq] at ha hst ⊢
    exact equ_back hnd hk hq hs hx hy hi false ha hst
  | neg f hf ih =>
    intro hin i d F ha hst hi hd hF
    obtain ⟨F, rfl⟩ : ∃ g, F = g + 1 := ⟨F - 1, by omega⟩
    rw [nestF_neg] at hd
    rw [shF_neg] at ha hst ⊢
    have hin' : InF l f := fun p hp => hin p (by simp [eqF]; exact hp)
    by_cases h0 : f.op = 0
    · rw [if_pos h0] at ha hst ⊢
      cases hf with
      | eq x y =>
        obtain ⟨hx, hy⟩ := hin' (x, y) (by simp [eqF])
        rw [shF_eq] at ha hst ⊢
        exact equ_back hnd hk hq hs hx hy hi true ha hst
      | neg => exact absurd h0 (by simp [Fo.op])
      | two o _ _ ho => exact absurd h0 (by simp [Fo.op]; omega)
    · rw [if_neg h0] at ha hst hd ⊢
      have q := ha.head
      have q33 : byt s i = 33 := q.2
      obtain ⟨f1, f2⟩ := shF_first hk hq hf [61] hin' ha.tail
      have e1 : i + (33 :: shF l [61] f).length = i + 1 + (shF l [61] f).length := by rw [List.length_cons]; omega
      rw [e1] at hst ⊢
      rw [gp, if_neg (by omega), if_pos rfl, if_pos q33, if_neg (by omega), f2, ih hin' (i + 1) (d + 1) F ha.tail hst (by omega) (by omega) (by omega)]
      rfl
  | two o a b ho ha hb iha ihb =>
    intro hin i d F hA hst hi hd hF
    rw [nestF_two o ho] at hd
    rw [shF_two l o 0 0 ho] at hA hst ⊢
    have h0 : ¬ o = 0 := by rcases ho with rfl | rfl | rfl <;> decide
    have hia : InF l a := fun p hp => hin p (by simp [eqF, h0]; exact Or.inl hp)
    have hib : InF l b := fun p hp => hin p (by simp [eqF, h0]; exact Or.inr hp)
    have q := hA.head
    have q40 : byt s i = 40 := q.2
    have t := hA.tail
    have tA := t.left.left.left
    have tS := t.left.left.right
    have tB := t.left.right
    have tC := t.right
    have hlA := tA.le (by omega)
    rw [List.length_append] at tB
    rw [List.length_append, List.length_append] at tC
    obtain ⟨f1, f2⟩ := shF_first hk hq ha [61] hia tA
    obtain ⟨F, rfl⟩ : ∃ g, F = g + 10 := ⟨F - 10, by omega⟩
    generalize hla : (shF l [61] a).length = A at *
    generalize hlb : (shF l [61] b).length = B at *
    have hlen : i + (40 :: (shF l [61] a ++ opS o ++ shF l [61] b ++ [41])).length = i + 1 + (A + (opS o).length + B) + 1 := by
      rw [List.length_cons, List.length_append, List.length_append, List.length_append, hla, hlb]
      simp
      omega
    rw [hlen] at hst ⊢
    have qC := tC.head
    have q41 : byt s (i + 1 + (A + (opS o).length + B)) = 41 := qC.2
    have m1 : nestF a ≤ max (nestF a) (nestF b) := Nat.le_max_left _ _
    have m2 : nestF b ≤ max (nestF a) (nestF b) := Nat.le_max_right _ _
    generalize max (nestF a) (nestF b) = M at *
    rw [gp, if_neg (by omega), if_pos rfl, if_neg (by omega), if_pos q40, if_neg (by omega), f2]
    have key : gp s (F + 9) 0 (d + 1) (i + 1) l = .ok (.mk o 0 0 [a, b]) (i + 1 + (A + (opS o).length + B)) l := by
      have hlB := tB.le (by omega)
      rw [hlb] at hlB
      obtain ⟨g1, g2⟩ := shF_first hk hq hb [61] hib tB
      have r3a := fun G (hG : 6 * (s.size - (i + 1)) + 2 ≤ G) (hS : Stp s (i + 1 + A)) => iha hia (i + 1) (d + 1) G tA hS (by omega) (by omega) hG
      have r3b := fun G (hG : 6 * (s.size - (i + 1 + (A + (opS o).length))) + 2 ≤ G) => ihb hib (i + 1 + (A + (opS o).length)) (d + 1) G tB (by
        rw [show i + 1 + (A + (opS o).length) + B = i + 1 + (A + (opS o).length + B) from by omega]
        exact Or.inr ⟨qC.1, Or.inl q41⟩) (by omega) (by omega) hG
      rw [show i + 1 + (A + (opS o).length) + B = i + 1 + (A + (opS o).length + B) from by omega] at r3b
      generalize hk2 : i + 1 + (A + (opS o).length + B) = k2 at *
      have hqs := tS
      rcases ho with rfl | rfl | rfl
      · have e : opS 2 = [38] := rfl
        rw [e] at tS g2 r3b hk2
        have q38 : byt s (i + 1 + A) = 38 := tS.head.2
        have ea : i + 1 + (A + ([38] : List UInt8).length) = i + 1 + A + 1 := by simp; omega
        rw [ea] at g2 r3b
        have L2 : gp s (F + 7) 2 (d + 1) (i + 1) l = .ok (.mk 2 0 0 [a, b]) k2 l := by
          rw [gp, if_neg (by omega), if_neg (by omega), r3a (F + 6) (by omega) (Or.inr ⟨tS.head.1, by omega⟩)]
          simp only [Res.bind]
          rw [gl, if_pos (show byt s (i + 1 + A) = sgn 2 from q38), g2, r3b (F + 5) (by omega)]
          simp only [Res.bind]
          rw [gl, if_neg (show ¬ byt s k2 = sgn 2 by rw [q41]; decide)]
          rfl
        exact up0 (F := F + 5) (up1 (F := F + 5) L2 (by omega)) (by omega)
      · have e : opS 3 = [124] := rfl
        rw [e] at tS g2 r3b hk2
        have q38 : byt s (i + 1 + A) = 124 := tS.head.2
        have ea : i + 1 + (A + ([124] : List UInt8).length) = i + 1 + A + 1 := by simp; omega
        rw [ea] at g2 r3b
        have L2 := up2 (F := F + 5) (r3a (F + 6) (by omega) (Or.inr ⟨tS.head.1, by omega⟩)) (by omega)
        have M2 := up2 (F := F + 4) (r3b (F + 5) (by omega)) (by omega)
        have L1 : gp s (F + 8) 1 (d + 1) (i + 1) l = .ok (.mk 3 0 0 [a, b]) k2 l := by
          rw [gp, if_neg (by omega), if_neg (by omega), L2]
          simp only [Res.bind]
          rw [gl, if_pos (show byt s (i + 1 + A) = sgn 1 from q38), g2, M2]
          simp only [Res.bind]
          rw [gl, if_neg (show ¬ byt s k2 = sgn 1 by rw [q41]; decide)]
          rfl
        exact up0 (F := F + 5) L1 (by omega)
      · have e : opS 4 = [45, 62] := rfl
        rw [e] at tS g2 r3b hk2
        have q38 : byt s (i + 1 + A) = 45 := tS.head.2
        have q62 := tS.tail.head
        have q62' : byt s (i + 1 + A + 1) = 62 := q62.2
        have ea : i + 1 + (A + ([45, 62] : List UInt8).length) = i + 1 + A + 1 + 1 := by simp; omega
        rw [ea] at g2 r3b
        have L1 := up1 (F := F + 5) (up2 (F := F + 5) (r3a (F + 6) (by omega) (Or.inr ⟨tS.head.1, by omega⟩)) (by omega)) (by omega)
        have M0 := up (F := F + 4) (r3b (F + 5) (by omega)) (by omega) (by omega) (by omega)
        rw [gp, if_pos rfl, L1]
        simp only [Res.bind]
        rw [if_pos q38, if_pos (stands_true q62.1 q62'), g2, M0]
        rfl
    rw [key]
    simp only [Res.bind]
    rw [if_pos (stands_true qC.1 q41), Stop.bl hst.stop]

theorem gParse_back {l : List Tm} (hnd : l.Nodup) (hk : Kp l) (hq : Nq l) {f : Fo} (hw : WfF f) (hin : InF l f) (hs : (shF l [61] f).length ≤ 400) (hn : nestF f ≤ 20) : gParse (ofB (shF l [61] f)) l = (f, 0, 0, l) := by
  have hz : (ofB (shF l [61] f)).size = (shF l [61] f).length := bt_size _
  have hA : At (ofB (shF l [61] f)) 0 (shF l [61] f) := At.whole _
  generalize ofB (shF l [61] f) = s at *
  obtain ⟨h1, h2⟩ := shF_first hk hq hw [61] hin hA
  have r := rd3 hnd hk hq (s := s) (by omega) hw hin 0 0 (6 * s.size + 2) hA (Or.inl (by omega)) (by omega) (by omega) (by omega)
  have b0 : byt s (0 + (shF l [61] f).length) = 0 := byt_out (by omega)
  have r0 := up (F := 6 * s.size + 1) r (by omega) (by omega) (by omega)
  unfold gParse gWhole
  rw [if_neg (by omega), h2, r0]
  simp only
  rw [if_neg (by omega)]

end Go.Proofs.Ytinphcnknionmaa.Sp

namespace Go.Proofs.Ytinphcnknionmaa
open Go.RowKit

def NsT (t : Lf) : Prop := ∀ (w : World), KidsIn t.kv t.kids → (∀ k ∈ t.kids, LayC w k) → WfF t.er → Sp.nestF t.er ≤ 1000000 →
  Calls Try.prog 65 #[.agg #[.int .i64 t.op, .int .i64 t.x, .int .i64 t.y, t.kv]] w fun e w' => e = .returned (.int .i64 (Sp.nestF t.er : Int)) ∧ Below w.heap.size w w'

def mxK (xs : List Nat) (j : Nat) : Nat := (xs.take j).foldl max 0
theorem mxK_succ {xs : List Nat} {j : Nat} {x : Nat} (h : xs[j]? = some x) : mxK xs (j + 1) = max (mxK xs j) x := by
  unfold mxK
  rw [List.take_add_one, h]
  simp

theorem fold_le {B : Nat} : ∀ (xs : List Nat) (a : Nat), a ≤ B → (∀ x ∈ xs, x ≤ B) → xs.foldl max a ≤ B
  | [], _, h, _ => h
  | x :: xs, a, h, hx => fold_le xs (max a x) (Nat.max_le.2 ⟨h, hx x (by simp)⟩) (fun y hy => hx y (by simp [hy]))
theorem mxK_le {B : Nat} {xs : List Nat} (h : ∀ x ∈ xs, x ≤ B) (j : Nat) : mxK xs j ≤ B := fold_le _ 0 (Nat.zero_le _) (fun x hx => h x (List.mem_of_mem_take hx))

/-- Behind a Kid. -/
theorem ns_kid {w : World} {kids : List Lf} (hks : ∀ k ∈ kids, LayC w k) (ih : ∀ k ∈ kids, NsT k) {kv : Value} (hw : ∀ k ∈ kids, WfF k.er) (hn : ∀ k ∈ kids, Sp.nestF k.er ≤ 1000000)
    (j : Nat) (k : Lf) (hj : kids[j]? = some k) (w2 : World) (hB : Below w.heap.size w w2) (e3 : w2.cell? ⟨w.heap.size, 3, none⟩ = some kv) :
    Calls Try.prog 65 #[.agg #[.int .i64 k.op, .int .i64 k.x, .int .i64 k.y, k.kv]] w2 fun e w' => e = .returned (.int .i64 (Sp.nestF k.er : Int)) ∧ Below w.heap.size w w' ∧ w'.cell? ⟨w.heap.size, 3, none⟩ = some kv := by
  have hm := List.mem_of_getElem? hj
  have hl := (hks k hm).kept hB
  have hz := World.block_lt_of_cell? w2 _ e3
  have hi := ih k hm w2
  have hw' := hw k hm
  have hn' := hn k hm
  cases hl with
  | mk d0 d1 d2 d3 dk dh =>
    refine (hi dk dh hw' hn').mono ?_
    rintro e w' ⟨rfl, B⟩
    exact ⟨rfl, hB.trans (B.mono hB.size), (B.cell (p := ⟨w.heap.size, 3, none⟩) hz).trans e3⟩

set_option maxRecDepth 100000 in
set_option maxHeartbeats 2000000 in
/-- A Form whose Kids are gone through. -/
theorem ns_loop (op x y : Int) (kb ko cap : Nat) (kids : List Lf) (hlen : kids.length ≤ 2) (w : World) (hks : ∀ k ∈ kids, LayC w k) (ih : ∀ k ∈ kids, NsT k) (hw : ∀ k ∈ kids, WfF k.er) (hn : ∀ k ∈ kids, Sp.nestF k.er ≤ 1000000)
    (hadr : ∀ (j : Nat) (t : Lf), kids[j]? = some t → t.b = kb ∧ t.o = ko + j * 4) (h0 : ¬ op = 0) (h1 : op = 1 → ∃ k, kids[0]? = some k ∧ ¬ k.op = 0) :
    Calls Try.prog 65 #[.agg #[.int .i64 op, .int .i64 x, .int .i64 y, .slice (some ⟨kb, ko, none⟩) kids.length cap]] w fun e w' => e = .returned (.int .i64 ((mxK (kids.map fun k => Sp.nestF k.er) kids.length + 1 : Nat) : Int)) ∧ Below w.heap.size w w' := by
  have KA : Below w.heap.size w (w.alloc (.cells #[.int .i64 op, .int .i64 x, .int .i64 y, .slice (some ⟨kb, ko, none⟩) kids.length cap] 94)) := (Below.refl _ w).alloc (Nat.le_refl _) _
  have R1 := made_row w #[.int .i64 op, .int .i64 x, .int .i64 y, .slice (some ⟨kb, ko, none⟩) kids.length cap] 94
  have c0 : (w.alloc (.cells #[.int .i64 op, .int .i64 x, .int .i64 y, .slice (some ⟨kb, ko, none⟩) kids.length cap] 94)).cell? ⟨w.heap.size, 0, none⟩ = some (.int .i64 op) := R1.cell (i := 0) (by simp)
  have c3 : (w.alloc (.cells #[.int .i64 op, .int .i64 x, .int .i64 y, .slice (some ⟨kb, ko, none⟩) kids.length cap] 94)).cell? ⟨w.heap.size, 3, none⟩ = some (.slice (some ⟨kb, ko, none⟩) kids.length cap) := R1.cell (i := 3) (by simp)
  have d0 : (op == 0) = false := by simpa using h0
  have NX : Hid _ := @ns_kid w kids hks ih (.slice (some ⟨kb, ko, none⟩) kids.length cap) hw hn
  have CC : Hid _ := kid_cells hks hadr
  have HM : Hid (∀ j, mxK (kids.map fun k => Sp.nestF k.er) j ≤ 1000000) := fun j => mxK_le (fun x hx => by
    obtain ⟨k, hk, rfl⟩ := List.mem_map.1 hx
    exact hn k hk) j
  have HX : Hid (∀ j k, kids[j]? = some k → mxK (kids.map fun k => Sp.nestF k.er) (j + 1) = max (mxK (kids.map fun k => Sp.nestF k.er) j) (Sp.nestF k.er)) := fun j k hk => mxK_succ (by rw [List.getElem?_map, hk]; rfl)
  have hm0 : mxK (kids.map fun k => Sp.nestF k.er) 0 = 0 := by simp [mxK]
  generalize (kids.map fun k => Sp.nestF k.er) = xs at *
  clear hks ih hw hn hadr R1
  by_cases h1' : op = 1
  · subst h1'
    obtain ⟨k, hk, hk0⟩ := h1 rfl
    obtain ⟨g0, _⟩ := CC.out 0 k hk _ KA
    have dk : (k.op == 0) = false := by simpa using hk0
    have hpos : 0 < kids.length := (List.getElem?_eq_some_iff.1 hk).1
    have dpos : decide ((0 : Int) < (kids.length : Int)) = true := decide_eq_true (by omega)
    simp only [Nat.zero_mul, Nat.add_zero] at g0
    clear h1 hk0 hk
    go_enter Try.func65, Try.ntmps65
    go_wp2_with fail
    go_loopw [3, 4] (fun t3 t4 W => ∃ j : Nat, j ≤ kids.length ∧ t3 = .int .i64 (mxK xs j : Int) ∧ t4 = .int .i64 (j : Int) ∧ Hid (Below w.heap.size w W) ∧ W.cell? ⟨w.heap.size, 3, none⟩ = some (.slice (some ⟨kb, ko, none⟩) kids.length cap)) (fun _ t4 _ => kids.length - (intOf t4).toNat)
    case atStart => exact ⟨0, by omega, by rw [hm0]; rfl, rfl, KA, c3⟩
    case round =>
      obtain ⟨j, hj, rfl, rfl, BW, e3⟩ := hrel
      by_cases hj2 : j < kids.length
      · have dj : decide ((j : Int) < (kids.length : Int)) = true := decide_eq_true (by omega)
        have hkj : kids[j]? = some kids[j] := List.getElem?_eq_getElem hj2
        obtain ⟨g0, g1, g2, sa, sn, sc, hkv, g3⟩ := CC.out j kids[j] hkj wr BW.out
        have N2 := NX.out j kids[j] hkj wr BW.out e3
        have hmx : Hid (mxK xs (j + 1) = max (mxK xs j) (Sp.nestF kids[j].er)) := HX.out j kids[j] hkj
        have hb1 := HM.out j
        rw [hkv] at N2
        generalize kids[j] = k at *
        generalize Sp.nestF k.er = nk at *
        generalize mxK xs j = mj at *
        clear hkv hkj NX CC HX c3
        go_wp2_with (first | (go_at_call 65; refine N2.mono ?_; rintro e w3 ⟨rfl, B3, m3⟩))
        refine ⟨⟨j + 1, hj2, ?_, by simp, B3, m3⟩, by simp [intOf]; omega⟩
        rw [hmx.out]
        congr 1
        omega
      · have dj : decide ((j : Int) < (kids.length : Int)) = false := decide_eq_false (by omega)
        obtain rfl : j = kids.length := by omega
        have hb1 := HM.out kids.length
        clear NX CC HX c3
        go_wp2_with fail
        go_ret
        exact ⟨by simp, BW.out⟩
  · have d1 : (op == 1) = false := by simpa using h1'
    clear h1
    go_enter Try.func65, Try.ntmps65
    go_wp2_with fail
    go_loopw [3, 4] (fun t3 t4 W => ∃ j : Nat, j ≤ kids.length ∧ t3 = .int .i64 (mxK xs j : Int) ∧ t4 = .int .i64 (j : Int) ∧ Hid (Below w.heap.size w W) ∧ W.cell? ⟨w.heap.size, 3, none⟩ = some (.slice (some ⟨kb, ko, none⟩) kids.length cap)) (fun _ t4 _ => kids.length - (intOf t4).toNat)
    case atStart => exact ⟨0, by omega, by rw [hm0]; rfl, rfl, KA, c3⟩
    case round =>
      obtain ⟨j, hj, rfl, rfl, BW, e3⟩ := hrel
      by_cases hj2 : j < kids.length
      · have dj : decide ((j : Int) < (kids.length : Int)) = true := decide_eq_true (by omega)
        have hkj : kids[j]? = some kids[j] := List.getElem?_eq_getElem hj2
        obtain ⟨g0, g1, g2, sa, sn, sc, hkv, g3⟩ := CC.out j kids[j] hkj wr BW.out
        have N2 := NX.out j kids[j] hkj wr BW.out e3
        have hmx : Hid (mxK xs (j + 1) = max (mxK xs j) (Sp.nestF kids[j].er)) := HX.out j kids[j] hkj
        have hb1 := HM.out j
        rw [hkv] at N2
        generalize kids[j] = k at *
        generalize Sp.nestF k.er = nk at *
        generalize mxK xs j = mj at *
        clear hkv hkj NX CC HX c3
        go_wp2_with (first | (go_at_call 65; refine N2.mono ?_; rintro e w3 ⟨rfl, B3, m3⟩))
        refine ⟨⟨j + 1, hj2, ?_, by simp, B3, m3⟩, by simp [intOf]; omega⟩
        rw [hmx.out]
        congr 1
        omega
      · have dj : decide ((j : Int) < (kids.length : Int)) = false := decide_eq_false (by omega)
        obtain rfl : j = kids.length := by omega
        have hb1 := HM.out kids.length
        clear NX CC HX c3
        go_wp2_with fail
        go_ret
        exact ⟨by simp, BW.out⟩

set_option maxRecDepth 100000 in
set_option maxHeartbeats 2000000 in
theorem ns_zero (w : World) (x y : Int) (a : Option Addr) (n cap : Nat) :
    Calls Try.prog 65 #[.agg #[.int .i64 0, .int .i64 x, .int .i64 y, .slice a n cap]] w fun e w' => e = .returned (.int .i64 0) ∧ Below w.heap.size w w' := by
  have KA : Below w.heap.size w (w.alloc (.cells #[.int .i64 0, .int .i64 x, .int .i64 y, .slice a n cap] 94)) := (Below.refl _ w).alloc (Nat.le_refl _) _
  go_enter Try.func65, Try.ntmps65
  go_wp2_with fail
  go_ret
  exact ⟨rfl, KA⟩
set_option maxRecDepth 100000 in
set_option maxHeartbeats 2000000 in
theorem ns_one (w : World) (x y : Int) (kb ko cap : Nat) (c : w.cell? ⟨kb, ko, none⟩ = some (.int .i64 0)) :
    Calls Try.prog 65 #[.agg #[.int .i64 1, .int .i64 x, .int .i64 y, .slice (some ⟨kb, ko, none⟩) 1 cap]] w fun e w' => e = .returned (.int .i64 0) ∧ Below w.heap.size w w' := by
  have KA : Below w.heap.size w (w.alloc (.cells #[.int .i64 1, .int .i64 x, .int .i64 y, .slice (some ⟨kb, ko, none⟩) 1 cap] 94)) := (Below.refl _ w).alloc (Nat.le_refl _) _
  have hlt := World.block_lt_of_cell? w _ c
  have hlt' : kb < w.heap.size := hlt
  go_enter Try.func65, Try.ntmps65
  go_wp2_with fail
  go_ret
  exact ⟨rfl, KA⟩

theorem nst' {f : Fo} (h : WfF f) : ∀ t : Lf, t.er = f → NsT t := by
  induction h with
  | eq x0 y0 =>
    intro t ht w hk hks hw hn
    obtain ⟨h1, _, _, _⟩ := Lf.er_kids ht
    obtain ⟨a, cap, hkv, _⟩ := hk
    rw [h1, hkv, ht, show Sp.nestF (.mk 0 x0 y0 []) = 0 by simp [Sp.nestF]]
    exact ns_zero w _ _ a _ cap
  | neg g hg ih =>
    intro t ht w hk hks hw hn
    obtain ⟨h1, _, _, h4⟩ := Lf.er_kids ht
    obtain ⟨k, hkk, hke⟩ := map_one h4
    obtain ⟨a, cap, hkv, _, hor⟩ := hk
    rw [ht] at hn ⊢
    rw [h1, hkv]
    rw [hkk] at hks hor ⊢
    obtain ⟨kb, ko, rfl, hadr⟩ : ∃ kb ko, a = some ⟨kb, ko, none⟩ ∧ ∀ (j : Nat) (t : Lf), [k][j]? = some t → t.b = kb ∧ t.o = ko + j * 4 := by
      rcases hor with e | e
      · cases e
      · exact e
    rw [Sp.nestF_neg] at hn ⊢
    have hop : k.op = g.op := by rw [← hke]; exact (Lf.er_op k).symm
    by_cases h0 : g.op = 0
    · rw [if_pos h0]
      have hl := hks k (by simp)
      obtain ⟨e1, e2⟩ := hadr 0 k rfl
      cases hl with
      | mk d0 d1 d2 d3 dk dh =>
        simp only [Lf.b, Lf.o, Lf.op] at e1 e2 hop
        subst e1
        rw [Nat.zero_mul, Nat.add_zero] at e2
        subst e2
        rw [hop, h0] at d0
        exact ns_one w _ _ _ _ cap d0
    · rw [if_neg h0] at hn ⊢
      have R := ns_loop 1 t.x t.y kb ko cap [k] (by simp) w hks (fun u hu => by obtain rfl := List.mem_singleton.1 hu; exact ih _ hke) (fun u hu => by obtain rfl := List.mem_singleton.1 hu; rw [hke]; exact hg) (fun u hu => by obtain rfl := List.mem_singleton.1 hu; rw [hke]; omega) hadr (by decide) (fun _ => ⟨k, rfl, by rw [hop]; exact h0⟩)
      have e : mxK ([k].map fun k => Sp.nestF k.er) [k].length = Sp.nestF g := by simp [mxK, hke]
      rw [e] at R
      exact R
  | two o g1 g2 ho hg1 hg2 ih1 ih2 =>
    intro t ht w hk hks hw hn
    obtain ⟨h1, _, _, h4⟩ := Lf.er_kids ht
    obtain ⟨k1, k2, hkk, hk1, hk2⟩ := map_two h4
    obtain ⟨a, cap, hkv, _, hor⟩ := hk
    rw [ht] at hn ⊢
    rw [h1, hkv]
    rw [hkk] at hks hor ⊢
    obtain ⟨kb, ko, rfl, hadr⟩ : ∃ kb ko, a = some ⟨kb, ko, none⟩ ∧ ∀ (j : Nat) (t : Lf), [k1, k2][j]? = some t → t.b = kb ∧ t.o = ko + j * 4 := by
      rcases hor with e | e
      · cases e
      · exact e
    rw [Sp.nestF_two o ho] at hn ⊢
    have m1 : Sp.nestF g1 ≤ max (Sp.nestF g1) (Sp.nestF g2) := Nat.le_max_left _ _
    have m2 : Sp.nestF g2 ≤ max (Sp.nestF g1) (Sp.nestF g2) := Nat.le_max_right _ _
    have both : ∀ {P : Lf → Prop}, P k1 → P k2 → ∀ u ∈ [k1, k2], P u := fun p1 p2 u hu => by
      simp at hu
      rcases hu with rfl | rfl
      · exact p1
      · exact p2
    have R := ns_loop o t.x t.y kb ko cap [k1, k2] (by simp) w hks (both (ih1 _ hk1) (ih2 _ hk2)) (both (by rw [hk1]; exact hg1) (by rw [hk2]; exact hg2)) (both (by rw [hk1]; omega) (by rw [hk2]; omega)) hadr (by rcases ho with rfl | rfl | rfl <;> decide) (fun x => by rcases ho with rfl | rfl | rfl <;> cases x)
    have e : mxK ([k1, k2].map fun k => Sp.nestF k.er) [k1, k2].length = max (Sp.nestF g1) (Sp.nestF g2) := by simp [mxK, hk1, hk2]
    rw [e] at R
    exact R
theorem nst (t : Lf) (h : WfF t.er) : NsT t := nst' h t rfl

end Go.Proofs.Ytinphcnknionmaa

namespace Go.Proofs.Ytinphcnknionmaa
open Go.RowKit Go.Maps

/-- Blocks of other types are none of a bank's. -/
theorem Bk.apart {w : World} {base p : Nat} {ev : Value} {nb fb : Nat} {l : List Tm} (h : Bk w base p ev nb fb l) {k : Nat} {c : Array Value} {T : TypeId} {fz : Nat × Nat} (hk : w.heap[k]? = some (.cells c T fz)) (h1 : T ≠ 105) (h2 : T ≠ 124) : ¬ BFoot p ev nb fb k := by
  rintro (e | e | e | e)
  · subst e
    obtain ⟨c2, h3, _⟩ := h.bank
    rw [hk] at h3
    injection h3 with h3
    injection h3 with _ h4
    exact h1 h4
  · subst e
    obtain ⟨D, ⟨es, ck, n1, _⟩, _⟩ := h.nums
    rw [hk] at n1
    cases n1
  · subst e
    obtain ⟨D, ⟨es, ck, n1, _⟩, _⟩ := h.fsts
    rw [hk] at n1
    cases n1
  · rcases h.rows.2 with ⟨e2, _⟩ | ⟨b, cap, cur, e2, _, h3, _⟩
    · rw [e2] at e; simp [Value.ownBlock] at e
    · rw [e2] at e
      simp [Value.ownBlock] at e
      subst e
      rw [hk] at h3
      injection h3 with h3
      injection h3 with _ h4
      exact h2 h4

theorem RBk.kept {w w' : World} {base q : Nat} {av : Value} {l : List Tm} {vs : List Value} {S : Nat → Prop} (h : RBk w base q av l vs) (K : Kept S w w') (hS : ∀ k c T fz, w.heap[k]? = some (.cells c T fz) → T ≠ 105 → T ≠ 124 → ¬ S k) : RBk w' base q av l vs := by
  have rowk : ∀ {e : TypeId} {sz n : Nat} {v : Value} {xs : List Value}, e ≠ 105 → e ≠ 124 → w.ownsRow base e sz v n xs → ∀ b, v.ownBlock = some b → w'.heap[b]? = w.heap[b]? := by
    intro e sz n v xs h1 h2 hr b hb
    rcases hr.2 with ⟨e2, _⟩ | ⟨b', cap, cur, e2, _, h3, _⟩
    · rw [e2] at hb; simp [Value.ownBlock] at hb
    · rw [e2] at hb
      simp [Value.ownBlock] at hb
      subst hb
      exact K.block _ (right_lt h3) (hS _ _ _ _ h3 h1 h2)
  refine ⟨h.row.of_block ?_, h.ls.blocks (rowk (by decide) (by decide) h.ls.row) (fun u hu b hb => ?_), Nat.le_trans h.bs K.size⟩
  · obtain ⟨c, h1, _⟩ := h.row
    exact K.block q (right_lt h1) (hS _ _ _ _ h1 (by decide) (by decide))
  · obtain ⟨xs, hx⟩ := h.ls.mem hu
    exact rowk (by decide) (by decide) hx b hb

/-- Two banks and the document's. -/
structure Tri (w W : World) (p : Nat) (ev : Value) (nb fb : Nat) (l : List Tm) (p' : Nat) (ev' : Value) (nb' fb' : Nat) (lo : List Tm) (q : Nat) (av : Value) (vs : List Value) : Prop where
  b : Bk W w.heap.size p ev nb fb l
  o : Bk W w.heap.size p' ev' nb' fb' lo
  r : RBk W w.heap.size q av l vs
  dis : ∀ k, BFoot p ev nb fb k → ¬ BFoot p' ev' nb' fb' k
  kl : Kp l
  ko : Kp lo
  bel : Below w.heap.size w W
  rq : w.heap.size ≤ q

theorem Bk.foot_ge {w : World} {base p : Nat} {ev : Value} {nb fb : Nat} {l : List Tm} (h : Bk w base p ev nb fb l) {k : Nat} (hk : BFoot p ev nb fb k) : base ≤ k := by
  rcases hk with e | e | e | e
  · rw [e]; exact h.bp
  · rw [e]; exact h.bn
  · rw [e]; exact h.bf
  · exact (h.rows.lt k e).1
theorem Bk.foot_lt {w : World} {base p : Nat} {ev : Value} {nb fb : Nat} {l : List Tm} (h : Bk w base p ev nb fb l) {k : Nat} (hk : BFoot p ev nb fb k) : k < w.heap.size := by
  have L := h.low
  rcases hk with e | e | e | e
  · rw [e]; exact L.p
  · rw [e]; exact L.n
  · rw [e]; exact L.f
  · exact L.e k e
/-- A bank that another's change leaves alone. -/
theorem Bk.stays {w w' : World} {base p : Nat} {ev : Value} {nb fb : Nat} {l : List Tm} {S : Nat → Prop} (h : Bk w base p ev nb fb l) (K : Kept S w w') (hS : ∀ k, BFoot p ev nb fb k → ¬ S k) : Bk w' base p ev nb fb l :=
  h.blocks (K.block p h.low.p (hS p (Or.inl rfl))) (K.block nb h.low.n (hS nb (Or.inr (Or.inl rfl)))) (K.block fb h.low.f (hS fb (Or.inr (Or.inr (Or.inl rfl))))) (fun k e => K.block k (h.low.e k e) (hS k (Or.inr (Or.inr (Or.inr e)))))

theorem foot_new {p nb fb k : Nat} {ev ev2 : Value} {n : Nat} (h : BFoot p ev2 nb fb k) (hr : ev2.ownBlock = ev.ownBlock ∨ ∀ k, ev2.ownBlock = some k → n ≤ k) : BFoot p ev nb fb k ∨ n ≤ k := by
  rcases h with e | e | e | e
  · exact Or.inl (Or.inl e)
  · exact Or.inl (Or.inr (Or.inl e))
  · exact Or.inl (Or.inr (Or.inr (Or.inl e)))
  · rcases hr with e2 | e2
    · exact Or.inl (Or.inr (Or.inr (Or.inr (e2 ▸ e))))
    · exact Or.inr (e2 k e)

theorem Tri.readO {w W : World} {p : Nat} {ev : Value} {nb fb : Nat} {l : List Tm} {p' : Nat} {ev' : Value} {nb' fb' : Nat} {lo : List Tm} {q : Nat} {av : Value} {vs : List Value} (h : Tri w W p ev nb fb l p' ev' nb' fb' lo q av vs) (s : ByteArray) :
    Calls Try.prog 16 #[.pointer (some ⟨p', 0, none⟩), .string s] W fun e W' => e = .returned (.tuple #[.int .i64 ((pRead s lo).1 : Int), .int .i64 ((pRead s lo).2.1 : Int), .int .i64 ((pRead s lo).2.2.1 : Int)]) ∧ ∃ ev2, Tri w W' p ev nb fb l p' ev2 nb' fb' (pRead s lo).2.2.2 q av vs := by
  refine (tRead_in W w.heap.size p' ev' nb' fb' lo h.o h.ko.len h.bel.size s).mono ?_
  rintro e W' ⟨he, ev2, B2, K2, R2⟩
  refine ⟨he, ev2, h.b.stays K2 h.dis, B2, h.r.kept K2 (fun k c T fz hk h1 h2 => h.o.apart hk h1 h2), fun k hk hk2 => ?_, h.kl, h.ko.read s, h.bel.trans (Kept.below K2 h.bel.size (fun k e => h.o.foot_ge e)), h.rq⟩
  rcases foot_new hk2 R2 with e | e
  · exact h.dis k hk e
  · have := h.b.foot_lt hk; omega
theorem Tri.readB {w W : World} {p : Nat} {ev : Value} {nb fb : Nat} {l : List Tm} {p' : Nat} {ev' : Value} {nb' fb' : Nat} {lo : List Tm} {q : Nat} {av : Value} {vs : List Value} (h : Tri w W p ev nb fb l p' ev' nb' fb' lo q av vs) (s : ByteArray) :
    Calls Try.prog 16 #[.pointer (some ⟨p, 0, none⟩), .string s] W fun e W' => e = .returned (.tuple #[.int .i64 ((pRead s l).1 : Int), .int .i64 ((pRead s l).2.1 : Int), .int .i64 ((pRead s l).2.2.1 : Int)]) ∧ ∃ ev2, (Calls Try.prog 17 #[.pointer (some ⟨q, 0, none⟩), .string s] W' fun e W2 => e = .returned (.tuple #[.int .i64 ((pRead s l).1 : Int), .int .i64 ((pRead s l).2.1 : Int), .int .i64 ((pRead s l).2.2.1 : Int)]) ∧ ∃ av2 vs2, Tri w W2 p ev2 nb fb (pRead s l).2.2.2 p' ev' nb' fb' lo q av2 vs2) ∧ Below w.heap.size w W' := by
  refine (tRead_in W w.heap.size p ev nb fb l h.b h.kl.len h.bel.size s).mono ?_
  rintro e W' ⟨he, ev2, B2, K2, R2⟩
  have O2 := h.o.stays K2 (fun k hk e => h.dis k e hk)
  have RR := h.r.kept K2 (fun k c T fz hk h1 h2 => h.b.apart hk h1 h2)
  have bel2 := h.bel.trans (Kept.below K2 h.bel.size (fun k e => h.b.foot_ge e))
  have dis2 : ∀ k, BFoot p ev2 nb fb k → ¬ BFoot p' ev' nb' fb' k := fun k hk hk2 => by
    rcases foot_new hk R2 with e | e
    · exact h.dis k e hk2
    · have := h.o.foot_lt hk2; omega
  refine ⟨he, ev2, ?_, bel2⟩
  refine (rRead_in W' w.heap.size q av l vs RR h.kl.good h.kl.len s).mono ?_
  rintro e W2 ⟨he2, ⟨av2, vs2, R3⟩, K3⟩
  obtain ⟨cq, hq, _⟩ := RR.row
  have hqb := B2.apart hq (by decide) (by decide)
  have hqo := O2.apart hq (by decide) (by decide)
  have hql : w.heap.size ≤ q := h.rq
  exact ⟨he2, av2, vs2, ⟨B2.stays K3 (fun k hk e => hqb (e ▸ hk)), O2.stays K3 (fun k hk e => hqo (e ▸ hk)), R3, dis2, h.kl.read s, h.ko, bel2.trans (Kept.below K3 bel2.size (fun k e => e ▸ hql)), h.rq⟩⟩

theorem Tri.kept0 {w W W' : World} {p : Nat} {ev : Value} {nb fb : Nat} {l : List Tm} {p' : Nat} {ev' : Value} {nb' fb' : Nat} {lo : List Tm} {q : Nat} {av : Value} {vs : List Value} (h : Tri w W p ev nb fb l p' ev' nb' fb' lo q av vs) (K : Kept0 W W') : Tri w W' p ev nb fb l p' ev' nb' fb' lo q av vs :=
  ⟨h.b.kept0 K, h.o.kept0 K, h.r.kept K (fun _ _ _ _ _ _ _ e => e), h.dis, h.kl, h.ko, h.bel.trans (Kept.below K h.bel.size (fun _ e => e.elim)), h.rq⟩
theorem Tri.same {w W : World} {p : Nat} {ev : Value} {nb fb : Nat} {l : List Tm} {p' : Nat} {ev' : Value} {nb' fb' : Nat} {lo : List Tm} {q : Nat} {av : Value} {vs : List Value} (h : Tri w W p ev nb fb l p' ev' nb' fb' lo q av vs) :
    Calls Try.prog 19 #[.pointer (some ⟨p, 0, none⟩), av] W fun e W' => e = .returned (.bool true) ∧ Tri w W' p ev nb fb l p' ev' nb' fb' lo q av vs :=
  (same_law W w.heap.size p ev nb fb l h.b h.kl.hs w.heap.size av vs h.r.ls).mono fun _ _ hP => ⟨hP.1, h.kept0 hP.2⟩
theorem Tri.qcell {w W : World} {p : Nat} {ev : Value} {nb fb : Nat} {l : List Tm} {p' : Nat} {ev' : Value} {nb' fb' : Nat} {lo : List Tm} {q : Nat} {av : Value} {vs : List Value} (h : Tri w W p ev nb fb l p' ev' nb' fb' lo q av vs) : W.cell? ⟨q, 0, none⟩ = some av := h.r.row.cell (by omega)

/-- Texts in memory. -/
def Texts (w : World) (a : Option Addr) (ss : List ByteArray) : Prop := ss = [] ∨ ∃ b off, a = some ⟨b, off, none⟩ ∧ b < w.heap.size ∧ ∀ k s, ss[k]? = some s → w.cell? ⟨b, off + k, none⟩ = some (.string s)

/-- At the beginning. -/
theorem Tri.start (w w1 w2 : World) (p nb fb p' nb' fb' : Nat) (H1 : Bk w1 w.heap.size p (.slice none 0 0) nb fb []) (B1 : Below w.heap.size w w1) (H2 : Bk w2 w1.heap.size p' (.slice none 0 0) nb' fb' []) (B2 : Below w1.heap.size w1 w2) :
    Tri w (w2.alloc (.cells #[.slice none 0 0] 28)) p (.slice none 0 0) nb fb [] p' (.slice none 0 0) nb' fb' [] w2.heap.size (.slice none 0 0) [] := by
  have K : Kept0 w2 (w2.alloc (.cells #[.slice none 0 0] 28)) := Kept.alloc (Kept.refl _ w2) _
  have s1 := B1.size
  have s2 := B2.size
  have H2' : Bk w2 w.heap.size p' (.slice none 0 0) nb' fb' [] := ⟨H2.bank, row_base H2.rows s1, H2.nums, H2.fsts, H2.oks, H2.nodup, H2.pn, H2.pf, H2.nf, H2.ep, H2.en, H2.ef, Nat.le_trans s1 H2.bp, Nat.le_trans s1 H2.bn, Nat.le_trans s1 H2.bf, H2.small⟩
  have b12 : Below w.heap.size w w2 := B1.trans (B2.mono s1)
  refine ⟨(H1.below H1.low B2).kept0 K, H2'.kept0 K, ⟨?_, ⟨rfl, World.ownsRow_nil _ _ _ _, by simp⟩, by simp; omega⟩, fun k hk hk2 => ?_, Kp.nil, Kp.nil, b12.trans (Kept.below K b12.size (fun _ e => e.elim)), by omega⟩
  · refine World.rowIs.congr (made_row w2 #[.slice none 0 0] 28) (fun j hj => ?_)
    have : j = 0 := by simp at hj; omega
    subst this; rfl
  · have h1 := H1.foot_lt hk
    have h2 := H2.foot_ge hk2
    omega

set_option maxHeartbeats 4000000 in
set_option maxRecDepth 100000 in
theorem reads_in (w : World) (a : Option Addr) (cp : Nat) (ss : List ByteArray) (hT : Texts w a ss) (hm : ss.length ≤ maxLen) (other : ByteArray) :
    Calls Try.prog 3 #[.slice a ss.length cp, .string other] w fun e w' => e = .returned (.bool true) ∧ Below w.heap.size w w' := by
  unfold maxLen at hm
  have NEW1 := tNew_any w
  go_enter Try.func3, Try.ntmps3
  go_wp2_with (first | (go_at_call 15; refine NEW2.mono ?_; rintro e w2 ⟨p2, nb2, fb2, rfl, H2, B2⟩; have T0 := Tri.start w w1 w2 p1 nb1 fb1 p2 nb2 fb2 H1 B1 H2 B2) | (go_at_call 15; refine NEW1.mono ?_; rintro e w1 ⟨p1, nb1, fb1, rfl, H1, B1⟩; have NEW2 := tNew_any w1))
  clear NEW1 NEW2 H1 B1 H2 B2
  generalize w2.alloc (.cells #[.slice none 0 0] 28) = w3 at T0 ⊢
  generalize w2.heap.size = q at T0 ⊢
  go_loopw [8] (fun t8 W => ∃ k : Nat, k ≤ ss.length ∧ t8 = .int .i64 (k : Int) ∧ ∃ ev l ev' lo av vs, Tri w W p1 ev nb1 fb1 l p2 ev' nb2 fb2 lo q av vs) (fun t8 _ => ss.length - (intOf t8).toNat)
  case atStart => exact ⟨0, by omega, rfl, _, _, _, _, _, _, T0⟩
  case round =>
    clear T0
    obtain ⟨k, hk, rfl, ev, l, ev', lo, av, vs, T⟩ := hrel
    by_cases hk2 : k < ss.length
    · have dk : decide ((k : Int) < (ss.length : Int)) = true := decide_eq_true (by omega)
      rcases hT with e | ⟨b, off, rfl, hb, hc⟩
      · rw [e] at hk2; simp at hk2
      · have hs : ss[k]? = some ss[k] := List.getElem?_eq_getElem hk2
        have ck := hc k _ hs
        generalize ss[k] = s at ck hs
        have c1 := (T.bel.cell (p := ⟨b, off + k, none⟩) hb).trans ck
        have RO := T.readO other
        go_wp2_with (first | (go_at_call 16; refine RB.mono ?_; rintro e w5 ⟨rfl, ev5, RR, bel5⟩; have c5 := (bel5.cell (p := ⟨b, off + k, none⟩) hb).trans ck) | (go_at_call 16; refine RO.mono ?_; rintro e w4 ⟨rfl, ev4, T4⟩; have c4 := (T4.bel.cell (p := ⟨b, off + k, none⟩) hb).trans ck; have RB := T4.readB s) | (go_at_call 17; refine RR.mono ?_; rintro e w6 ⟨rfl, av6, vs6, T6⟩) | (go_at_call 18; refine (num1_any _ _).mono ?_; rintro e w9 ⟨rfl, rfl⟩; have q6 := T6.qcell; have SM := T6.same) | (go_at_call 19; refine SM2.mono ?_; rintro e w8 ⟨rfl, T8⟩) | (go_at_call 19; refine SM.mono ?_; rintro e w7 ⟨rfl, T7⟩; have q7 := T7.qcell; have SM2 := T7.same))
        exact ⟨⟨k + 1, by omega, by simp, _, _, _, _, _, _, T8⟩, by simp [intOf]; omega⟩
    · have dk : decide ((k : Int) < (ss.length : Int)) = false := decide_eq_false (by omega)
      go_wp2_with (first | (go_at_call 20; refine (alive1_any wr).mono ?_; rintro e w9 ⟨rfl, B9⟩))
      go_ret
      exact ⟨rfl, T.bel.trans (B9.mono T.bel.size)⟩

end Go.Proofs.Ytinphcnknionmaa
