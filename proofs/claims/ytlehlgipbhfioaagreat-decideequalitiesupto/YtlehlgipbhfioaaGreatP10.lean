/- Package decide, plainly: newProof: links by what was told and by args. Package decide: terms in memory; argPairs. Package decide: path. Package decide: links in memory; link. Package decide: link. -/
import Derived.Test.YtlehlgipbhfioaaGreatP02
import Derived.Test.YtlehlgipbhfioaaGreatP03
import Derived.Test.YtlehlgipbhfioaaGreatP09
namespace Go.Proofs.YtlehlgipbhfioaaGreat
open Go.RowKit Go.Maps

/-- Sets and links. -/
structure Pf where
  g : Uf.G
  L : List (List Nat)
def addAt (L : List (List Nat)) (a b : Nat) : List (List Nat) := L.set a (L[a]?.getD [] ++ [b])
def Pf.link (n : Nat) (P : Pf) (a b : Nat) : Bool × Pf :=
  if joins n P.g a b then (true, ⟨joinG n P.g a b, addAt (addAt P.L a b) b a⟩) else (false, P)
def Pf.tell (n : Nat) : List Pr → Pf → Pf
  | [], P => P
  | a :: r, P => Pf.tell n r (P.link n a.1 a.2).2
def sigA (g : Uf.G) (t : Tm) : List Nat := (List.range 4).map fun i => match t.args[i]? with
  | some a => g.lo a
  | none => 0
abbrev Key := ByteArray × List Nat
def fstK (fm : List (Key × Nat)) (k : Key) : Option Nat := (fm.find? fun e => decide (e.1 = k)).map (·.2)
/-- One pass over the terms. -/
def lkA (n : Nat) : Nat → List Tm → List (Key × Nat) → Pf → Bool → Bool × Pf
  | _, [], _, P, fd => (fd, P)
  | i, t :: ts, fm, P, fd => match fstK fm (t.name, sigA P.g t) with
    | none => lkA n (i + 1) ts (fm ++ [((t.name, sigA P.g t), i)]) P fd
    | some j => lkA n (i + 1) ts fm (P.link n j i).2 (fd || (P.link n j i).1)
def lkN (l : List Tm) : Nat → Pf → Option Pf
  | 0, _ => none
  | f + 1, P => if (lkA l.length 0 l [] P false).1 then lkN l f (lkA l.length 0 l [] P false).2 else some (lkA l.length 0 l [] P false).2
def proofN (l : List Tm) (told : List Pr) : Option Pf := lkN l (l.length + 2) (Pf.tell l.length told ⟨Uf.g0, List.replicate l.length []⟩)

theorem conn_add {E : Edges} {a b x y : Nat} : Conn (E ++ [(a, b)]) x y ↔ Conn E x y ∨ (Conn E x a ∧ Conn E b y) ∨ (Conn E x b ∧ Conn E a y) := by
  have up : ∀ {x y}, Conn E x y → Conn (E ++ [(a, b)]) x y := fun h => h.mono (fun e he => List.mem_append_left _ he)
  have ab : Conn (E ++ [(a, b)]) a b := .one (Or.inl (by simp))
  constructor
  · intro h
    induction h with
    | refl => exact Or.inl (.refl _)
    | @step y z _ e ih =>
      rcases e.cut with e | ⟨rfl, rfl⟩ | ⟨rfl, rfl⟩
      · rcases ih with ih | ⟨i1, i2⟩ | ⟨i1, i2⟩
        · exact Or.inl (.step ih e)
        · exact Or.inr (Or.inl ⟨i1, .step i2 e⟩)
        · exact Or.inr (Or.inr ⟨i1, .step i2 e⟩)
      · rcases ih with ih | ⟨i1, i2⟩ | ⟨i1, i2⟩
        · exact Or.inr (Or.inl ⟨ih, .refl _⟩)
        · exact Or.inr (Or.inl ⟨i1, .refl _⟩)
        · exact Or.inl i1
      · rcases ih with ih | ⟨i1, i2⟩ | ⟨i1, i2⟩
        · exact Or.inr (Or.inr ⟨ih, .refl _⟩)
        · exact Or.inl i1
        · exact Or.inr (Or.inr ⟨i1, .refl _⟩)
  · rintro (h | ⟨h1, h2⟩ | ⟨h1, h2⟩)
    · exact up h
    · exact ((up h1).trans ab).trans (up h2)
    · exact ((up h1).trans ab.symm).trans (up h2)

/-- Why two terms were linked. -/
def EdgeBy (l : List Tm) (told : List Pr) (E : Edges) (a b : Nat) : Prop :=
  ordP a b ∈ told ∨ ∃ t u, l[a]? = some t ∧ l[b]? = some u ∧ t.name = u.name ∧ t.args.length = u.args.length ∧ ∀ k x y : Nat, t.args[k]? = some x → u.args[k]? = some y → Conn E x y

structure PfIs (l : List Tm) (told : List Pr) (P : Pf) (E : Edges) : Prop where
  hist : ∃ t, Uf.Hist l.length P.g t ∧ t.length = E.length
  conn : ∀ a b, a < l.length → b < l.length → (P.g.rt a = P.g.rt b ↔ Conn E a b)
  adj : ∀ x y : Nat, y ∈ P.L[x]?.getD [] ↔ AdjE E x y
  len : P.L.length = l.length
  grew : Grew1 E
  edge : ∀ s (h : s < E.length), EdgeBy l told (E.take s) (E[s]).1 (E[s]).2
  lt : ∀ e ∈ E, e.1 < l.length ∧ e.2 < l.length

theorem PfIs.lnk {l : List Tm} {told : List Pr} {P : Pf} {E : Edges} (h : PfIs l told P E) : LnkIs P.L E :=
  ⟨h.adj, fun x y hy => by
    rw [h.len]
    rcases (h.adj x y).1 hy with e | e
    · exact (h.lt _ e).2
    · exact (h.lt _ e).1⟩
theorem PfIs.ok {l : List Tm} {told : List Pr} {P : Pf} {E : Edges} (h : PfIs l told P E) : Uf.Ok l.length P.g E.length := by
  obtain ⟨t, h1, h2⟩ := h.hist
  rw [← h2]
  exact Uf.ok_hist _ _ _ h1
theorem PfIs.start (l : List Tm) (told : List Pr) : PfIs l told ⟨Uf.g0, List.replicate l.length []⟩ [] := by
  have hc : ∀ a b, Conn [] a b ↔ a = b := fun a b => ⟨fun h => by
    induction h with
    | refl => rfl
    | step _ e _ => rcases e with e | e <;> simp at e, fun h => h ▸ .refl _⟩
  refine ⟨⟨[], rfl, rfl⟩, fun a b _ _ => (hc a b).symm, fun x y => ?_, by simp, fun t h => absurd h (by simp), fun t h => absurd h (by simp), by simp⟩
  simp only [List.getElem?_replicate]
  split <;> simp [AdjE]

theorem mem_addAt {L : List (List Nat)} {a b : Nat} (ha : a < L.length) (x y : Nat) : y ∈ (addAt L a b)[x]?.getD [] ↔ y ∈ L[x]?.getD [] ∨ x = a ∧ y = b := by
  unfold addAt
  by_cases e : x = a
  · subst e
    rw [List.getElem?_set_self ha]
    simp
  · rw [List.getElem?_set_ne (fun e2 => e e2.symm)]
    simp [e]

/-- A link more, or none if the two are the same already. -/
theorem PfIs.link {l : List Tm} {told : List Pr} {P : Pf} {E : Edges} (h : PfIs l told P E) {a b : Nat} (ha : a < l.length) (hb : b < l.length) (he : EdgeBy l told E a b) :
    ((P.link l.length a b).1 = false ∧ (P.link l.length a b).2 = P ∧ Conn E a b) ∨ ((P.link l.length a b).1 = true ∧ PfIs l told (P.link l.length a b).2 (E ++ [(a, b)])) := by
  have hok := h.ok
  have hj : joins l.length P.g a b = !decide (P.g.rt a = P.g.rt b) := by
    unfold joins inB
    simp [ha, hb]
  unfold Pf.link
  by_cases hr : P.g.rt a = P.g.rt b
  · have : joins l.length P.g a b = false := by rw [hj]; simp [hr]
    rw [this, if_neg Bool.false_ne_true]
    exact Or.inl ⟨rfl, rfl, (h.conn a b ha hb).1 hr⟩
  · have hjt : joins l.length P.g a b = true := by rw [hj]; simp [hr]
    rw [hjt, if_pos rfl]
    refine Or.inr ⟨rfl, ?_⟩
    have hne : ¬ Conn E a b := fun e => hr ((h.conn a b ha hb).2 e)
    have hG : joinG l.length P.g a b = Uf.hang P.g (Uf.pick P.g a b).1 (Uf.pick P.g a b).2 := by unfold joinG; rw [hjt]; rfl
    have hpk := hok.pick a b ha hb hr
    have hpv : ((Uf.pick P.g a b).1 = P.g.rt a ∧ (Uf.pick P.g a b).2 = P.g.rt b) ∨ ((Uf.pick P.g a b).1 = P.g.rt b ∧ (Uf.pick P.g a b).2 = P.g.rt a) := by
      unfold Uf.pick
      split
      · exact Or.inr ⟨rfl, rfl⟩
      · exact Or.inl ⟨rfl, rfl⟩
    obtain ⟨t, ht1, ht2⟩ := h.hist
    have hl1 : a < P.L.length := by rw [h.len]; exact ha
    have hl2 : b < (addAt P.L a b).length := by unfold addAt; rw [List.length_set, h.len]; exact hb
    refine ⟨⟨⟨(Uf.pick P.g a b).1, (P.g.N (Uf.pick P.g a b).2).lst, P.g⟩ :: t, ⟨(Uf.pick P.g a b).2, hpk.2.1, hpk.1, hpk.2.2.1, hpk.2.2.2.1, hpk.2.2.2.2, rfl, hG, ht1⟩, by simp [ht2]⟩, fun x y hx hy => ?_, fun x y => ?_, by simp [addAt, h.len], fun s hs => ?_, fun s hs => ?_, fun e hm => ?_⟩
    · rw [conn_add, hG, ← h.conn x y hx hy, ← h.conn x a hx ha, ← h.conn b y hb hy, ← h.conn x b hx hb, ← h.conn a y ha hy]
      show (if P.g.rt x = (Uf.pick P.g a b).1 then (Uf.pick P.g a b).2 else P.g.rt x) = (if P.g.rt y = (Uf.pick P.g a b).1 then (Uf.pick P.g a b).2 else P.g.rt y) ↔ _
      rcases hpv with ⟨e1, e2⟩ | ⟨e1, e2⟩
      · rw [e1, e2]
        split <;> split <;> omega
      · rw [e1, e2]
        split <;> split <;> omega
    · rw [mem_addAt hl2, mem_addAt hl1, h.adj]
      unfold AdjE
      simp only [List.mem_append, List.mem_singleton, Prod.mk.injEq]
      constructor
      · rintro (((h | h) | h) | h)
        · exact Or.inl (Or.inl h)
        · exact Or.inr (Or.inl h)
        · exact Or.inl (Or.inr h)
        · exact Or.inr (Or.inr ⟨h.2, h.1⟩)
      · rintro ((h | h) | (h | h))
        · exact Or.inl (Or.inl (Or.inl h))
        · exact Or.inl (Or.inr h)
        · exact Or.inl (Or.inl (Or.inr h))
        · exact Or.inr ⟨h.2, h.1⟩
    · by_cases hse : s < E.length
      · rw [List.take_append_of_le_length (by omega), List.getElem_append_left hse]
        exact h.grew s hse
      · have : s = E.length := by simp at hs; omega
        subst this
        rw [List.take_left' rfl]
        simpa using hne
    · by_cases hse : s < E.length
      · rw [List.take_append_of_le_length (by omega), List.getElem_append_left hse]
        exact h.edge s hse
      · have : s = E.length := by simp at hs; omega
        subst this
        rw [List.take_left' rfl]
        simpa using he
    · rcases List.mem_append.1 hm with hm | hm
      · exact h.lt e hm
      · simp at hm; subst hm; exact ⟨ha, hb⟩

theorem Conn.app {E F : Edges} {a b : Nat} (h : Conn E a b) : Conn (E ++ F) a b := h.mono (fun _ he => List.mem_append_left _ he)

theorem PfIs.tell {l : List Tm} {told : List Pr} : ∀ (r : List Pr) (P : Pf) (E : Edges), PfIs l told P E → (∀ a ∈ r, a.1 < l.length ∧ a.2 < l.length ∧ ordP a.1 a.2 ∈ told) →
    ∃ F, PfIs l told (Pf.tell l.length r P) (E ++ F) ∧ ∀ a ∈ r, Conn (E ++ F) a.1 a.2
  | [], P, E, h, _ => ⟨[], by simpa [Pf.tell] using h, by simp⟩
  | a :: r, P, E, h, hr => by
    obtain ⟨h1, h2, h3⟩ := hr a (by simp)
    rw [Pf.tell]
    rcases h.link h1 h2 (Or.inl h3) with ⟨_, e2, e3⟩ | ⟨_, e2⟩
    · rw [e2]
      obtain ⟨F, k1, k2⟩ := PfIs.tell r P E h (fun b hb => hr b (by simp [hb]))
      refine ⟨F, k1, fun b hb => ?_⟩
      rcases List.mem_cons.1 hb with rfl | hb
      · exact e3.app
      · exact k2 b hb
    · obtain ⟨F, k1, k2⟩ := PfIs.tell r _ _ e2 (fun b hb => hr b (by simp [hb]))
      refine ⟨(a.1, a.2) :: F, by simpa using k1, fun b hb => ?_⟩
      have e : E ++ (a.1, a.2) :: F = E ++ [(a.1, a.2)] ++ F := by simp
      rw [e]
      rcases List.mem_cons.1 hb with rfl | hb
      · exact (Conn.one (Or.inl (by simp) : AdjE (E ++ [(b.1, b.2)]) b.1 b.2)).app
      · exact k2 b hb

/-- An entry of the map: a term whose args were the same as these. -/
def EntIs (l : List Tm) (E : Edges) (e : Key × Nat) : Prop :=
  ∃ t, l[e.2]? = some t ∧ e.1.1 = t.name ∧ ∀ k a : Nat, t.args[k]? = some a → ∃ m, e.1.2[k]? = some m ∧ Conn E a m

theorem sigA_get {g : Uf.G} {t : Tm} (h4 : t.args.length ≤ 4) {k a : Nat} (h : t.args[k]? = some a) : (sigA g t)[k]? = some (g.lo a) := by
  have hk := (List.getElem?_eq_some_iff.1 h).1
  unfold sigA
  rw [List.getElem?_map, List.getElem?_range (by omega)]
  simp [h]

structure Bnk (l : List Tm) : Prop where
  four : ∀ (i : Nat) (t : Tm), l[i]? = some t → t.args.length ≤ 4
  lt : ∀ (i : Nat) (t : Tm), l[i]? = some t → ∀ a ∈ t.args, a < l.length
  same : ∀ (i j : Nat) (t u : Tm), l[i]? = some t → l[j]? = some u → t.name = u.name → t.args.length = u.args.length

theorem PfIs.lo {l : List Tm} {told : List Pr} {P : Pf} {E : Edges} (h : PfIs l told P E) {a : Nat} (ha : a < l.length) : Conn E a (P.g.lo a) := by
  have hok := h.ok
  have h1 := hok.lole a ha
  exact (h.conn a _ ha (by omega)).1 (hok.loin a ha).symm

theorem fstK_some {fm : List (Key × Nat)} {k : Key} {j : Nat} (h : fstK fm k = some j) : (k, j) ∈ fm := by
  unfold fstK at h
  cases e : fm.find? fun e => decide (e.1 = k) with
  | none => rw [e] at h; cases h
  | some x =>
    rw [e] at h
    cases h
    have h1 := List.find?_some e
    have h2 := List.mem_of_find?_eq_some e
    have : x.1 = k := by simpa using h1
    rw [← this]
    exact h2

theorem EntIs.edge {l : List Tm} {told : List Pr} (hB : Bnk l) {P : Pf} {E : Edges} (h : PfIs l told P E) {t : Tm} {i j : Nat} (ht : l[i]? = some t) (he : EntIs l E ((t.name, sigA P.g t), j)) : EdgeBy l told E j i ∧ j < l.length := by
  obtain ⟨u, hu, hn, hk⟩ := he
  have hu : l[j]? = some u := hu
  have hn : t.name = u.name := hn
  refine ⟨Or.inr ⟨u, t, hu, ht, hn.symm, hB.same j i u t hu ht hn.symm, fun k x y hx hy => ?_⟩, (List.getElem?_eq_some_iff.1 hu).1⟩
  obtain ⟨m, h1, h2⟩ := hk k x hx
  have h1 : (sigA P.g t)[k]? = some m := h1
  rw [sigA_get (hB.four i t ht) hy] at h1
  cases h1
  exact h2.trans (h.lo (hB.lt i t ht y (List.mem_of_getElem? hy))).symm

theorem EntIs.mono {l : List Tm} {E F : Edges} {e : Key × Nat} (h : EntIs l E e) : EntIs l (E ++ F) e := by
  obtain ⟨t, h1, h2, h3⟩ := h
  exact ⟨t, h1, h2, fun k a hk => by obtain ⟨m, g1, g2⟩ := h3 k a hk; exact ⟨m, g1, g2.app⟩⟩

/-- A pass: what it leaves; without a link, the map has found each term its like. -/
theorem lkA_ok {l : List Tm} {told : List Pr} (hB : Bnk l) : ∀ (ts : List Tm) (i : Nat) (fm : List (Key × Nat)) (P : Pf) (E : Edges) (fd : Bool), PfIs l told P E → l.drop i = ts → (∀ e ∈ fm, EntIs l E e) →
    ∃ F, PfIs l told (lkA l.length i ts fm P fd).2 (E ++ F) ∧ ((lkA l.length i ts fm P fd).1 = (fd || decide (F ≠ []))) ∧
      (F = [] → (lkA l.length i ts fm P fd).2 = P ∧ ((∀ (j : Nat) (t : Tm), j < i → l[j]? = some t → ∃ m, fstK fm (t.name, sigA P.g t) = some m ∧ Conn E m j) → ∃ fm' : List (Key × Nat), ∀ (j : Nat) (t : Tm), l[j]? = some t → ∃ m, fstK fm' (t.name, sigA P.g t) = some m ∧ Conn E m j))
  | [], i, fm, P, E, fd, h, hd, _ => by
    have hge : l.length ≤ i := by
      have := congrArg List.length hd
      simp at this
      omega
    refine ⟨[], by simpa [lkA] using h, by simp [lkA], fun _ => ⟨rfl, fun k => ⟨fm, fun j t hj => k j t ?_ hj⟩⟩⟩
    have := (List.getElem?_eq_some_iff.1 hj).1
    omega
  | t :: ts, i, fm, P, E, fd, h, hd, hfm => by
    have hi : l[i]? = some t := by
      have h1 : (l.drop i)[0]? = some t := by rw [hd]; rfl
      simpa using h1
    have hil := (List.getElem?_eq_some_iff.1 hi).1
    have hd2 : l.drop (i + 1) = ts := by
      have := congrArg List.tail hd
      simpa using this
    rw [lkA]
    cases hf : fstK fm (t.name, sigA P.g t) with
    | none =>
      simp only
      obtain ⟨F, k1, k2, k3⟩ := lkA_ok hB ts (i + 1) (fm ++ [((t.name, sigA P.g t), i)]) P E fd h hd2 (fun e he => by
        rcases List.mem_append.1 he with he | he
        · exact hfm e he
        · simp at he
          subst he
          exact ⟨t, hi, rfl, fun k a hk => ⟨_, sigA_get (hB.four i t hi) hk, h.lo (hB.lt i t hi a (List.mem_of_getElem? hk))⟩⟩)
      refine ⟨F, k1, k2, fun e => ⟨(k3 e).1, fun kk => (k3 e).2 (fun j u hj hu => ?_)⟩⟩
      by_cases hji : j = i
      · subst hji
        rw [hi] at hu
        cases hu
        refine ⟨j, ?_, .refl _⟩
        unfold fstK at hf ⊢
        have hnone : (fm.find? fun e => decide (e.1 = (t.name, sigA P.g t))) = none := by simpa using hf
        rw [List.find?_append, hnone]
        simp
      · obtain ⟨m, g1, g2⟩ := kk j u (by omega) hu
        refine ⟨m, ?_, g2⟩
        unfold fstK at g1 ⊢
        rw [List.find?_append]
        cases e2 : fm.find? fun e => decide (e.1 = (u.name, sigA P.g u)) with
        | none => rw [e2] at g1; cases g1
        | some x => rw [e2] at g1; simpa using g1
    | some j =>
      simp only
      obtain ⟨he, hjl⟩ := EntIs.edge hB h hi (hfm _ (fstK_some hf))
      rcases h.link hjl hil he with ⟨e1, e2, e3⟩ | ⟨e1, e2⟩
      · rw [e1, e2, Bool.or_false]
        obtain ⟨F, k1, k2, k3⟩ := lkA_ok hB ts (i + 1) fm P E fd h hd2 hfm
        refine ⟨F, k1, k2, fun e => ⟨(k3 e).1, fun kk => (k3 e).2 (fun j' u hj hu => ?_)⟩⟩
        by_cases hji : j' = i
        · subst hji
          rw [hi] at hu
          cases hu
          exact ⟨j, hf, e3⟩
        · exact kk j' u (by omega) hu
      · rw [e1, Bool.or_true]
        obtain ⟨F, k1, k2, k3⟩ := lkA_ok hB ts (i + 1) fm _ _ true e2 hd2 (fun e he => (hfm e he).mono)
        refine ⟨(j, i) :: F, by simpa using k1, by rw [k2]; simp, fun e => (by cases e)⟩

/-- newProof: its links close what was told. -/
theorem lkN_ok {l : List Tm} {told : List Pr} (hB : Bnk l) : ∀ (f : Nat) (P : Pf) (E : Edges), PfIs l told P E → l.length + 1 ≤ f + E.length →
    ∃ P' F, lkN l f P = some P' ∧ PfIs l told P' (E ++ F) ∧ ∀ (i j : Nat) (t u : Tm), l[i]? = some t → l[j]? = some u → t.name = u.name → (∀ k a b : Nat, t.args[k]? = some a → u.args[k]? = some b → Conn (E ++ F) a b) → Conn (E ++ F) i j
  | 0, P, E, h, hf => by
    have := h.ok.num_le
    omega
  | f + 1, P, E, h, hf => by
    rw [lkN]
    obtain ⟨F, k1, k2, k3⟩ := lkA_ok hB l 0 [] P E false h (by simp) (by simp)
    rw [k2]
    by_cases hF : F = []
    · subst hF
      obtain ⟨e1, e2⟩ := k3 rfl
      obtain ⟨fm, hfm⟩ := e2 (fun j t hj => by omega)
      simp only [ne_eq, not_true_eq_false, decide_false, Bool.or_false, Bool.false_eq_true, if_false]
      rw [List.append_nil] at k1
      refine ⟨_, [], rfl, by rw [List.append_nil]; exact k1, fun i j t u hi hj hn ha => ?_⟩
      rw [List.append_nil] at ha ⊢
      obtain ⟨m, g1, g2⟩ := hfm i t hi
      obtain ⟨m', g3, g4⟩ := hfm j u hj
      have hkey : sigA P.g t = sigA P.g u := by
        unfold sigA
        refine List.map_congr_left (fun k _ => ?_)
        have hlen := hB.same i j t u hi hj hn
        cases e : t.args[k]? with
        | none =>
          have : u.args[k]? = none := by
            rw [List.getElem?_eq_none_iff] at e ⊢
            omega
          rw [this]
        | some a =>
          have hk := (List.getElem?_eq_some_iff.1 e).1
          have hk2 : k < u.args.length := by omega
          have hu := List.getElem?_eq_getElem hk2
          rw [hu]
          have hc := ha k a _ e hu
          have hal := hB.lt i t hi a (List.mem_of_getElem? e)
          have hbl := hB.lt j u hj _ (List.getElem_mem hk2)
          have := (h.conn a _ hal hbl).2 hc
          simp only [Uf.G.lo, this]
      rw [hn, hkey, g3] at g1
      cases g1
      exact g2.symm.trans g4
    · simp only [ne_eq, hF, not_false_eq_true, decide_true, Bool.or_true, if_true]
      obtain ⟨P', F', m1, m2, m3⟩ := lkN_ok hB f _ _ k1 (by
        have : 1 ≤ F.length := by cases F with
          | nil => exact absurd rfl hF
          | cons => simp
        simp; omega)
      exact ⟨P', F ++ F', m1, by rw [← List.append_assoc]; exact m2, by rw [← List.append_assoc]; exact m3⟩

theorem proof_ok {l : List Tm} (hB : Bnk l) {told : List Pr} (ht : ∀ a ∈ told, a.1 ≤ a.2 ∧ a.2 < l.length) : ∃ P E, proofN l told = some P ∧ PfIs l told P E ∧ ∀ x y, Cc.Cg l told x y → Conn E x y := by
  obtain ⟨F, k1, k2⟩ := PfIs.tell told _ [] (PfIs.start l told) (fun a ha => ⟨by have := ht a ha; omega, (ht a ha).2, by rw [ordP_self (ht a ha).1]; exact ha⟩)
  obtain ⟨P, F', m1, m2, m3⟩ := lkN_ok hB (l.length + 2) _ _ k1 (by omega)
  refine ⟨P, [] ++ F ++ F', m1, m2, fun x y h => ?_⟩
  induction h with
  | told hm _ _ => exact (k2 _ hm).app
  | refl _ => exact .refl _
  | symm _ ih => exact ih.symm
  | trans _ _ i1 i2 => exact i1.trans i2
  | cong h1 h2 h3 _ _ ih => exact m3 _ _ _ _ h1 h2 h3 ih

end Go.Proofs.YtlehlgipbhfioaaGreat

namespace Go.Proofs.YtlehlgipbhfioaaGreat
open Go.RowKit Go.Maps

/-- What is read stays. -/
def Mono (W W' : World) : Prop := ∀ a v, W.cell? a = some v → W'.cell? a = some v
theorem Mono.below {W W' : World} (h : Below W.heap.size W W') : Mono W W' := fun a _ ha => (h.cell (World.block_lt_of_cell? W a ha)).trans ha
theorem Mono.trans {A B C : World} (h : Mono A B) (k : Mono B C) : Mono A C := fun a v e => k a v (h a v e)
theorem ClsAt.mono {W W' : World} (h : Mono W W') {ca : Option Addr} {cls : List Int} (hc : ClsAt W ca cls) : ClsAt W' ca cls :=
  hc.imp id (fun ⟨g, off, h1, h2⟩ => ⟨g, off, h1, fun j c hj => h _ _ (h2 j c hj)⟩)
theorem PsAt.mono {W W' : World} (h : Mono W W') {v : Value} {l : List Pr} (hc : PsAt W v l) : PsAt W' v l := by
  obtain ⟨a, c, rfl, hc⟩ := hc
  exact ⟨a, c, rfl, hc.imp id (fun ⟨b, off, h1, h2⟩ => ⟨b, off, h1, fun j p hj => ⟨h _ _ (h2 j p hj).1, h _ _ (h2 j p hj).2⟩⟩)⟩

/-- A row of numbers. -/
def NsAt (W : World) (v : Value) (l : List Nat) : Prop := ∃ a c, v = .slice a l.length c ∧ ClsAt W a (l.map (fun n : Nat => (n : Int)))
theorem NsAt.mono {W W' : World} (h : Mono W W') {v : Value} {l : List Nat} (hc : NsAt W v l) : NsAt W' v l := by
  obtain ⟨a, c, rfl, hc⟩ := hc
  exact ⟨a, c, rfl, hc.mono h⟩
theorem NsAt.get {W : World} {v : Value} {l : List Nat} (h : NsAt W v l) {j n : Nat} (hj : l[j]? = some n) : ∃ b off c, v = .slice (some ⟨b, off, none⟩) l.length c ∧ W.cell? ⟨b, off + j, none⟩ = some (.int .i64 (n : Int)) := by
  obtain ⟨a, c, rfl, hc⟩ := h
  rcases hc with e | ⟨b, off, rfl, h2⟩
  · simp at e; rw [e] at hj; simp at hj
  · exact ⟨b, off, c, rfl, h2 j n (by simp [hj])⟩
/-- Rows of numbers. -/
def NssAt (W : World) (v : Value) (L : List (List Nat)) : Prop := ∃ a c, v = .slice a L.length c ∧ (L = [] ∨ ∃ b off, a = some ⟨b, off, none⟩ ∧ ∀ (j : Nat) (r : List Nat), L[j]? = some r → ∃ u, W.cell? ⟨b, off + j, none⟩ = some u ∧ NsAt W u r)
theorem NssAt.mono {W W' : World} (h : Mono W W') {v : Value} {L : List (List Nat)} (hc : NssAt W v L) : NssAt W' v L := by
  obtain ⟨a, c, rfl, hc⟩ := hc
  refine ⟨a, c, rfl, hc.imp id (fun ⟨b, off, h1, h2⟩ => ⟨b, off, h1, fun j r hj => ?_⟩)⟩
  obtain ⟨u, q1, q2⟩ := h2 j r hj
  exact ⟨u, h _ _ q1, q2.mono h⟩
theorem NssAt.get {W : World} {v : Value} {L : List (List Nat)} (h : NssAt W v L) {j : Nat} {r : List Nat} (hj : L[j]? = some r) : ∃ b off c u, v = .slice (some ⟨b, off, none⟩) L.length c ∧ W.cell? ⟨b, off + j, none⟩ = some u ∧ NsAt W u r := by
  obtain ⟨a, c, rfl, hc⟩ := h
  rcases hc with e | ⟨b, off, rfl, h2⟩
  · rw [e] at hj; simp at hj
  · obtain ⟨u, q1, q2⟩ := h2 j r hj
    exact ⟨b, off, c, u, rfl, q1, q2⟩
/-- Terms in memory. -/
def TsAt (W : World) (v : Value) (ts : List Tm) : Prop := ∃ a c, v = .slice a ts.length c ∧ (ts = [] ∨ ∃ b off, a = some ⟨b, off, none⟩ ∧ ∀ (j : Nat) (t : Tm), ts[j]? = some t → W.cell? ⟨b, off + j * 2, none⟩ = some (.string t.name) ∧ ∃ u, W.cell? ⟨b, off + j * 2 + 1, none⟩ = some u ∧ NsAt W u t.args)
theorem TsAt.mono {W W' : World} (h : Mono W W') {v : Value} {ts : List Tm} (hc : TsAt W v ts) : TsAt W' v ts := by
  obtain ⟨a, c, rfl, hc⟩ := hc
  refine ⟨a, c, rfl, hc.imp id (fun ⟨b, off, h1, h2⟩ => ⟨b, off, h1, fun j r hj => ?_⟩)⟩
  obtain ⟨q0, u, q1, q2⟩ := h2 j r hj
  exact ⟨h _ _ q0, u, h _ _ q1, q2.mono h⟩
theorem TsAt.get {W : World} {v : Value} {ts : List Tm} (h : TsAt W v ts) {j : Nat} {t : Tm} (hj : ts[j]? = some t) : ∃ b off c u, v = .slice (some ⟨b, off, none⟩) ts.length c ∧ W.cell? ⟨b, off + j * 2, none⟩ = some (.string t.name) ∧ W.cell? ⟨b, off + j * 2 + 1, none⟩ = some u ∧ NsAt W u t.args := by
  obtain ⟨a, c, rfl, hc⟩ := h
  rcases hc with e | ⟨b, off, rfl, h2⟩
  · rw [e] at hj; simp at hj
  · obtain ⟨q0, u, q1, q2⟩ := h2 j t hj
    exact ⟨b, off, c, u, rfl, q0, q1, q2⟩

def argsN (l : List Tm) (i : Nat) : List Nat := (l[i]?.map Tm.args).getD []
def argN (l : List Tm) (c : Pr) : List Pr := List.zipWith ordP (argsN l c.1) (argsN l c.2)
theorem ordP_1 (a b : Nat) : min (a : Int) (b : Int) = ((ordP a b).1 : Int) := by unfold ordP; simp only; omega
theorem ordP_2 (a b : Nat) : max (a : Int) (b : Int) = ((ordP a b).2 : Int) := by unfold ordP; simp only; omega
theorem ordered_p (w : World) (a b : Nat) : Calls Tryz.prog 79 #[.int .i64 (a : Int), .int .i64 (b : Int)] w fun e w' => e = .returned (.agg #[.int .i64 ((ordP a b).1 : Int), .int .i64 ((ordP a b).2 : Int)]) ∧ Below w.heap.size w w' := by
  refine (ordered_in w a b).mono ?_
  rintro e w' ⟨rfl, rfl⟩
  rw [ordP_1, ordP_2]
  exact ⟨rfl, (Below.refl _ _).alloc (Nat.le_refl _) _⟩

set_option maxRecDepth 100000 in
set_option maxHeartbeats 1000000 in
theorem argPairs_in (w : World) (pb : Nat) (tv : Value) (l : List Tm) (c : Pr) (x1 : w.cell? ⟨pb, 1, none⟩ = some tv) (hT : TsAt w tv l) (s t : Tm) (hs : l[c.1]? = some s) (ht : l[c.2]? = some t) (hst : s.args.length = t.args.length) (hs4 : s.args.length ≤ 4) :
    Calls Tryz.prog 141 #[.pointer (some ⟨pb, 0, none⟩), .agg #[.int .i64 (c.1 : Int), .int .i64 (c.2 : Int)]] w fun e w' => ∃ v, e = .returned v ∧ w'.ownsRow w.heap.size 34 2 v (argN l c).length (rowP (argN l c)) ∧ Below w.heap.size w w' := by
  obtain ⟨b, off, tc, u1, hv, _, p1, r1⟩ := hT.get hs
  obtain ⟨b', off', tc', u2, hv', _, p2, r2⟩ := hT.get ht
  rw [hv] at hv'
  simp only [Value.slice.injEq, Option.some.injEq, Addr.mk.injEq, true_and, and_true] at hv'
  obtain ⟨⟨rfl, rfl⟩, rfl⟩ := hv'
  subst hv
  have hc1 := (List.getElem?_eq_some_iff.1 hs).1
  have hc2 := (List.getElem?_eq_some_iff.1 ht).1
  have HA : Hid (argN l c = List.zipWith ordP s.args t.args) := by show _ = _; simp [argN, argsN, hs, ht]
  have HM : Hid (∀ W, Below w.heap.size w W → Mono w W) := fun W h => Mono.below h
  obtain ⟨sa, sc, rfl, k1⟩ := id r1
  obtain ⟨ta, tc2, rfl, k2⟩ := id r2
  have HR : Hid (_ ∧ _ ∧ _ ∧ _ ∧ _) := And.intro x1 (And.intro p1 (And.intro p2 (And.intro r1 r2)))
  obtain ⟨i0, hi0, hz0, hz1, hz2⟩ := info_parts infoPq
  have d1 : decide ((c.1 : Int) < (l.length : Int)) = true := decide_eq_true (by omega)
  have d2 : decide ((c.2 : Int) < (l.length : Int)) = true := decide_eq_true (by omega)
  have hlen : (argN l c).length = s.args.length := by rw [HA.out]; simp [← hst]
  have HG : Hid (∀ i a b, s.args[i]? = some a → t.args[i]? = some b → (argN l c)[i]? = some (ordP a b)) := fun i a b h1 h2 => by rw [HA.out, List.getElem?_zipWith, h1, h2]
  clear hT k1 k2 r1 r2 hs ht HA
  have B1 : Below w.heap.size w (w.alloc (.cells #[.int .i64 (c.1 : Int), .int .i64 (c.2 : Int)] 34)) := (Below.refl _ _).alloc (Nat.le_refl _) _
  have A1 := made_row w #[.int .i64 (c.1 : Int), .int .i64 (c.2 : Int)] 34
  have HX : Hid (∀ W, Below (w.heap.size + 1) (w.alloc (.cells #[.int .i64 (c.1 : Int), .int .i64 (c.2 : Int)] 34)) W → Mono w W ∧ W.cell? ⟨w.heap.size, 0, none⟩ = some (.int .i64 (c.1 : Int)) ∧ W.cell? ⟨w.heap.size, 1, none⟩ = some (.int .i64 (c.2 : Int)) ∧ Below w.heap.size w W) := fun W hB => by
    have e := hB.block w.heap.size (by omega)
    have q : Below w.heap.size w W := B1.trans (hB.mono (by omega))
    exact ⟨Mono.below q, (World.cell?_of_block (a := ⟨w.heap.size, 0, none⟩) e).trans (A1.cell (i := 0) (by simp)), (World.cell?_of_block (a := ⟨w.heap.size, 1, none⟩) e).trans (A1.cell (i := 1) (by simp)), q⟩
  have y1 := Mono.below B1 _ _ x1
  have y2 := Mono.below B1 _ _ p1
  have y3 := A1.cell (i := 0) (by simp)
  have hz : (w.alloc (.cells #[.int .i64 (c.1 : Int), .int .i64 (c.2 : Int)] 34)).heap.size = w.heap.size + 1 := by simp
  have R0 : Hid (∀ m, Row1 w.heap.size 34 2 (w.alloc (.cells #[.int .i64 (c.1 : Int), .int .i64 (c.2 : Int)] 34)) (.slice none 0 0) ((w.alloc (.cells #[.int .i64 (c.1 : Int), .int .i64 (c.2 : Int)] 34)).drewN m) (.slice none 0 0) 0 (rowP ((argN l c).take 0))) := fun m => by
    refine ⟨by simpa [rowP] using World.ownsRow_nil _ _ _ _, (Kept.refl _ _).drewN m, Or.inl rfl⟩
  have HN : Hid _ := hlen
  obtain ⟨n, hn⟩ : ∃ n, s.args.length = n := ⟨_, rfl⟩
  have hn4 : n ≤ 4 := by omega
  have HNt : Hid (t.args.length = n ∧ s.args.length = n) := ⟨by omega, hn⟩
  rw [← hst, hn] at HR
  rw [hn] at y2
  clear x1 p1 p2 A1 B1 hst hlen
  go_enter Tryz.func141, Tryz.ntmps141
  go_wp2_with fail
  generalize (w.alloc (.cells #[.int .i64 (c.1 : Int), .int .i64 (c.2 : Int)] 34)) = w0 at *
  go_quiet (fail)
  go_wp2_with fail
  have R1 : Hid (_) := R0.out nq
  have HB1 : Hid (∀ W, Below w0.heap.size w0 W → _) := fun W hB => HX.out W (hz ▸ hB)
  have hz2w : (w0.drewN nq).heap.size = w.heap.size + 1 := hz
  generalize w0.drewN nq = w1 at *
  clear R0 y1 y2 y3
  go_loopw [5, 18] (fun t5 t18 W => ∃ i : Nat, i ≤ n ∧ t18 = .int .i64 (i : Int) ∧ Hid (Row1 w.heap.size 34 2 w0 (.slice none 0 0) W t5 i (rowP ((argN l c).take i)))) (fun _ t18 _ => n - (intOf t18).toNat)
  case atStart => exact ⟨0, Nat.zero_le _, rfl, R1⟩
  case round =>
    obtain ⟨i, hi, rfl, HRr⟩ := hrel
    by_cases hlt : i < n
    · have di : decide ((i : Int) < (n : Int)) = true := decide_eq_true (by omega)
      have hwrap : IntKind.i64.wrap ((i : Int) + 1) = (i : Int) + 1 := by rw [IntKind.wrap_i64]; omega
      have hkB : Below w0.heap.size w0 wr := HRr.out.kept.below (Nat.le_refl _) (fun k e => by cases e)
      obtain ⟨hM, z1, z2, _⟩ := HB1.out wr hkB
      obtain ⟨x1, p1, p2, r1, r2⟩ := HR.out
      have x1 := hM _ _ x1
      have p2 := hM _ _ p2
      have hi1 : i < s.args.length := by rw [HNt.out.2]; exact hlt
      have hi2 : i < t.args.length := by rw [HNt.out.1]; exact hlt
      obtain ⟨sb, so, sc', e1, g1⟩ := (r1.mono hM).get (List.getElem?_eq_getElem hi1)
      obtain ⟨tb, tof, tc', e2, g2⟩ := (r2.mono hM).get (List.getElem?_eq_getElem hi2)
      rw [HNt.out.2] at e1
      rw [HNt.out.1] at e2
      simp only [Value.slice.injEq, true_and] at e1 e2
      obtain ⟨rfl, rfl⟩ := e1
      obtain ⟨rfl, rfl⟩ := e2
      have HT : Hid ((argN l c).take (i + 1) = (argN l c).take i ++ [ordP s.args[i] t.args[i]]) := by
        show _ = _
        rw [List.take_add_one, HG.out i _ _ (List.getElem?_eq_getElem hi1) (List.getElem?_eq_getElem hi2)]
        rfl
      have OR := ordered_p wr.drew s.args[i] t.args[i]
      generalize s.args[i] = a at *
      generalize t.args[i] = b at *
      obtain ⟨ma, mc, hm⟩ := ownsRow_form HRr.out.row
      subst hm
      have hdl : ((argN l c).take i).length = i := by rw [List.length_take, HN.out, HNt.out.2]; omega
      have hk0 : w.heap.size + 1 ≤ wr.heap.size := by have := HRr.out.kept.size; omega
      clear HG HR r1 r2 hM hkB R1 HX HB1
      go_wp2_with fail
      go_region_law (first | (refine step_append_here rfl (.tmp 23) (.tmp 38) 109 rfl w.heap.size 34 i0 _ 2 16 Tryz.underlying109 hi0 hz0 hz1 hz2 rfl (by decide) (.slice ma i mc) i (rowP ((argN l c).take i)) (by (try simp only [Act.put, List.getElem_toArray, List.getElem_cons_succ, List.getElem_cons_zero, List.setIfInBounds_toArray, List.set_cons_succ, List.set_cons_zero]); first | rfl | (simp [Act.eval]; done)) (by exact World.ownsRow.alloc R5 _) ⟨w5.heap.size, 0, none⟩ 1 1 [.int .i64 ((ordP a b).1 : Int), .int .i64 ((ordP a b).2 : Int)] (by (try simp only [Act.put, List.getElem_toArray, List.getElem_cons_succ, List.getElem_cons_zero, List.setIfInBounds_toArray, List.set_cons_succ, List.set_cons_zero]); first | rfl | (simp [Act.eval]; done)) rfl (cell_two _ _ _ _) (by simp [Value.oneCell']) (by unfold maxLen; omega) (by omega) (by simp; omega) ?_; intro v8 w8 hown8 hgrow8 hloc8) | (go_simp; go_at_call 79; refine OR.mono ?_; rintro e w5 ⟨rfl, hB5⟩; have R5 := ownsRow_below (W := wr.drew) HRr.out.row hB5; have hb5 : wr.heap.size ≤ w5.heap.size := hB5.size))
      all_goals
        have hB6 : Below wr.heap.size wr w5 := ⟨hB5.os, hB5.tape, hB5.output, hB5.size, hB5.block⟩
        have H8 : Hid (_) := HRr.out.push (hB6.alloc hb5 _) hown8 hgrow8 hloc8
        clear hown8 hgrow8 hloc8 HRr R5 OR hB5 hB6
        go_wp2_with fail
        refine ⟨⟨i + 1, hlt, by simp, ?_⟩, by simp [intOf]; omega⟩
        rw [HT.out, rowP_app]
        exact H8.out
    · have di : decide ((i : Int) < (n : Int)) = false := decide_eq_false (by omega)
      have hie : i = n := by omega
      have HF : Hid (_) := HRr.out
      rw [hie] at HF
      have hke : (argN l c).take n = argN l c := by rw [← HNt.out.2, ← HN.out]; exact List.take_length
      have HBf : Hid (Below w.heap.size w wr) := (HB1.out wr (HRr.out.kept.below (Nat.le_refl _) (fun k e => by cases e))).2.2.2
      have HL : Hid ((argN l c).length = n) := HN.out.trans HNt.out.2
      clear HR HRr HG R1 HX HB1
      go_wp2_with fail
      go_ret
      refine ⟨_, rfl, ?_, HBf.out⟩
      have := HF.out.row
      rw [hke] at this
      rw [HL.out]
      exact this
end Go.Proofs.YtlehlgipbhfioaaGreat

namespace Go.Proofs.YtlehlgipbhfioaaGreat
open Go.RowKit Go.Maps

/-- A window of cells of one's own, one cell an element. -/
def WinAt (W : World) (base : Nat) (e : TypeId) (v : Value) (xs : List Value) : Prop :=
  ∃ g off cap cur, v = .slice (some ⟨g, off, none⟩) xs.length cap ∧ base ≤ g ∧ W.heap[g]? = some (.cells cur e (0, 0)) ∧ off + cap ≤ cur.size ∧ xs.length ≤ cap ∧ cap ≤ maxLen ∧ (cur.toList.drop off).take xs.length = xs
def winB : Value → Option Nat
  | .slice (some a) _ _ => some a.block
  | _ => none

theorem run_append_win {P : Program} (w : World) (base : Nat) (t ty e : TypeId) (i : TypeInfo) (z : Value) (bytes : Nat) (ht : P.underlying t = some (.slice e)) (hi : P.info? e = some i) (hz : i.zero = some z)
    (hsize : i.size = 1) (hby : i.bytes = bytes) (hzs : z.cells.size = 1) (v : Value) (xs : List Value) (hw : WinAt w base e v xs)
    (a : Addr) (c : Nat) (u : Value) (hu : w.cell? a = some u) (h1 : u.oneCell' = true)
    (h63 : xs.length + 1 ≤ maxLen) (hbytes : (xs.length + 1) * bytes ≤ 140737488355328) (hbase : base ≤ w.heap.size) :
    ∃ v' w', (Builtin.append_ #[t, t] ty #[v, .slice (some a) 1 c]).run P w = .ok v' w' ∧ WinAt w' base e v' (xs ++ [u]) ∧ w.grownBy w' (winB v) ∧ (winB v' = winB v ∨ winB v' = some w.heap.size) := by
  obtain ⟨g, off, cap, cur, rfl, hbg, hg, hcs, hnc, hcm, htake⟩ := hw
  have hsmall : xs.length + 1 ≤ 9223372036854775807 := by simp only [maxLen] at h63; omega
  have hnews : ∀ j v, [u][j]? = some v → w.cell? (a.add j) = some v := fun j v hj => by
    match j, hj with
    | 0, hj => simp at hj; subst hj; exact hu
  have hl : [u].length = 1 * i.size := by rw [hsize]; rfl
  by_cases hroom : xs.length + 1 ≤ cap
  · have hf := run_firstCells_some (P := P) w i.size 1 a 1 c [u] hl hnews
    have hst := run_storeCells_at P g (off + xs.length) e [u] 0 cur w hg (by simp; omega) (by simpa using h1)
    simp only [Nat.add_zero] at hst
    have hr : (Builtin.append_ #[t, t] ty #[.slice (some ⟨g, off, none⟩) xs.length cap, .slice (some a) 1 c]).run P w = .ok (.slice (some ⟨g, off, none⟩) (xs.length + 1) cap) (w.setRow g (cur.toList.take (off + xs.length) ++ [u] ++ cur.toList.drop (off + xs.length + 1)).toArray) := by
      simp [Builtin.append_, run_underlying ht, sizeOf, typeInfo, hi, Builtin.lenOf, hroom, Addr.add_lit, hsize]
      rw [hsize] at hf
      simp [hf, hst]
    refine ⟨_, _, hr, ⟨g, off, cap, _, by simp, hbg, setRow_heap w g cur _ e _ hg, ?_, by simpa using hroom, hcm, ?_⟩, ⟨rfl, rfl, rfl, by simp, fun k _ hk => setRow_other w g k _ (fun e => hk (by simp [winB, e]))⟩, Or.inl rfl⟩
    · simp only [List.size_toArray, List.length_append, List.length_take, List.length_drop, Array.length_toList, List.length_singleton]
      omega
    · have hlen : (cur.toList.take (off + xs.length)).length = off + xs.length := by simp; omega
      rw [List.append_assoc, List.drop_append_of_le_length (by omega), List.drop_take, Nat.add_sub_cancel_left, htake, List.length_append, List.length_singleton, ← List.append_assoc]
      exact List.take_left' (by simp)
  · have holds : ∀ j v, xs[j]? = some v → w.cell? ((⟨g, off, none⟩ : Addr).add j) = some v := fun j v hj => by
      have hjl := (List.getElem?_eq_some_iff.1 hj).1
      rw [← htake, List.getElem?_take_of_lt hjl, List.getElem?_drop] at hj
      rw [Addr.add_lit]
      simp only [World.cell?, hg]
      simpa using hj
    have hr := run_append_grow (P := P) w t ty e i z ht hi hz ⟨g, off, none⟩ xs.length cap xs (by rw [hsize, Nat.mul_one]) holds a 1 c [u] hl hnews (by omega) (by omega) (by rw [hby]; exact growslice_fits (by omega) hbytes)
    have hge := grownCap_ge w (xs.length + 1) cap e
    have hcm2 : grownCap w (xs.length + 1) cap e ≤ maxLen := grownCap_le_maxLen w (xs.length + 1) cap e h63
    refine ⟨_, _, hr, ⟨w.heap.size, 0, _, _, by simp, hbase, heap_alloc_new w.drew _, ?_, by simpa using hge, hcm2, ?_⟩, ⟨rfl, rfl, rfl, by simp, fun k hk _ => heap_alloc_old w.drew _ hk⟩, Or.inr rfl⟩
    · simp only [Array.size_append, List.size_toArray, size_zeroCells, hzs, List.length_singleton]
      omega
    · simp only [List.drop_zero, Array.toList_append, List.length_append, List.length_singleton]
      exact List.take_left' (by simp)

theorem wpList_append_win {P : Program} {w : World} {ops : Array Oper} {rest : List Oper} {o : Oper} {a : Act} {Q : Exit → Act → World → Prop} (hgd : o.guard = none) (s x : Operand) (t : TypeId)
    (ho : o.op = .call { callee := .builtin .append, args := #[s, x], argTypes := #[t, t] })
    (base : Nat) (e : TypeId) (i : TypeInfo) (z : Value) (bytes : Nat) (ht : P.underlying t = some (.slice e)) (hi : P.info? e = some i) (hz : i.zero = some z)
    (hsize : i.size = 1) (hby : i.bytes = bytes) (hzs : z.cells.size = 1) (v : Value) (xs : List Value) (hs : a.eval s = v) (hw : WinAt w base e v xs)
    (ad : Addr) (c : Nat) (u : Value) (hx : a.eval x = .slice (some ad) 1 c) (hu : w.cell? ad = some u) (h1 : u.oneCell' = true)
    (h63 : xs.length + 1 ≤ maxLen) (hbytes : (xs.length + 1) * bytes ≤ 140737488355328) (hbase : base ≤ w.heap.size)
    (h : ∀ v' w', WinAt w' base e v' (xs ++ [u]) → w.grownBy w' (winB v) → (winB v' = winB v ∨ winB v' = some w.heap.size) → wpList P ops Q rest (a.put o.dst v') w') :
    wpList P ops Q (o :: rest) a w := by
  refine wpList_plain hgd fun K hK => ?_
  obtain ⟨v', w', hr, h2, h3, h4⟩ := run_append_win (P := P) w base t o.type e i z bytes ht hi hz hsize hby hzs v xs hw ad c u hu h1 h63 hbytes hbase
  unfold Oper.wp execOp
  simp only [ho, resolve, invoke, builtin, Sem.run_bind, Sem.run_pure, Result.andThen_ok, List.map_toArray, List.map_cons, List.map_nil, hs, hx, hr]
  exact hK _ _ (h v' w' h2 h3 h4)
theorem WinAt.keep {W W' : World} {base : Nat} {e : TypeId} {v : Value} {xs : List Value} (h : WinAt W base e v xs) (hb : ∀ g, winB v = some g → W'.heap[g]? = W.heap[g]?) : WinAt W' base e v xs := by
  obtain ⟨g, off, cap, cur, rfl, h1, h2, h3⟩ := h
  exact ⟨g, off, cap, cur, rfl, h1, (hb g rfl).trans h2, h3⟩
theorem WinAt.lt {W : World} {base : Nat} {e : TypeId} {v : Value} {xs : List Value} (h : WinAt W base e v xs) {g : Nat} (hg : winB v = some g) : base ≤ g ∧ g < W.heap.size := by
  obtain ⟨g', off, cap, cur, rfl, h1, h2, h3⟩ := h
  cases hg
  exact ⟨h1, (Array.getElem?_eq_some_iff.1 h2).1⟩
theorem WinAt.get {W : World} {base : Nat} {e : TypeId} {v : Value} {xs : List Value} (h : WinAt W base e v xs) : ∃ g off cap, v = .slice (some ⟨g, off, none⟩) xs.length cap ∧ xs.length ≤ cap ∧ cap ≤ maxLen ∧ ∀ (j : Nat) (u : Value), xs[j]? = some u → W.cell? ⟨g, off + j, none⟩ = some u := by
  obtain ⟨g, off, cap, cur, rfl, h1, h2, h3, h4, h5, h6⟩ := h
  refine ⟨g, off, cap, rfl, h4, h5, fun j u hj => ?_⟩
  have hjl := (List.getElem?_eq_some_iff.1 hj).1
  rw [← h6, List.getElem?_take_of_lt hjl, List.getElem?_drop] at hj
  simp only [World.cell?, h2]
  simpa using hj
theorem WinAt.tail {W : World} {base : Nat} {e : TypeId} {g off n cap : Nat} {x : Value} {xs : List Value} (h : WinAt W base e (.slice (some ⟨g, off, none⟩) n cap) (x :: xs)) : WinAt W base e (.slice (some ⟨g, off + 1, none⟩) xs.length (cap - 1)) xs := by
  obtain ⟨g', off', cap', cur, e0, h1, h2, h3, h4, h5, h6⟩ := h
  simp only [Value.slice.injEq, Option.some.injEq, Addr.mk.injEq, and_true] at e0
  obtain ⟨⟨rfl, rfl⟩, rfl, rfl⟩ := e0
  simp only [List.length_cons] at h4 h6
  refine ⟨g, off + 1, cap - 1, cur, rfl, h1, h2, by omega, by omega, by omega, ?_⟩
  have e1 : cur.toList.drop (off + 1) = (cur.toList.drop off).drop 1 := by rw [List.drop_drop]
  have e2 := congrArg (List.drop 1) h6
  rw [List.drop_take] at e2
  rw [e1]
  simpa using e2
theorem WinAt.none_ {W : World} {base : Nat} {e : TypeId} {g off n : Nat} {x : Value} {xs : List Value} (h : WinAt W base e (.slice (some ⟨g, off, none⟩) n 1) (x :: xs)) : WinAt W base e (.slice (some ⟨g, off, none⟩) xs.length 0) xs := by
  obtain ⟨g', off', cap', cur, e0, h1, h2, h3, h4, h5, h6⟩ := h
  simp only [Value.slice.injEq, Option.some.injEq, Addr.mk.injEq, and_true] at e0
  obtain ⟨⟨rfl, rfl⟩, rfl, rfl⟩ := e0
  have hx : xs = [] := List.eq_nil_of_length_eq_zero (by simp only [List.length_cons] at h4; omega)
  subst hx
  exact ⟨g, off, 0, cur, rfl, h1, h2, by omega, by simp, by omega, by simp⟩
theorem WinAt.one (w : World) (e : TypeId) (u : Value) (base : Nat) (hb : base ≤ w.heap.size) : WinAt (w.alloc (.cells #[u] e)) base e (.slice (some ⟨w.heap.size, 0, none⟩) 1 1) [u] :=
  ⟨w.heap.size, 0, 1, #[u], rfl, hb, heap_alloc_new w _, Nat.le_refl _, Nat.le_refl _, by unfold maxLen; omega, rfl⟩

/-- A row of numbers, the whole block. -/
def RowN (W : World) (g : Nat) (xs : List Nat) : Prop := W.heap[g]? = some (.cells (xs.map i64).toArray 3)
theorem RowN.cell {W : World} {g : Nat} {xs : List Nat} (h : RowN W g xs) {i x : Nat} (hi : xs[i]? = some x) : W.cell? ⟨g, i, none⟩ = some (.int .i64 (x : Int)) := by
  unfold RowN at h
  simp [World.cell?, h, hi, i64]
theorem RowN.frozen {W : World} {g : Nat} {xs : List Nat} (h : RowN W g xs) (i : Nat) : W.frozen? ⟨g, i, none⟩ = false := by
  unfold RowN at h
  simp [World.frozen?, h]
theorem RowN.set {W : World} {g : Nat} {xs : List Nat} (h : RowN W g xs) (i x : Nat) : RowN (W.setCell ⟨g, i, none⟩ (.int .i64 (x : Int))) g (xs.set i x) := by
  unfold RowN at h ⊢
  rw [List.map_set]
  exact setCell_cells h i (i64 x)

theorem bfsIn_snoc (t : Nat) : ∀ (ns : List Nat) (n : Nat) (nx td : List Nat), bfsIn t (ns ++ [n]) nx td = if (bfsIn t ns nx td).1[n]?.getD 0 = 0 then ((bfsIn t ns nx td).1.set n (t + 1), (bfsIn t ns nx td).2 ++ [n]) else bfsIn t ns nx td := by
  intro ns
  induction ns with
  | nil => intro n nx td; by_cases h : nx[n]?.getD 0 = 0 <;> simp [bfsIn, h]
  | cons m ns ih => intro n nx td; simp only [List.cons_append, bfsIn]; split <;> exact ih n _ _
theorem bfsIn_keep (t : Nat) : ∀ (ns nx td : List Nat), (bfsIn t ns nx td).1.length = nx.length ∧ ∃ u, (bfsIn t ns nx td).2 = td ++ u ∧ ∀ x ∈ u, x ∈ ns := by
  intro ns
  induction ns with
  | nil => intro nx td; exact ⟨rfl, [], by simp [bfsIn], by simp⟩
  | cons m ns ih =>
    intro nx td
    simp only [bfsIn]
    split
    · obtain ⟨h1, u, h2, h3⟩ := ih (nx.set m (t + 1)) (td ++ [m])
      refine ⟨by rw [h1, List.length_set], m :: u, by rw [h2]; simp, fun x hx => ?_⟩
      rcases List.mem_cons.1 hx with rfl | hx
      · simp
      · exact List.mem_cons_of_mem _ (h3 x hx)
    · obtain ⟨h1, u, h2, h3⟩ := ih nx td
      exact ⟨h1, u, h2, fun x hx => List.mem_cons_of_mem _ (h3 x hx)⟩

theorem bfsIn_cnt (t : Nat) : ∀ (ns nx td : List Nat), (∀ n ∈ ns, n < nx.length) → (bfsIn t ns nx td).2.length + (bfsIn t ns nx td).1.count 0 ≤ td.length + nx.count 0 := by
  intro ns
  induction ns with
  | nil => intro nx td _; exact Nat.le_refl _
  | cons m ns ih =>
    intro nx td hn
    simp only [bfsIn]
    have hm : m < nx.length := hn m (by simp)
    split
    · next h0 =>
      rw [List.getElem?_eq_getElem hm, Option.getD_some] at h0
      refine Nat.le_trans (ih (nx.set m (t + 1)) (td ++ [m]) (fun n h => by rw [List.length_set]; exact hn n (List.mem_cons_of_mem _ h))) ?_
      rw [List.count_set hm, h0]
      have : 0 < nx.count 0 := List.count_pos_iff.2 (h0 ▸ List.getElem_mem hm)
      simp
      omega
    · exact ih nx td (fun n h => hn n (List.mem_cons_of_mem _ h))

/-- path in its first loop. -/
structure PaR (w W : World) (nx td : List Nat) (v : Value) : Prop where
  row : RowN W w.heap.size nx
  win : WinAt W (w.heap.size + 1) 3 v (td.map i64)
  below : Below w.heap.size w W

theorem path_bf {L : List (List Nat)} {E : Edges} (hL : LnkIs L E) {a b : Nat} (hab : Conn E a b) (ha : a < L.length) (hb : b < L.length) :
    ∃ nx td done p, bfs L a (L.length + 2) ((List.replicate L.length 0).set b (b + 1)) [b] = some nx ∧ Bf L b nx td done ∧ nx[a]?.getD 0 ≠ 0 ∧ wayTo nx b (L.length + 1) a = some p ∧ pathN L a b = some (a :: p) := by
  have hS : ∀ x, ((List.replicate L.length 0).set b (b + 1))[x]?.getD 0 = if x = b then b + 1 else 0 := fun x => by
    by_cases e : x = b
    · subst e; rw [if_pos rfl, List.getElem?_set_self (by simpa using hb)]; rfl
    · rw [if_neg e, List.getElem?_set_ne (fun e2 => e e2.symm), List.getElem?_replicate]
      split <;> rfl
  have h0 : Bf L b ((List.replicate L.length 0).set b (b + 1)) [b] [] := by
    refine ⟨by simp, by simp, fun x => ?_, by rw [hS, if_pos rfl], fun i x hx hxb => ?_, by simp⟩
    · rw [hS]
      by_cases e : x = b
      · subst e; simp [hb]
      · simp [e]
    · exfalso
      have := List.mem_of_getElem? hx
      simp at this
      exact hxb this
  obtain ⟨nx, td, done, e1, e2, e3⟩ := bfs_ok hL hab.symm ha (L.length + 2) _ [b] [] h0 (by simp) (by simp)
  obtain ⟨i, hi, he⟩ := List.mem_iff_getElem.1 ((e2.mem a).2 ⟨ha, e3⟩)
  have hlen := nodup_le e2.nd (fun x hx => ((e2.mem x).1 hx).1)
  obtain ⟨p, g1, g2, g3, g4, g5⟩ := wayTo_ok e2 (L.length + 1) i a (by rw [List.getElem?_eq_getElem hi, he]) (by omega)
  exact ⟨nx, td, done, p, e1, e2, e3, g1, by unfold pathN; rw [e1]; simp only; rw [g1]; rfl⟩

theorem infoIntq : (Tryz.prog.info? 3).map (fun i => (i.zero, i.size, i.bytes)) = some (some (.int .i64 0), 1, 8) := by kernel_rfl
theorem make_intsq (w : World) (n : Nat) (hn : n ≤ 1048577) : (Instr.makeSlice 39 (.int .i64 (n : Int)) (.int .i64 (n : Int))).run Tryz.prog w = .ok (.slice (some ⟨w.heap.size, 0, none⟩) n n) (w.alloc (.cells (List.replicate n (.int .i64 0)).toArray 3)) := by
  obtain ⟨i0, hi0, hz0, hz1, hz2⟩ := info_parts infoIntq
  have hmk := run_make (P := Tryz.prog) w 39 3 i0 _ Tryz.underlying39 hi0 hz0 .i64 .i64 (n : Int) (n : Int) (by omega) (Int.le_refl _) (by rw [hz2]; omega) (by omega)
  rw [hz1] at hmk
  simp only [Int.toNat_natCast, Nat.mul_one] at hmk
  rw [← madeCells_one]
  exact hmk

set_option maxRecDepth 100000 in
set_option maxHeartbeats 1000000 in
theorem path_in (w : World) (pb : Nat) (ta : Option Addr) (tc : Nat) (lv : Value) (L : List (List Nat)) (hL : L.length ≤ 1048576) (hLr : ∀ r ∈ L, r.length ≤ 1048576) (x1 : w.cell? ⟨pb, 1, none⟩ = some (.slice ta L.length tc)) (x3 : w.cell? ⟨pb, 3, none⟩ = some lv) (hl : NssAt w lv L) (E : Edges) (hE : LnkIs L E) (a b : Nat) (hab : Conn E a b) (ha : a < L.length) (hb : b < L.length) (p : List Nat) (hp : pathN L a b = some p) :
    Calls Tryz.prog 140 #[.pointer (some ⟨pb, 0, none⟩), .int .i64 (a : Int), .int .i64 (b : Int)] w fun e w' => ∃ v, e = .returned v ∧ w'.ownsRow w.heap.size 3 1 v p.length (p.map i64) ∧ Below w.heap.size w w' := by
  obtain ⟨NX, TD, DN, q, g1, g2, g3, g4, g5⟩ := path_bf hE hab ha hb
  obtain rfl : a :: q = p := by rw [g5] at hp; exact Option.some.inj hp
  have m1 := make_intsq w L.length (by omega)
  have HE : Hid _ := hE
  have HLr : Hid _ := hLr
  have HB : Hid (_ ∧ _ ∧ _ ∧ _) := And.intro g1 (And.intro g2 (And.intro g3 g4))
  have HL : Hid (_ ∧ _ ∧ _) := And.intro x3 (And.intro hl x1)
  clear hLr hE hab hp g1 g2 g3 g4 g5 hl x3
  have hwrap : IntKind.i64.wrap ((b : Int) + 1) = (b : Int) + 1 := wrap_nat1 (by omega)
  have db : decide ((b : Int) < (L.length : Int)) = true := decide_eq_true (by omega)
  have hW := heap_alloc_new w (.cells (List.replicate L.length (.int .i64 0)).toArray 3)
  have R0 : RowN (w.alloc (.cells (List.replicate L.length (.int .i64 0)).toArray 3)) w.heap.size (List.replicate L.length 0) := by
    unfold RowN
    rw [hW]
    simp [i64]
  have y1 := R0.cell (i := b) (x := 0) (by simp [hb])
  have y2 := R0.frozen b
  have HR1 : Hid (PaR w ((w.alloc (.cells ((Array.replicate L.length (Value.int .i64 0)).setIfInBounds b (.int .i64 ((b : Int) + 1))) 3)).alloc (.cells #[.int .i64 (b : Int)] 3)) ((List.replicate L.length 0).set b (b + 1)) [b] (.slice (some ⟨w.heap.size + 1, 0, none⟩) 1 1)) := by
    have hs : (w.alloc (.cells ((Array.replicate L.length (Value.int .i64 0)).setIfInBounds b (.int .i64 ((b : Int) + 1))) 3)).heap.size = w.heap.size + 1 := by simp
    refine ⟨?_, ?_, ((Below.refl _ w).alloc (Nat.le_refl _) _).alloc (by rw [hs]; omega) _⟩
    · unfold RowN
      rw [heap_alloc_old _ _ (by rw [hs]; omega), heap_alloc_new, List.map_set, List.map_replicate, show (Array.replicate L.length (Value.int .i64 0)) = (List.replicate L.length (Value.int .i64 0)).toArray from by simp, List.setIfInBounds_toArray]
      rfl
    · have := WinAt.one (w.alloc (.cells ((Array.replicate L.length (Value.int .i64 0)).setIfInBounds b (.int .i64 ((b : Int) + 1))) 3)) 3 (.int .i64 (b : Int)) (w.heap.size + 1) (by rw [hs]; exact Nat.le_refl _)
      rw [hs] at this
      exact this
  clear R0 hW
  obtain ⟨i0, hi0, hz0, hz1, hz2⟩ := info_parts infoIntq
  go_enter Tryz.func140, Tryz.ntmps140
  go_wp2_with fail
  generalize ((w.alloc (.cells ((Array.replicate L.length (Value.int .i64 0)).setIfInBounds b (.int .i64 ((b : Int) + 1))) 3)).alloc (.cells #[.int .i64 (b : Int)] 3)) = w1 at *
  clear y1 y2 m1 hwrap db
  obtain ⟨h0, hh0⟩ : ∃ h, w.heap.size = h := ⟨_, rfl⟩
  have HH0 : Hid _ := hh0
  have HR2 : Hid (PaR w w1 ((List.replicate L.length 0).set b (b + 1)) [b] (.slice (some ⟨h0 + 1, 0, none⟩) 1 1)) := by rw [← hh0]; exact HR1.out
  simp only [hh0]
  clear hh0 HR1
  go_loopg [8] (L.length + 2) (fun k t8 W => ∃ nx td, Hid (bfs L a k nx td = some NX ∧ nx.length = L.length ∧ ((∀ x ∈ td, x < L.length) ∧ td.length + nx.count 0 ≤ L.length) ∧ PaR w W nx td t8))
  case atStart => exact ⟨_, _, HB.out.1, by simp, ⟨by simpa using hb, by rw [List.count_set (by simpa using hb)]; simp; omega⟩, HR2.out⟩
  case round =>
    obtain ⟨nx, td, HI⟩ := hrel
    clear HR2
    have hal : a < nx.length := by rw [HI.out.2.1]; exact ha
    have q1 : wr.cell? ⟨h0, a, none⟩ = some (.int .i64 (nx[a] : Int)) := by rw [← HH0.out]; exact HI.out.2.2.2.row.cell (List.getElem?_eq_getElem hal)
    have dal : decide ((a : Int) < (L.length : Int)) = true := decide_eq_true (by omega)
    cases gk with
    | zero => exact absurd HI.out.1 (by simp [bfs])
    | succ k =>
    have hbf := HI.out.1
    rw [bfs.eq_def] at hbf
    simp only at hbf
    by_cases hx0 : nx[a] = 0
    · have dx : ((nx[a] : Int) == 0) = true := by simp [hx0]
      rw [if_neg (by simp [List.getElem?_eq_getElem hal, hx0])] at hbf
      cases td with
      | nil => exact absurd hbf (by simp)
      | cons t r =>
      simp only at hbf
      have ht : t < L.length := HI.out.2.2.1.1 t (by simp)
      have hns : L[t]? = some L[t] := List.getElem?_eq_getElem ht
      rw [hns, Option.getD_some] at hbf
      obtain ⟨x3, hl, _⟩ := HL.out
      obtain ⟨b3, o3, c3, u, hlv, q3, hu⟩ := hl.get hns
      have hnl0 : L[t].length ≤ 1048576 := HLr.out _ (List.getElem_mem ht)
      have HLT : Hid (∀ y ∈ L[t], y < L.length) := fun y hy => HE.out.lt t y (by rw [hns]; exact hy)
      generalize L[t] = ns at *
      obtain ⟨na, nc, hun, _⟩ := id hu
      subst hun hlv
      have HNS : Hid (NsAt w (.slice na ns.length nc) ns) := hu
      have hM : Mono w wr := Mono.below HI.out.2.2.2.below
      have x3 := hM _ _ x3
      have q3 := hM _ _ q3
      obtain ⟨wg, wo, wc, hw8, hwl, hwm, hwc⟩ := HI.out.2.2.2.win.get
      subst hw8
      have q2 : wr.cell? ⟨wg, wo, none⟩ = some (.int .i64 (t : Int)) := hwc 0 _ rfl
      have dt : decide ((t : Int) < (L.length : Int)) = true := decide_eq_true (by omega)
      have HI0 : Hid (∀ m, PaR w (wr.drewN m) (bfsIn t (ns.take 0) nx (t :: r)).1 (bfsIn t (ns.take 0) nx (t :: r)).2 (.slice (some ⟨wg, wo, none⟩) ((t :: r).map i64).length wc)) := fun m => by
        obtain ⟨p1, p2, p3⟩ := HI.out.2.2.2
        exact ⟨p1, p2, ⟨p3.os, p3.tape, p3.output, p3.size, p3.block⟩⟩
      have HK : Hid (_ ∧ _ ∧ _) := And.intro hbf (And.intro HI.out.2.1 HI.out.2.2.1)
      have hwl1 : 1 ≤ ((t :: r).map i64).length := by simp
      clear hl hu hM hwc hbf HI hns
      generalize ((t :: r).map i64).length = wl at *
      have dwl : decide (0 < (wl : Int)) = true := decide_eq_true (by omega)
      go_wp2_with fail
      go_quiet (fail)
      go_wp2_with fail
      have HI1 : Hid (_) := HI0.out nq
      clear HI0 q1 q2 q3 x3
      generalize wr.drewN nq = w2 at *
      go_loopw [8, 43] (fun t8 t43 W => ∃ i : Nat, i ≤ ns.length ∧ t43 = .int .i64 (i : Int) ∧ Hid (PaR w W (bfsIn t (ns.take i) nx (t :: r)).1 (bfsIn t (ns.take i) nx (t :: r)).2 t8)) (fun _ t43 _ => ns.length - (intOf t43).toNat)
      case atStart => exact ⟨0, Nat.zero_le _, rfl, HI1⟩
      case round =>
        obtain ⟨i, hi, rfl, HP⟩ := hrel
        clear HI1
        by_cases hlt : i < ns.length
        · have di : decide ((i : Int) < (ns.length : Int)) = true := decide_eq_true (by omega)
          have hwrap : IntKind.i64.wrap ((i : Int) + 1) = (i : Int) + 1 := by rw [IntKind.wrap_i64]; omega
          obtain ⟨nb, no, nc', e1, k1⟩ := (HNS.out.mono (Mono.below HP.out.below)).get (List.getElem?_eq_getElem hlt)
          simp only [Value.slice.injEq, true_and] at e1
          obtain ⟨rfl, rfl⟩ := e1
          have hsn := bfsIn_snoc t (ns.take i) ns[i] nx (t :: r)
          have htk : ns.take (i + 1) = ns.take i ++ [ns[i]] := by rw [List.take_add_one, List.getElem?_eq_getElem hlt, Option.toList_some]
          have hkp := bfsIn_keep t (ns.take i) nx (t :: r)
          have hnn := HLT.out ns[i] (List.getElem_mem hlt)
          rw [← htk] at hsn
          generalize ns[i] = n at *
          have HS : Hid _ := hsn
          generalize hX : bfsIn t (ns.take i) nx (t :: r) = X at *
          obtain ⟨hxl, u', hxu, _⟩ := hkp
          have hnX : n < X.1.length := by rw [hxl, HK.out.2.1]; exact hnn
          have dn : decide ((n : Int) < (L.length : Int)) = true := decide_eq_true (by omega)
          have k2 : wr.cell? ⟨h0, n, none⟩ = some (.int .i64 (X.1[n] : Int)) := by rw [← HH0.out]; exact HP.out.row.cell (List.getElem?_eq_getElem hnX)
          have k3 : wr.frozen? ⟨h0, n, none⟩ = false := by rw [← HH0.out]; exact HP.out.row.frozen n
          obtain ⟨vg, vo, vc, hv8, hvl, hvm, hvc⟩ := HP.out.win.get
          subst hv8
          have k4 : wr.cell? ⟨vg, vo, none⟩ = some (.int .i64 (t : Int)) := hvc 0 _ (by rw [hxu]; rfl)
          have hvb := HP.out.win.lt (g := vg) rfl
          have hne : ¬ h0 = vg := by rw [← HH0.out]; omega
          have hml : (X.2.map i64).length = r.length + 1 + u'.length := by rw [hxu]; simp; omega
          have hXlen : (X.2.map i64).length ≤ 2097152 := by
            have h1 := bfsIn_cnt t (ns.take i) nx (t :: r) (fun y hy => by rw [HK.out.2.1]; exact HLT.out y (List.mem_of_mem_take hy))
            have h2 := HK.out.2.2.2
            rw [hX] at h1
            rw [List.length_map]
            omega
          by_cases hz : X.1[n] = 0
          · have dz : ((X.1[n] : Int) == 0) = true := by simp [hz]
            have hwt : IntKind.i64.wrap ((t : Int) + 1) = (t : Int) + 1 := wrap_nat1 (by omega)
            have HX2 : Hid (bfsIn t (ns.take (i + 1)) nx (t :: r) = (X.1.set n (t + 1), X.2 ++ [n])) := by
              show _ = _
              rw [HS.out, if_pos (by simp [List.getElem?_eq_getElem hnX, hz])]
            have HP2 : Hid (RowN (wr.setCell ⟨h0, n, none⟩ (.int .i64 ((t : Int) + 1))) h0 (X.1.set n (t + 1)) ∧ WinAt (wr.setCell ⟨h0, n, none⟩ (.int .i64 ((t : Int) + 1))) (h0 + 1) 3 (.slice (some ⟨vg, vo, none⟩) (X.2.map i64).length vc) (X.2.map i64) ∧ Below h0 w (wr.setCell ⟨h0, n, none⟩ (.int .i64 ((t : Int) + 1))) ∧ h0 + 1 ≤ (wr.setCell ⟨h0, n, none⟩ (.int .i64 ((t : Int) + 1))).heap.size) := by
              obtain ⟨p1, p2, p3⟩ := HP.out
              rw [HH0.out] at p1 p2 p3
              refine ⟨p1.set n (t + 1), p2.keep (fun g hg => ?_), p3.setCell (p := ⟨h0, n, none⟩) (Nat.le_refl _) _, ?_⟩
              · cases hg
                simp only [World.setCell]
                rw [Array.getElem?_modify, if_neg hne]
              · have := (Array.getElem?_eq_some_iff.1 p1).1
                simp [World.setCell]
                omega
            have HML : Hid ((X.2.map i64).length ≤ 2097152) := hXlen
            generalize (X.2.map i64).length = ml at hml hvl hXlen HP2 ⊢
            generalize X.1[n] = xn at *
            clear HP hvc hX HS hsn hxl hxu hnX htk
            go_wp2_with (first | (at_builtin; refine Aside.out ?_))
            delta Aside
            refine wpList_append_win rfl _ _ 39 rfl (h0 + 1) 3 i0 _ 8 Tryz.underlying39 hi0 hz0 hz1 hz2 rfl (.slice (some ⟨vg, vo, none⟩) ml vc) (X.2.map i64) rfl (HP2.out.2.1.keep (fun g hg => by cases hg; exact heap_alloc_old _ _ (HP2.out.2.1.lt rfl).2)) ⟨(wr.setCell ⟨h0, n, none⟩ (.int .i64 ((t : Int) + 1))).heap.size, 0, none⟩ 1 (.int .i64 (n : Int)) (by simp [Act.eval]) (by have := made_row (wr.setCell ⟨h0, n, none⟩ (.int .i64 ((t : Int) + 1))) #[.int .i64 (n : Int)] 3; exact this.cell (i := 0) (by simp)) rfl (by have := HML.out; unfold maxLen; omega) (by have := HML.out; omega) (by have := HP2.out.2.2.2; simp at this ⊢; omega) ?_
            intro v8 w8 hwin8 hgrow8 hat8
            have HF : Hid (PaR w w8 (X.1.set n (t + 1)) (X.2 ++ [n]) v8) := by
              obtain ⟨p1, p2, p3, p4⟩ := HP2.out
              have hB : Below h0 w w8 := by
                have b1 := p3.alloc (by omega) (.cells #[.int .i64 (n : Int)] 3)
                have hsz8 : w.heap.size ≤ w8.heap.size := Nat.le_trans b1.size hgrow8.size
                exact ⟨hgrow8.os.trans b1.os, hgrow8.tape.trans b1.tape, hgrow8.output.trans b1.output, Nat.le_trans b1.size hgrow8.size, fun k hk => (hgrow8.block k (by simp at p4 ⊢; omega) (fun e => by
                  have e' : k = vg := Option.some.inj e
                  have := (p2.lt (g := vg) rfl).1
                  omega)).trans (b1.block k hk)⟩
              refine ⟨?_, ?_, by rw [HH0.out]; exact hB⟩
              · rw [HH0.out]
                unfold RowN at p1 ⊢
                rw [hgrow8.block h0 (by simp at p4 ⊢; omega) (fun e => by cases e; exact hne rfl), heap_alloc_old _ _ (by omega)]
                exact p1
              · rw [HH0.out, List.map_append]
                exact hwin8
            clear hwin8 hgrow8 hat8 HP2
            go_wp2_with fail
            refine ⟨⟨i + 1, hlt, by simp, ?_⟩, by simp [intOf]; omega⟩
            rw [HX2.out]
            exact HF.out
          · have dz : ((X.1[n] : Int) == 0) = false := by simpa using hz
            have HX2 : Hid (bfsIn t (ns.take (i + 1)) nx (t :: r) = X) := by
              show _ = _
              rw [HS.out, if_neg (by simp [List.getElem?_eq_getElem hnX, hz])]
            generalize (X.2.map i64).length = ml at *
            generalize X.1[n] = xn at *
            clear hvc hX HS hsn hxl hxu hnX htk
            go_wp2_with fail
            refine ⟨⟨i + 1, hlt, by simp, ?_⟩, by simp [intOf]; omega⟩
            rw [HX2.out]
            exact HP.out
        · have di : decide ((i : Int) < (ns.length : Int)) = false := decide_eq_false (by omega)
          obtain rfl : i = ns.length := by omega
          have hkp := bfsIn_keep t ns nx (t :: r)
          have hct := bfsIn_cnt t ns nx (t :: r) (fun y hy => by rw [HK.out.2.1]; exact HLT.out y hy)
          have HP2 : Hid (_) := HP.out
          rw [List.take_length] at HP2
          generalize hX : bfsIn t ns nx (t :: r) = X at *
          obtain ⟨hxl, u', hxu, hxm⟩ := hkp
          obtain ⟨vg, vo, vc, hv8, hvl, hvm, hvc⟩ := HP2.out.win.get
          subst hv8
          have HF : Hid (∀ v, WinAt wr (w.heap.size + 1) 3 v (X.2.tail.map i64) → bfs L a k X.1 X.2.tail = some NX ∧ X.1.length = L.length ∧ ((∀ x ∈ X.2.tail, x < L.length) ∧ X.2.tail.length + X.1.count 0 ≤ L.length) ∧ PaR w wr X.1 X.2.tail v) := fun v hv => by
            obtain ⟨z1, z2, z3, z4⟩ := HK.out
            obtain ⟨p1, p2, p3⟩ := HP2.out
            have htl : X.2 = t :: (r ++ u') := by rw [hxu]; rfl
            refine ⟨z1, by rw [hxl, z2], ⟨fun x hx => ?_, ?_⟩, p1, hv, p3⟩
            · rw [htl, List.tail_cons] at hx
              rcases List.mem_append.1 hx with hx | hx
              · exact z3 x (List.mem_cons_of_mem _ hx)
              · exact HLT.out x (hxm x hx)
            · rw [htl] at hct ⊢
              rw [List.tail_cons]
              simp only [List.length_cons] at hct z4
              omega
          have hml : (X.2.map i64).length = (X.2.tail.map i64).length + 1 := by rw [hxu]; simp
          have HW : Hid (WinAt wr (w.heap.size + 1) 3 (.slice (some ⟨vg, vo, none⟩) (X.2.map i64).length vc) (i64 t :: X.2.tail.map i64)) := by
            have := HP2.out.win
            rw [hxu] at this ⊢
            exact this
          rw [hml] at hvl HW ⊢
          generalize hmm : (X.2.tail.map i64).length = ml at *
          have HMM : Hid _ := hmm
          clear HP HP2 hvc hxu hxl hxm hX hct hmm
          by_cases hv1 : vc = 1
          · subst hv1
            have hm0 : ml = 0 := by omega
            subst hm0
            go_wp2_with fail
            go_roundg k
            case measure => omega
            case rel =>
              refine ⟨X.1, X.2.tail, HF.out _ ?_⟩
              have := WinAt.none_ HW.out
              rw [HMM.out] at this
              exact this
          · go_wp2_with fail
            go_roundg k
            case measure => omega
            case rel =>
              refine ⟨X.1, X.2.tail, HF.out _ ?_⟩
              have := WinAt.tail HW.out
              rw [HMM.out] at this
              exact this
    · have dx : ((nx[a] : Int) == 0) = false := by simpa using hx0
      rw [if_pos (by simp [List.getElem?_eq_getElem hal, hx0])] at hbf
      obtain rfl : nx = NX := Option.some.inj hbf
      have HI1 : Hid (RowN wr h0 nx ∧ Below h0 w wr ∧ h0 < wr.heap.size) := by
        obtain ⟨p1, _, p3⟩ := HI.out.2.2.2
        rw [HH0.out] at p1 p3
        exact ⟨p1, p3, (Array.getElem?_eq_some_iff.1 p1).1⟩
      have HR0 : Hid (Row1 h0 3 1 wr (.slice none 0 0) (wr.alloc (.cells #[.int .i64 (a : Int)] 3)) (.slice (some ⟨wr.heap.size, 0, none⟩) 1 1) 1 ([a].map i64)) := by
        refine ⟨⟨rfl, Or.inr ⟨wr.heap.size, 1, #[.int .i64 (a : Int)], rfl, Nat.le_of_lt HI1.out.2.2, heap_alloc_new _ _, Nat.le_refl _, by unfold maxLen; omega, rfl, rfl⟩⟩, (Kept.refl _ _).alloc _, Or.inr (fun k hk => by cases hk; exact Nat.le_refl _)⟩
      obtain ⟨_, g2, g3, g4⟩ := HB.out
      obtain ⟨i1, hi1, he1⟩ := List.mem_iff_getElem.1 ((g2.mem a).2 ⟨ha, g3⟩)
      have hii : (DN ++ TD)[i1]? = some a := by rw [List.getElem?_eq_getElem hi1, he1]
      have HS : Hid (_ ∧ _) := And.intro g4 hii
      have hnl : nx.length = L.length := HI.out.2.1
      clear HI hbf hi1 he1 hii g2 g3 g4
      generalize nx[a] = xa at *
      go_wp2_with fail
      generalize wr.alloc (.cells #[.int .i64 (a : Int)] 3) = w3 at *
      clear q1
      go_loopg [11, 12] (L.length + 1) (fun k t11 t12 W => ∃ (x : Nat) (rest dn : List Nat) (i : Nat), t12 = .int .i64 (x : Int) ∧ dn.length + k = L.length + 2 ∧ Hid (wayTo nx b k x = some rest ∧ a :: q = dn ++ rest ∧ (DN ++ TD)[i]? = some x ∧ Row1 h0 3 1 wr (.slice none 0 0) W t11 dn.length (dn.map i64)))
      case atStart => exact ⟨a, q, [a], i1, rfl, by simp; omega, HS.out.1, rfl, HS.out.2, HR0.out⟩
      case round =>
        obtain ⟨x, rest, dn, i, rfl, hdk, HP⟩ := hrel
        clear HR0 HS
        have g2 := HB.out.2.1
        have hmx := (g2.mem x).1 (List.mem_of_getElem? HP.out.2.2.1)
        have hway := HP.out.1
        cases gk with
        | zero => exact absurd hway (by simp [wayTo])
        | succ k2 =>
        rw [wayTo] at hway
        by_cases hxb : x = b
        · subst hxb
          rw [if_pos rfl] at hway
          have hre : rest = [] := (Option.some.inj hway).symm
          have HF : Hid (wr.ownsRow w.heap.size 3 1 u11 (a :: q).length ((a :: q).map i64) ∧ Below w.heap.size w wr) := by
            obtain ⟨_, p2, _, p4⟩ := HP.out
            rw [hre, List.append_nil] at p2
            rw [p2, HH0.out]
            obtain ⟨_, p3, hlt0⟩ := HI1.out
            exact ⟨p4.row, p3.trans ((p4.kept.below (Nat.le_refl _) (fun k e => by cases e)).mono (Nat.le_of_lt hlt0))⟩
          clear HP g2 hmx hway hre
          go_wp2_with fail
          go_ret
          exact ⟨_, rfl, HF.out.1, HF.out.2⟩
        · rw [if_neg hxb] at hway
          obtain ⟨j, y, hj1, hj2, hj3, _⟩ := g2.par i x HP.out.2.2.1 hxb
          rw [hj3, Nat.add_sub_cancel] at hway
          have hmy := (g2.mem y).1 (List.mem_of_getElem? hj2)
          have hxl : x < nx.length := by rw [hnl]; exact hmx.1
          have hnx : nx[x]? = some (y + 1) := by
            rw [List.getElem?_eq_getElem hxl] at hj3 ⊢
            simpa using hj3
          obtain ⟨rest', hr1, hr2⟩ : ∃ rest', wayTo nx b k2 y = some rest' ∧ rest = y :: rest' := by
            cases hq : wayTo nx b k2 y with
            | none => rw [hq] at hway; simp at hway
            | some rest' => rw [hq] at hway; exact ⟨rest', rfl, by simpa using hway.symm⟩
          have k1 : wr.cell? ⟨h0, x, none⟩ = some (.int .i64 ((y : Int) + 1)) := by
            have hb0 := HP.out.2.2.2.kept.block h0 HI1.out.2.2 (fun e => by cases e)
            have := (World.cell?_of_block (a := ⟨h0, x, none⟩) hb0).trans (HI1.out.1.cell hnx)
            rw [this]
            simp
          have dx : decide ((x : Int) < (L.length : Int)) = true := decide_eq_true (by omega)
          have dxb : ((x : Int) != (b : Int)) = true := by simp; omega
          have hwy := wrap_nat (a := y) (by omega)
          have HF : Hid (wayTo nx b k2 y = some rest' ∧ a :: q = (dn ++ [y]) ++ rest' ∧ (DN ++ TD)[j]? = some y) := ⟨hr1, by rw [HP.out.2.1, hr2]; simp, hj2⟩
          have HR : Hid (_) := HP.out.2.2.2
          obtain ⟨da, dc, hda⟩ := ownsRow_form HR.out.row
          subst hda
          have hbw : h0 ≤ wr.heap.size := Nat.le_trans (Nat.le_of_lt HI1.out.2.2) HR.out.kept.size
          have hdl : dn.length ≤ 1048578 := by omega
          clear HP g2 hway hj1 hj2 hj3 hmx hmy hnx hr1 hr2
          go_wp2_with (first | (at_builtin; refine Aside.out ?_))
          delta Aside
          refine wpList_append_own_at _ rfl _ _ 39 rfl h0 3 i0 _ 1 8 Tryz.underlying39 hi0 hz0 hz1 hz2 rfl (by decide) _ _ _ rfl (HR.out.row.alloc _) ⟨_, 0, none⟩ 1 1 [.int .i64 (y : Int)] rfl rfl (cell_one1 wr _ _) (by simp [Value.oneCell']) (by unfold maxLen; omega) (by omega) (by simp; omega) ?_
          intro v8 w8 hown8 hgrow8 _ hat8
          have H8 : Hid (_) := HR.out.push ((Below.refl _ _).alloc (Nat.le_refl _) _) hown8 hgrow8 (hat8.imp id (fun e k hk => by rw [e] at hk; cases hk; exact Nat.le_refl _))
          clear hown8 hgrow8 hat8 HR k1
          go_wp2_with fail
          go_roundg k2
          case measure => omega
          case rel =>
            refine ⟨y, rest', dn ++ [y], j, rfl, by simp; omega, HF.out.1, HF.out.2.1, HF.out.2.2, ?_⟩
            have := H8.out
            rw [List.length_append, List.map_append]
            exact this
end Go.Proofs.YtlehlgipbhfioaaGreat

namespace Go.Proofs.YtlehlgipbhfioaaGreat
open Go.RowKit Go.Maps

def pfC (sp kb n : Nat) (tv dv : Value) : Nat → Value := fun j => if j = 0 then .pointer (some ⟨sp, 0, none⟩) else if j = 1 then tv else if j = 2 then dv else .slice (some ⟨kb, 0, none⟩) n n
/-- A proof whose links are being made, in the blocks from B on. -/
structure LkM (W : World) (B pb sp nb kb : Nat) (tv dv jv : Value) (n : Nat) (g : Uf.G) (t : List Uf.Rec) (L : List (List Nat)) (lv : Nat → Value) : Prop where
  cells : W.rowIs pb 246 4 (pfC sp kb n tv dv)
  sets : St W B sp nb jv n g t
  outer : W.rowIs kb 39 n lv
  rows : ∀ j, j < n → W.ownsRow B 3 1 (lv j) (L[j]?.getD []).length ((L[j]?.getD []).map i64)
  dist : ∀ i j b, i < n → j < n → (lv i).ownBlock = some b → (lv j).ownBlock = some b → i = j
  len : L.length = n
  bp : B ≤ pb
  bk : B ≤ kb

theorem rowIs_neD {w : World} {b b' : Nat} {t e : TypeId} {n n' : Nat} {f f' : Nat → Value} (h : w.rowIs b t n f) (h' : w.rowIs b' e n' f') (hne : t ≠ e) : b ≠ b' := by
  rintro rfl
  obtain ⟨c1, hc1, _⟩ := h
  obtain ⟨c2, hc2, _⟩ := h'
  rw [hc1] at hc2
  injection hc2 with hc2
  injection hc2 with _ hc2
  exact hne hc2
theorem ownsRow_ne2 {w : World} {e e' : TypeId} {base base' size size' k k' : Nat} {v v' : Value} {xs xs' : List Value} (h : w.ownsRow base e size v k xs) (h' : w.ownsRow base' e' size' v' k' xs') (hne : e ≠ e') {b : Nat} (hb : v.ownBlock = some b) : v'.ownBlock ≠ some b := by
  intro hb'
  rcases h.2 with ⟨e1, _⟩ | ⟨g, cap, cur, e1, _, e2, _⟩
  · rw [e1] at hb; simp [Value.ownBlock] at hb
  · rw [e1] at hb
    simp [Value.ownBlock] at hb
    subst hb
    rcases h'.2 with ⟨e1', _⟩ | ⟨g', cap', cur', e1', _, e2', _⟩
    · rw [e1'] at hb'; simp [Value.ownBlock] at hb'
    · rw [e1'] at hb'
      simp [Value.ownBlock] at hb'
      subst hb'
      rw [e2] at e2'
      injection e2' with e2'
      injection e2' with _ e2'
      exact hne e2'
theorem ownsRow_blk {W W' : World} {base size k : Nat} {ty : TypeId} {v : Value} {xs : List Value} (h : W.ownsRow base ty size v k xs) (hb : ∀ b, v.ownBlock = some b → W'.heap[b]? = W.heap[b]?) : W'.ownsRow base ty size v k xs := by
  refine ⟨h.1, ?_⟩
  rcases h.2 with e | ⟨g, cap, cur, e, e1, e2, e3⟩
  · exact Or.inl e
  · exact Or.inr ⟨g, cap, cur, e, e1, (hb g (by rw [e]; rfl)).trans e2, e3⟩

theorem LkM.keep {W W' : World} {B pb sp nb kb n : Nat} {tv dv jv : Value} {g : Uf.G} {t : List Uf.Rec} {L : List (List Nat)} {lv : Nat → Value} (h : LkM W B pb sp nb kb tv dv jv n g t L lv) (hs : St W' B sp nb jv n g t) (h1 : W'.heap[pb]? = W.heap[pb]?) (h2 : W'.heap[kb]? = W.heap[kb]?) (h3 : ∀ j b, j < n → (lv j).ownBlock = some b → W'.heap[b]? = W.heap[b]?) : LkM W' B pb sp nb kb tv dv jv n g t L lv :=
  ⟨h.cells.of_block h1, hs, h.outer.of_block h2, fun j hj => ownsRow_blk (h.rows j hj) (fun b hb => h3 j b hj hb), h.dist, h.len, h.bp, h.bk⟩
theorem LkM.below {W W' : World} {B pb sp nb kb n : Nat} {tv dv jv : Value} {g : Uf.G} {t : List Uf.Rec} {L : List (List Nat)} {lv : Nat → Value} (h : LkM W B pb sp nb kb tv dv jv n g t L lv) (hB : Below W.heap.size W W') : LkM W' B pb sp nb kb tv dv jv n g t L lv := by
  refine h.keep (h.sets.other (S := fun _ => False) ⟨hB.os, hB.tape, hB.output, hB.size, fun k hk _ => hB.block k hk⟩ id id (fun _ _ => id)) (hB.block _ h.cells.lt) (hB.block _ h.outer.lt) (fun j b hj hb => hB.block b (ownsRow_lt (h.rows j hj) hb).2)
def MapsStay (W W' : World) : Prop := ∀ (k : Nat) es c, W.heap[k]? = some (Obj.map es c) → W'.heap[k]? = some (Obj.map es c)
theorem MapsStay.trans {A B C : World} (h : MapsStay A B) (k : MapsStay B C) : MapsStay A C := fun i es c e => k i es c (h i es c e)
theorem drow_map {w : World} {b : Nat} {t : TypeId} {n : Nat} {f : Nat → Value} (h : w.rowIs b t n f) {k : Nat} {es : _} {c : _} (hk : w.heap[k]? = some (Obj.map es c)) : k ≠ b := by
  rintro rfl
  obtain ⟨c1, hc1, _⟩ := h
  rw [hc1] at hk
  cases hk
theorem down_map {w : World} {base size n : Nat} {t : TypeId} {v : Value} {xs : List Value} (h : w.ownsRow base t size v n xs) {k : Nat} {es : _} {c : _} (hk : w.heap[k]? = some (Obj.map es c)) : v.ownBlock ≠ some k := by
  intro hb
  rcases h.2 with ⟨e1, _⟩ | ⟨g, cap, cur, e1, _, e2, _⟩
  · rw [e1] at hb; simp [Value.ownBlock] at hb
  · rw [e1] at hb
    simp [Value.ownBlock] at hb
    subst hb
    rw [e2] at hk
    cases hk
theorem LkM.join {W W' : World} {B pb sp nb kb n : Nat} {tv dv jv jv' : Value} {g g' : Uf.G} {t t' : List Uf.Rec} {L : List (List Nat)} {lv : Nat → Value} (h : LkM W B pb sp nb kb tv dv jv n g t L lv) (hK : Kept (Foot sp nb jv) W W') (hs : St W' B sp nb jv' n g' t') : LkM W' B pb sp nb kb tv dv jv' n g' t' L lv ∧ Below B W W' ∧ MapsStay W W' := by
  have hl := h.sets.lies
  refine ⟨⟨h.cells.of_block (hK.block _ h.cells.lt ?_), hs, h.outer.of_block (hK.block _ h.outer.lt ?_), fun j hj => ownsRow_blk (h.rows j hj) (fun b hb => hK.block b (ownsRow_lt (h.rows j hj) hb).2 ?_), h.dist, h.len, h.bp, h.bk⟩, ⟨hK.os, hK.tape, hK.output, hK.size, fun k hk => hK.block k (Nat.lt_of_lt_of_le hk h.sets.low) ?_⟩, fun k es c hk => (hK.block k (Array.getElem?_eq_some_iff.1 hk).1 ?_).trans hk⟩
  · rintro (e | e | e)
    · exact rowIs_neD h.cells hl.sets (by decide) e
    · exact rowIs_neD h.cells hl.nodes (by decide) e
    · exact rowIs_type h.cells (by decide) hl.joins e
  · rintro (e | e | e)
    · exact rowIs_neD h.outer hl.sets (by decide) e
    · exact rowIs_neD h.outer hl.nodes (by decide) e
    · exact rowIs_type h.outer (by decide) hl.joins e
  · rintro (e | e | e)
    · subst e; exact rowIs_type hl.sets (by decide) (h.rows j hj) hb
    · subst e; exact rowIs_type hl.nodes (by decide) (h.rows j hj) hb
    · exact ownsRow_ne2 (h.rows j hj) hl.joins (by decide) hb e
  · rintro (e | e | e)
    · have := hl.bp; omega
    · have := hl.bn; omega
    · have := (ownsRow_lt hl.joins e).1; omega
  · rintro (e | e | e)
    · exact drow_map hl.sets hk e
    · exact drow_map hl.nodes hk e
    · exact down_map hl.joins hk e

theorem addAt_get {L : List (List Nat)} {a x : Nat} (ha : a < L.length) (j : Nat) : (addAt L a x)[j]?.getD [] = if j = a then L[a]?.getD [] ++ [x] else L[j]?.getD [] := by
  unfold addAt
  by_cases e : j = a
  · subst e; rw [if_pos rfl, List.getElem?_set_self ha]; rfl
  · rw [if_neg e, List.getElem?_set_ne (fun e2 => e e2.symm)]

/-- One link's end more. -/
theorem LkM.grow {W W1 w8 : World} {B pb sp nb kb n : Nat} {tv dv jv v8 : Value} {g : Uf.G} {t : List Uf.Rec} {L : List (List Nat)} {lv : Nat → Value} (h : LkM W B pb sp nb kb tv dv jv n g t L lv) {a x : Nat} (ha : a < n) (hB : Below W.heap.size W W1)
    (hown : w8.ownsRow B 3 1 v8 ((L[a]?.getD []).length + 1) ((L[a]?.getD []).map i64 ++ [i64 x])) (hgrow : W1.grownBy w8 (lv a).ownBlock) (hat : v8.ownBlock = (lv a).ownBlock ∨ ∀ k, v8.ownBlock = some k → W1.heap.size ≤ k) :
    w8.cell? ⟨kb, a, none⟩ = some (lv a) ∧ w8.frozen? ⟨kb, a, none⟩ = false ∧ w8.cell? ⟨pb, 3, none⟩ = some (.slice (some ⟨kb, 0, none⟩) n n) ∧
    LkM (w8.setCell ⟨kb, a, none⟩ v8) B pb sp nb kb tv dv jv n g t (addAt L a x) (fun j => if j = a then v8 else lv j) ∧ Below B W (w8.setCell ⟨kb, a, none⟩ v8) ∧ MapsStay W (w8.setCell ⟨kb, a, none⟩ v8) := by
  have h1 := h.below hB
  have hl := h1.sets.lies
  have nb8 : ∀ k, k < W1.heap.size → (lv a).ownBlock ≠ some k → w8.heap[k]? = W1.heap[k]? := fun k hk hne => hgrow.block k hk (fun e => hne e.symm)
  have rp : (lv a).ownBlock ≠ some pb := rowIs_type h1.cells (by decide) (h1.rows a ha)
  have rk : (lv a).ownBlock ≠ some kb := rowIs_type h1.outer (by decide) (h1.rows a ha)
  have c8 : w8.rowIs pb 246 4 (pfC sp kb n tv dv) := h1.cells.of_block (nb8 _ h1.cells.lt rp)
  have o8 : w8.rowIs kb 39 n lv := h1.outer.of_block (nb8 _ h1.outer.lt rk)
  have s8 : St w8 B sp nb jv n g t := h1.sets.other (S := fun k => (lv a).ownBlock = some k) ⟨hgrow.os, hgrow.tape, hgrow.output, hgrow.size, fun k hk hne => nb8 k hk hne⟩ (rowIs_type hl.sets (by decide) (h1.rows a ha)) (rowIs_type hl.nodes (by decide) (h1.rows a ha)) (fun k hk e => ownsRow_ne2 hl.joins (h1.rows a ha) (by decide) hk e)
  have r8 : ∀ j, j < n → j ≠ a → w8.ownsRow B 3 1 (lv j) (L[j]?.getD []).length ((L[j]?.getD []).map i64) := fun j hj hne => ownsRow_blk (h1.rows j hj) (fun b hb => nb8 b (ownsRow_lt (h1.rows j hj) hb).2 (fun e => hne (h.dist j a b hj ha hb e)))
  have hk8 : v8.ownBlock ≠ some kb := rowIs_type o8 (by decide) hown
  have K9 : Kept (fun k => k = kb) w8 (w8.setCell ⟨kb, a, none⟩ v8) := Kept.setCell (S := fun k => k = kb) (Kept.refl _ w8) (p := ⟨kb, a, none⟩) rfl v8
  have nb9 : ∀ k, k < w8.heap.size → k ≠ kb → (w8.setCell ⟨kb, a, none⟩ v8).heap[k]? = w8.heap[k]? := fun k hk hne => K9.block k hk hne
  have hl8 := s8.lies
  refine ⟨o8.cell ha, o8.frozen a, by simpa [pfC] using c8.cell (i := 3) (by omega), ⟨c8.of_block (nb9 _ c8.lt (rowIs_neD c8 o8 (by decide))), s8.other K9 (rowIs_neD hl8.sets o8 (by decide)) (rowIs_neD hl8.nodes o8 (by decide)) (fun k hk e => rowIs_type o8 (by decide) hl8.joins (e ▸ hk)), ?_, fun j hj => ?_, fun i j b hi hj hbi hbj => ?_, by unfold addAt; rw [List.length_set]; exact h.len, h.bp, h.bk⟩, ?_, fun k es c hk => ?_⟩
  · exact (o8.set a v8).congr (fun j hj => rfl)
  · rw [addAt_get (by rw [h.len]; exact ha)]
    by_cases e : j = a
    · subst e
      rw [if_pos rfl, if_pos rfl, List.length_append, List.map_append]
      exact ownsRow_blk hown (fun b hb => nb9 b (ownsRow_lt hown hb).2 (fun e => hk8 (e ▸ hb)))
    · rw [if_neg e, if_neg e]
      exact ownsRow_blk (r8 j hj e) (fun b hb => nb9 b (ownsRow_lt (r8 j hj e) hb).2 (fun e2 => rowIs_type o8 (by decide) (r8 j hj e) (e2 ▸ hb)))
  · have key : ∀ j, j < n → j ≠ a → ∀ b, (lv j).ownBlock = some b → v8.ownBlock ≠ some b := fun j hj hne b hb e => by
      rcases hat with e2 | e2
      · exact hne (h.dist j a b hj ha hb (e2.symm.trans e))
      · have := e2 b e
        have := (ownsRow_lt (h1.rows j hj) hb).2
        omega
    by_cases e1 : i = a
    · by_cases e2 : j = a
      · omega
      · simp only [if_pos e1, if_neg e2] at hbi hbj
        exact absurd hbi (key j hj e2 b hbj)
    · by_cases e2 : j = a
      · simp only [if_neg e1, if_pos e2] at hbi hbj
        exact absurd hbj (key i hi e1 b hbi)
      · simp only [if_neg e1, if_neg e2] at hbi hbj
        exact h.dist i j b hi hj hbi hbj
  · have hz := h.sets.low
    refine ⟨K9.os.trans (hgrow.os.trans hB.os), K9.tape.trans (hgrow.tape.trans hB.tape), K9.output.trans (hgrow.output.trans hB.output), Nat.le_trans hB.size (Nat.le_trans hgrow.size K9.size), fun k hk => ?_⟩
    have hkw : k < W.heap.size := Nat.lt_of_lt_of_le hk hz
    have hk1 : k < W1.heap.size := Nat.lt_of_lt_of_le hkw hB.size
    rw [nb9 k (Nat.lt_of_lt_of_le hk1 hgrow.size) (by have := h.bk; omega), nb8 k hk1 (fun e => by have := (ownsRow_lt (h.rows a ha) e).1; omega), hB.block k hkw]
  · have hkw := (Array.getElem?_eq_some_iff.1 hk).1
    have hk1 : k < W1.heap.size := Nat.lt_of_lt_of_le hkw hB.size
    rw [nb9 k (Nat.lt_of_lt_of_le hk1 hgrow.size) (drow_map h.outer hk), nb8 k hk1 (down_map (h.rows a ha) hk), hB.block k hkw]
    exact hk

/-- A cell of a signature is set. -/
theorem LkM.setSig {W : World} {B pb sp nb kb n : Nat} {tv dv jv : Value} {g : Uf.G} {t : List Uf.Rec} {L : List (List Nat)} {lv : Nat → Value} (h : LkM W B pb sp nb kb tv dv jv n g t L lv) {sb : Nat} {c : Array Value} (hsb : W.heap[sb]? = some (.cells c 288)) (i : Nat) (v : Value) : LkM (W.setCell ⟨sb, i, none⟩ v) B pb sp nb kb tv dv jv n g t L lv := by
  have K : Kept (fun k => k = sb) W (W.setCell ⟨sb, i, none⟩ v) := Kept.setCell (S := fun k => k = sb) (Kept.refl _ W) (p := ⟨sb, i, none⟩) rfl v
  have ne : ∀ {b : Nat} {t : TypeId} {m : Nat} {f : Nat → Value}, W.rowIs b t m f → t ≠ 288 → b ≠ sb := fun {b t m f} hr hne e => by
    subst e
    obtain ⟨c1, hc1, _⟩ := hr
    rw [hc1] at hsb
    cases hsb
    exact hne rfl
  have neo : ∀ {base size m : Nat} {t : TypeId} {u : Value} {xs : List Value}, W.ownsRow base t size u m xs → t ≠ 288 → u.ownBlock ≠ some sb := fun {base size m t u xs} hr hne e => by
    rcases hr.2 with ⟨e1, _⟩ | ⟨g, cap, cur, e1, _, e2, _⟩
    · rw [e1] at e; simp [Value.ownBlock] at e
    · rw [e1] at e
      simp [Value.ownBlock] at e
      subst e
      rw [e2] at hsb
      cases hsb
      exact hne rfl
  have hl := h.sets.lies
  exact h.keep (h.sets.other K (ne hl.sets (by decide)) (ne hl.nodes (by decide)) (fun k hk e => neo hl.joins (by decide) (e ▸ hk))) (K.block _ h.cells.lt (ne h.cells (by decide))) (K.block _ h.outer.lt (ne h.outer (by decide))) (fun j b hj hb => K.block b (ownsRow_lt (h.rows j hj) hb).2 (fun e => neo (h.rows j hj) (by decide) (e ▸ hb)))

end Go.Proofs.YtlehlgipbhfioaaGreat

namespace Go.Proofs.YtlehlgipbhfioaaGreat
open Go.RowKit Go.Maps

theorem below_ad (w : World) (O : Obj) : Below w.heap.size w (w.alloc O).drew := ⟨rfl, rfl, rfl, by simp, fun _ hk => heap_alloc_old w O hk⟩

set_option maxRecDepth 100000 in
set_option maxHeartbeats 1000000 in
theorem link_in (w : World) (B pb sp nb kb : Nat) (tv dv jv : Value) (n : Nat) (g : Uf.G) (t : List Uf.Rec) (L : List (List Nat)) (lv : Nat → Value) (h : LkM w B pb sp nb kb tv dv jv n g t L lv) (a b : Nat) (ha : a < n) (hb : b < n) (hlen : ∀ r ∈ L, r.length ≤ 1048576) :
    Calls Tryz.prog 138 #[.pointer (some ⟨pb, 0, none⟩), .int .i64 (a : Int), .int .i64 (b : Int)] w fun e w' => e = .returned (.bool (Pf.link n ⟨g, L⟩ a b).1) ∧ ∃ jv' lv', LkM w' B pb sp nb kb tv dv jv' n (Pf.link n ⟨g, L⟩ a b).2.g (joinT n g t a b) (Pf.link n ⟨g, L⟩ a b).2.L lv' ∧ Below B w w' ∧ MapsStay w w' := by
  have x0 : w.cell? ⟨pb, 0, none⟩ = some (.pointer (some ⟨sp, 0, none⟩)) := h.cells.cell (i := 0) (by omega)
  have J := Join_st w B sp nb jv n g t h.sets a b
  have hn := h.sets.lies.small
  have HM : Hid _ := h
  cases hj : joins n g a b
  · rw [hj] at J
    have e1 : Pf.link n ⟨g, L⟩ a b = (false, ⟨g, L⟩) := by simp [Pf.link, hj]
    have e2 : joinG n g a b = g := by simp [joinG, hj]
    rw [e1]
    rw [e2] at J
    clear h hj e1 e2
    go_enter Tryz.func138, Tryz.ntmps138
    go_wp2_with (first | (go_at_call 71; refine J.mono ?_; rintro e w3 ⟨rfl, jv', hS, hK, _⟩; have HF : Hid (_ ∧ _ ∧ _) := HM.out.join hK hS))
    go_ret
    exact ⟨rfl, jv', lv, HF.out.1, HF.out.2⟩
  · rw [hj] at J
    have e1 : Pf.link n ⟨g, L⟩ a b = (true, ⟨joinG n g a b, addAt (addAt L a b) b a⟩) := by simp [Pf.link, hj]
    rw [e1]
    have hLl := h.len
    clear h hj e1
    go_enter Tryz.func138, Tryz.ntmps138
    go_wp2_with (first | (go_at_call 71; refine J.mono ?_; rintro e w3 ⟨rfl, jv', hS, hK, _⟩; refine Aside.out ?_))
    delta Aside
    obtain ⟨M3, B3⟩ := HM.out.join hK hS
    generalize htt : joinT n g t a b = t' at *
    have HTT : Hid _ := htt
    clear htt
    generalize hgg : joinG n g a b = g' at *
    have HGG : Hid _ := hgg
    clear hgg
    have HB3 : Hid _ := B3
    have HM3 : Hid _ := M3
    obtain ⟨i0, hi0, hz0, hz1, hz2⟩ := info_parts infoIntq
    have c3 : w3.cell? ⟨pb, 3, none⟩ = some (.slice (some ⟨kb, 0, none⟩) n n) := by simpa [pfC] using M3.cells.cell (i := 3) (by omega)
    obtain ⟨la, lc, hla⟩ := ownsRow_form (M3.rows a ha)
    have ca : w3.cell? ⟨kb, a, none⟩ = some (.slice la (L[a]?.getD []).length lc) := by rw [← hla]; exact M3.outer.cell ha
    have hbl : w3.heap.size = w3.heap.size := rfl
    have zp := M3.cells.lt
    have zk := M3.outer.lt
    have c3a : ∀ O, ((w3.drewN 1).alloc O).cell? ⟨pb, 3, none⟩ = some (.slice (some ⟨kb, 0, none⟩) n n) := fun O => (World.cell?_of_block (a := ⟨pb, 3, none⟩) (Below.heap_alloc _ O pb zp)).trans c3
    have caa : ∀ O, ((w3.drewN 1).alloc O).cell? ⟨kb, a, none⟩ = some (.slice la (L[a]?.getD []).length lc) := fun O => (World.cell?_of_block (a := ⟨kb, a, none⟩) (Below.heap_alloc _ O kb zk)).trans ca
    have hrl : (L[a]?.getD []).length ≤ 1048576 := by
      rw [List.getElem?_eq_getElem (by rw [hLl]; exact ha), Option.getD_some]
      exact hlen _ (List.getElem_mem _)
    have OW : Hid (w3.ownsRow B 3 1 (.slice la (L[a]?.getD []).length lc) (L[a]?.getD []).length ((L[a]?.getD []).map i64)) := by show _; rw [← hla]; exact M3.rows a ha
    have HLA : Hid _ := hla
    have hB0 : B ≤ w3.heap.size := M3.sets.low
    have da : decide ((a : Int) < (n : Int)) = true := decide_eq_true (by omega)
    have db : decide ((b : Int) < (n : Int)) = true := decide_eq_true (by omega)
    have HLEN : Hid _ := hlen
    generalize hwl : (L[a]?.getD []).length = wl at *
    have HWL : Hid _ := hwl
    clear J hS hK M3 B3 HM hla hwl hlen
    apply_assumption
    go_wp2_with fail
    go_cut [15] from 16 to 30 (fun _ wx => ∃ lv', LkM wx B pb sp nb kb tv dv jv' n g' t' (addAt L a b) lv' ∧ Below B w wx ∧ MapsStay w wx)
    case first =>
      go_region_law (first | (refine step_append_here rfl (.tmp 26) (.tmp 28) 39 rfl B 3 i0 _ 1 8 Tryz.underlying39 hi0 hz0 hz1 hz2 rfl (by decide) (.slice la wl lc) wl ((L[a]?.getD []).map i64) (by rfl) (by exact World.ownsRow.alloc OW.out _) ⟨w3.heap.size, 0, none⟩ 1 1 [.int .i64 (b : Int)] (by rfl) rfl (cell_one1 _ _ _) (by simp [Value.oneCell']) (by unfold maxLen; omega) (by omega) (by simp; omega) ?_; intro v8 w8 hown8 hgrow8 hloc8; obtain ⟨b8, k8, hv8⟩ := ownsRow_succ hown8; obtain ⟨d1, d2, d3, d4, d5⟩ := HM3.out.grow ha (W1 := (w3.alloc (.cells #[.int .i64 (b : Int)] 3)).drew) (below_ad w3 _) (x := b) (by rw [HWL.out]; exact hown8) (by rw [HLA.out]; exact hgrow8) (by rw [HLA.out]; exact hloc8); rw [HLA.out] at d1; have HF : Hid (_ ∧ _) := And.intro d4 d5; subst hv8; clear hown8 hgrow8 hloc8 d4 d5))
      all_goals
        try simp only [Act.put, List.getElem_toArray, List.getElem_cons_succ, List.getElem_cons_zero, List.setIfInBounds_toArray, List.set_cons_succ, List.set_cons_zero]
        go_wp2_with fail
        go_meet
        case rel => exact ⟨_, HF.out.1, HB3.out.1.trans HF.out.2.1, HB3.out.2.trans HF.out.2.2⟩
    case rest =>
      obtain ⟨lv3, M3, B3⟩ := hcut
      clear OW ca caa c3a c3 zp zk HLA HWL hrl hB0 HM3 HB3
      have HB3 : Hid _ := B3
      have HM3 : Hid _ := M3
      have hL2 : (addAt L a b).length = n := M3.len
      have c3 : wc.cell? ⟨pb, 3, none⟩ = some (.slice (some ⟨kb, 0, none⟩) n n) := by simpa [pfC] using M3.cells.cell (i := 3) (by omega)
      obtain ⟨la', lc', hla⟩ := ownsRow_form (M3.rows b hb)
      have ca : wc.cell? ⟨kb, b, none⟩ = some (.slice la' ((addAt L a b)[b]?.getD []).length lc') := by rw [← hla]; exact M3.outer.cell hb
      have zp := M3.cells.lt
      have zk := M3.outer.lt
      have c3a : ∀ O, ((wc.drewN 1).alloc O).cell? ⟨pb, 3, none⟩ = some (.slice (some ⟨kb, 0, none⟩) n n) := fun O => (World.cell?_of_block (a := ⟨pb, 3, none⟩) (Below.heap_alloc _ O pb zp)).trans c3
      have caa : ∀ O, ((wc.drewN 1).alloc O).cell? ⟨kb, b, none⟩ = some (.slice la' ((addAt L a b)[b]?.getD []).length lc') := fun O => (World.cell?_of_block (a := ⟨kb, b, none⟩) (Below.heap_alloc _ O kb zk)).trans ca
      have hrl : ((addAt L a b)[b]?.getD []).length ≤ 1048577 := by
        rw [addAt_get (by rw [hLl]; exact ha)]
        have h1 : ∀ k, k < n → (L[k]?.getD []).length ≤ 1048576 := fun k hk => by
          rw [List.getElem?_eq_getElem (by rw [hLl]; exact hk), Option.getD_some]
          exact HLEN.out _ (List.getElem_mem _)
        have h2 := h1 a ha
        have h3 := h1 b hb
        split
        · simp; omega
        · omega
      have OW : Hid (wc.ownsRow B 3 1 (.slice la' ((addAt L a b)[b]?.getD []).length lc') ((addAt L a b)[b]?.getD []).length (((addAt L a b)[b]?.getD []).map i64)) := by show _; rw [← hla]; exact M3.rows b hb
      have HLA : Hid _ := hla
      have hB0 : B ≤ wc.heap.size := M3.sets.low
      generalize hwl : ((addAt L a b)[b]?.getD []).length = wl2 at *
      have HWL : Hid _ := hwl
      clear M3 B3 hla hwl
      obtain ⟨w4, rfl⟩ : ∃ w4, w4 = wc := ⟨_, rfl⟩
      go_wp2_with fail
      go_cut [31] from 32 to 46 (fun _ wx => ∃ lv', LkM wx B pb sp nb kb tv dv jv' n g' t' (addAt (addAt L a b) b a) lv' ∧ Below B w wx ∧ MapsStay w wx)
      case first =>
        go_region_law (first | (refine step_append_here rfl (.tmp 42) (.tmp 44) 39 rfl B 3 i0 _ 1 8 Tryz.underlying39 hi0 hz0 hz1 hz2 rfl (by decide) (.slice la' wl2 lc') wl2 (((addAt L a b)[b]?.getD []).map i64) (by rfl) (by exact World.ownsRow.alloc OW.out _) ⟨w4.heap.size, 0, none⟩ 1 1 [.int .i64 (a : Int)] (by rfl) rfl (cell_one1 _ _ _) (by simp [Value.oneCell']) (by unfold maxLen; omega) (by omega) (by simp; omega) ?_; intro v8 w8 hown8 hgrow8 hloc8; obtain ⟨b8, k8, hv8⟩ := ownsRow_succ hown8; obtain ⟨d1, d2, d3, d4, d5⟩ := HM3.out.grow hb (W1 := (w4.alloc (.cells #[.int .i64 (a : Int)] 3)).drew) (below_ad w4 _) (x := a) (by rw [HWL.out]; exact hown8) (by rw [HLA.out]; exact hgrow8) (by rw [HLA.out]; exact hloc8); rw [HLA.out] at d1; have HF : Hid (_ ∧ _) := And.intro d4 d5; subst hv8; clear hown8 hgrow8 hloc8 d4 d5))
        all_goals
          try simp only [Act.put, List.getElem_toArray, List.getElem_cons_succ, List.getElem_cons_zero, List.setIfInBounds_toArray, List.set_cons_succ, List.set_cons_zero]
          go_wp2_with fail
          go_meet
          case rel => exact ⟨_, HF.out.1, HB3.out.1.trans HF.out.2.1, HB3.out.2.trans HF.out.2.2⟩
      case rest =>
        obtain ⟨lv4, M4, B4⟩ := hcut
        have HF : Hid (_ ∧ _) := And.intro M4 B4
        clear M4 B4 HM3 HB3 OW ca caa c3 c3a HLA HWL
        go_wp2_with fail
        go_ret
        have HF1 := HF.out.1
        rw [← HGG.out, ← HTT.out] at HF1
        exact ⟨rfl, _, _, HF1, HF.out.2⟩
end Go.Proofs.YtlehlgipbhfioaaGreat
