/- Package decide, plainly: links, and ways along them. Package decide, plainly: the steps of a proof force its goal. Package decide, plainly: path. Package decide, plainly: steps. Package decide, plainly: newProof: links by what was told and by args. Package decide: pairs in memory: slices.Contains, addPairs. Package decide, plainly: variables, and steps as lemmas. Package decide: newStep. -/
import Derived.Test.YtlehlgipbhfioaaGreatP10
import Derived.Test.YtlehlgipbhfioaaGreatP04
import Derived.Test.YtlehlgipbhfioaaGreatP00
import Derived.Shelf.SlicesQ.Contains
import Derived.Laws.StructEq
import Derived.Maps.AppendAt
import Derived.Laws.CopyRow
import Derived.Laws.IdiomCopy
import Derived.Deep.WholeRow
namespace Go.Proofs.YtlehlgipbhfioaaGreat
open Go.RowKit Go.Maps

abbrev Edges := List (Nat × Nat)
def AdjE (E : Edges) (a b : Nat) : Prop := (a, b) ∈ E ∨ (b, a) ∈ E
inductive Conn (E : Edges) : Nat → Nat → Prop
  | refl (a : Nat) : Conn E a a
  | step {a b c : Nat} : Conn E a b → AdjE E b c → Conn E a c
theorem AdjE.symm {E : Edges} {a b : Nat} (h : AdjE E a b) : AdjE E b a := Or.symm h
theorem Conn.trans {E : Edges} {a b c : Nat} (h : Conn E a b) (k : Conn E b c) : Conn E a c := by
  induction k with
  | refl => exact h
  | step _ e ih => exact .step ih e
theorem Conn.symm {E : Edges} {a b : Nat} (h : Conn E a b) : Conn E b a := by
  induction h with
  | refl => exact .refl _
  | step _ e ih => exact (Conn.step (.refl _) e.symm).trans ih
theorem Conn.mono {E F : Edges} (hs : ∀ e ∈ E, e ∈ F) {a b : Nat} (h : Conn E a b) : Conn F a b := by
  induction h with
  | refl => exact .refl _
  | step _ e ih => exact .step ih (e.imp (hs _) (hs _))
theorem Conn.one {E : Edges} {a b : Nat} (h : AdjE E a b) : Conn E a b := .step (.refl _) h

/-- A way: each is linked with the next. -/
def Pth (E : Edges) : List Nat → Prop
  | a :: b :: r => AdjE E a b ∧ Pth E (b :: r)
  | _ => True
theorem Pth.conn {E : Edges} : ∀ {p : List Nat} {a b : Nat}, Pth E (a :: p) → (a :: p).getLast? = some b → Conn E a b
  | [], a, b, _, hl => by simp at hl; rw [hl]; exact .refl _
  | c :: p, a, b, h, hl => by
    have hl2 : (c :: p).getLast? = some b := by simpa using hl
    exact (Conn.one h.1).trans (Pth.conn h.2 hl2)
theorem AdjE.cut {E : Edges} {u v a b : Nat} (h : AdjE (E ++ [(u, v)]) a b) : AdjE E a b ∨ a = u ∧ b = v ∨ a = v ∧ b = u := by
  unfold AdjE at h ⊢
  simp only [List.mem_append, List.mem_singleton, Prod.mk.injEq] at h
  rcases h with (h | h) | (h | h)
  · exact Or.inl (Or.inl h)
  · exact Or.inr (Or.inl h)
  · exact Or.inl (Or.inr h)
  · exact Or.inr (Or.inr ⟨h.2, h.1⟩)
theorem Pth.without {E : Edges} {u v : Nat} : ∀ {p : List Nat}, Pth (E ++ [(u, v)]) p → (u ∉ p ∨ v ∉ p) → Pth E p
  | [], _, _ => trivial
  | [_], _, _ => trivial
  | a :: b :: r, h, hn => by
    refine ⟨?_, Pth.without h.2 (hn.imp (fun x y => x (List.mem_cons_of_mem _ y)) (fun x y => x (List.mem_cons_of_mem _ y)))⟩
    rcases h.1.cut with e | ⟨e1, e2⟩ | ⟨e1, e2⟩
    · exact e
    · subst e1; subst e2; exfalso; rcases hn with x | x <;> simp at x
    · subst e1; subst e2; exfalso; rcases hn with x | x <;> simp at x
/-- The last link is on no simple way between two that were linked before. -/
theorem Pth.split {E : Edges} {u v : Nat} : ∀ {p : List Nat} {a b : Nat}, Pth (E ++ [(u, v)]) (a :: p) → (a :: p).Nodup → (a :: p).getLast? = some b → Pth E (a :: p) ∨ Conn E a u ∧ Conn E v b ∨ Conn E a v ∧ Conn E u b
  | [], a, b, _, _, _ => Or.inl trivial
  | c :: p, a, b, h, hn, hl => by
    have hl2 : (c :: p).getLast? = some b := by simpa using hl
    have hn2 := List.nodup_cons.1 hn
    rcases h.1.cut with e | ⟨rfl, rfl⟩ | ⟨rfl, rfl⟩
    · rcases Pth.split h.2 hn2.2 hl2 with k | ⟨k1, k2⟩ | ⟨k1, k2⟩
      · exact Or.inl ⟨e, k⟩
      · exact Or.inr (Or.inl ⟨(Conn.one e).trans k1, k2⟩)
      · exact Or.inr (Or.inr ⟨(Conn.one e).trans k1, k2⟩)
    · exact Or.inr (Or.inl ⟨.refl _, (Pth.without h.2 (Or.inl hn2.1)).conn hl2⟩)
    · exact Or.inr (Or.inr ⟨.refl _, (Pth.without h.2 (Or.inr hn2.1)).conn hl2⟩)
/-- Links that came one after the other, each between two that were apart. -/
def Grew1 (E : Edges) : Prop := ∀ t (h : t < E.length), ¬ Conn (E.take t) (E[t]).1 (E[t]).2
theorem Grew1.path {E : Edges} (hE : Grew1 E) {p : List Nat} {a b : Nat} (hn : (a :: p).Nodup) (hl : (a :: p).getLast? = some b) (t : Nat) (hc : Conn (E.take t) a b) : ∀ k, Pth (E.take (t + k)) (a :: p) → Pth (E.take t) (a :: p)
  | 0, h => h
  | k + 1, h => by
    by_cases hk : t + k < E.length
    · have e : E.take (t + (k + 1)) = E.take (t + k) ++ [((E[t + k]).1, (E[t + k]).2)] := by
        rw [← Nat.add_assoc, List.take_add_one, List.getElem?_eq_getElem hk]; rfl
      rw [e] at h
      have hc2 : Conn (E.take (t + k)) a b := hc.mono (fun x hx => List.take_subset_take_left E (by omega) hx)
      refine Grew1.path hE hn hl t hc k ?_
      rcases Pth.split h hn hl with k1 | ⟨k1, k2⟩ | ⟨k1, k2⟩
      · exact k1
      · exact absurd (k1.symm.trans (hc2.trans k2.symm)) (hE _ hk)
      · exact absurd ((k2.trans (hc2.symm)).trans k1) (hE _ hk)
    · have e : E.take (t + (k + 1)) = E.take (t + k) := by rw [List.take_of_length_le (by omega), List.take_of_length_le (by omega)]
      rw [e] at h
      exact Grew1.path hE hn hl t hc k h
theorem Grew1.way {E : Edges} (hE : Grew1 E) {p : List Nat} {a b : Nat} (hn : (a :: p).Nodup) (hl : (a :: p).getLast? = some b) (hp : Pth E (a :: p)) (t : Nat) (hc : Conn (E.take t) a b) : Pth (E.take t) (a :: p) := by
  refine hE.path hn hl t hc E.length ?_
  rw [List.take_of_length_le (by omega)]
  exact hp

end Go.Proofs.YtlehlgipbhfioaaGreat

namespace Go.Proofs.YtlehlgipbhfioaaGreat
open Go.RowKit Go.Maps

abbrev Pr := Nat × Nat
def ordP (a b : Nat) : Pr := (min a b, max a b)
theorem ordP_comm (a b : Nat) : ordP a b = ordP b a := by unfold ordP; rw [Nat.min_comm, Nat.max_comm]
theorem ordP_self {p : Pr} (h : p.1 ≤ p.2) : ordP p.1 p.2 = p := by unfold ordP; rw [Nat.min_eq_left h, Nat.max_eq_right h]

/-- For a goal, the way to it and its steps are there. -/
structure WayIs (E : Edges) (told goals : List Pr) (steps : List (Pr × List Pr)) (argp : Pr → List Pr) (g : Pr) (p : List Nat) : Prop where
  nd : (g.1 :: p).Nodup
  last : (g.1 :: p).getLast? = some g.2
  pth : Pth E (g.1 :: p)
  link : ∀ k x y : Nat, (g.1 :: p)[k]? = some x → (g.1 :: p)[k + 1]? = some y → ordP x y ∈ told ∨ ((ordP x y, argp (ordP x y)) ∈ steps ∧ ∀ q ∈ argp (ordP x y), q ∈ goals)
  pre : ∀ k x y : Nat, 1 ≤ k → (g.1 :: p)[k]? = some x → (g.1 :: p)[k + 1]? = some y → (ordP g.1 y, [ordP g.1 x, ordP x y]) ∈ steps

theorem Pth.at {E : Edges} : ∀ {p : List Nat} {k x y : Nat}, Pth E p → p[k]? = some x → p[k + 1]? = some y → AdjE E x y
  | [], _, _, _, _, h, _ => by simp at h
  | [_], k, _, _, _, _, h => by simp at h
  | a :: b :: r, 0, x, y, h, h1, h2 => by simp at h1 h2; subst h1; subst h2; exact h.1
  | a :: b :: r, k + 1, x, y, h, h1, h2 => Pth.at (p := b :: r) (k := k) h.2 (by simpa using h1) (by simpa using h2)

theorem steps_force {E : Edges} (hE : Grew1 E) {told goals : List Pr} {steps : List (Pr × List Pr)} {argp : Pr → List Pr} {F : Pr → Prop} (hr : ∀ a, F (a, a)) (ht : ∀ p ∈ told, F p)
    (hs : ∀ st ∈ steps, (∀ q ∈ st.2, F q) → F st.1) (ho : ∀ p, ∀ q ∈ argp p, q.1 ≤ q.2)
    (he : ∀ s (h : s < E.length), ordP (E[s]).1 (E[s]).2 ∈ told ∨ ∀ q ∈ argp (ordP (E[s]).1 (E[s]).2), Conn (E.take s) q.1 q.2)
    (hg : ∀ g ∈ goals, ∃ p, WayIs E told goals steps argp g p) (t : Nat) : ∀ g ∈ goals, Conn (E.take t) g.1 g.2 → F (ordP g.1 g.2) := by
  induction t using Nat.strongRecOn with
  | ind t ih =>
    intro g hgg hc
    obtain ⟨p, hp⟩ := hg g hgg
    have hway := hE.way hp.nd hp.last hp.pth t hc
    have edge : ∀ k x y : Nat, (g.1 :: p)[k]? = some x → (g.1 :: p)[k + 1]? = some y → F (ordP x y) := fun k x y h1 h2 => by
      rcases hp.link k x y h1 h2 with h | ⟨h, h3⟩
      · exact ht _ h
      · have hadj := hway.at h1 h2
        have hidx : ∃ s, s < t ∧ ∃ hs : s < E.length, ordP (E[s]).1 (E[s]).2 = ordP x y := by
          have fin : ∀ e, e ∈ E.take t → ∃ s, s < t ∧ ∃ hs : s < E.length, E[s] = e := fun e hm => by
            obtain ⟨s, hs1, hs2⟩ := List.mem_iff_getElem.1 hm
            have h5 : s < t ∧ s < E.length := by simpa [List.length_take, Nat.lt_min] using hs1
            exact ⟨s, h5.1, h5.2, by simpa using hs2⟩
          rcases hadj with h | h
          · obtain ⟨s, h1, h2, h3⟩ := fin _ h
            exact ⟨s, h1, h2, by rw [h3]⟩
          · obtain ⟨s, h1, h2, h3⟩ := fin _ h
            exact ⟨s, h1, h2, by rw [h3]; exact ordP_comm _ _⟩
        obtain ⟨s, hst, hsE, hse⟩ := hidx
        have := he s hsE
        rw [hse] at this
        rcases this with h5 | h5
        · exact ht _ h5
        · refine hs _ h (fun q hq => ?_)
          have h6 := ih s hst q (h3 q hq) (h5 q hq)
          rwa [ordP_self (ho _ q hq)] at h6
    have pre : ∀ k x : Nat, (g.1 :: p)[k]? = some x → F (ordP g.1 x) := by
      intro k
      induction k with
      | zero =>
        intro x hx
        simp at hx
        subst hx
        unfold ordP
        rw [Nat.min_self, Nat.max_self]
        exact hr _
      | succ k ih2 =>
        intro y hy
        have hk : k < (g.1 :: p).length := by
          have := (List.getElem?_eq_some_iff.1 hy).1
          omega
        have hx := List.getElem?_eq_getElem hk
        by_cases hk0 : k = 0
        · subst hk0
          have := edge 0 _ y hx hy
          simpa using this
        · refine hs _ (hp.pre k _ y (by omega) hx hy) (fun q hq => ?_)
          simp at hq
          rcases hq with rfl | rfl
          · exact ih2 _ hx
          · exact edge k _ y hx hy
    have hl := hp.last
    rw [List.getLast?_eq_getElem?] at hl
    exact pre _ _ hl

end Go.Proofs.YtlehlgipbhfioaaGreat

namespace Go.Proofs.YtlehlgipbhfioaaGreat
open Go.RowKit Go.Maps

/-- The neighbours of one term are come to. -/
def bfsIn (t : Nat) : List Nat → List Nat → List Nat → List Nat × List Nat
  | [], nx, td => (nx, td)
  | n :: ns, nx, td => if nx[n]?.getD 0 = 0 then bfsIn t ns (nx.set n (t + 1)) (td ++ [n]) else bfsIn t ns nx td
def bfs (L : List (List Nat)) (a : Nat) : Nat → List Nat → List Nat → Option (List Nat)
  | 0, _, _ => none
  | f + 1, nx, td => if nx[a]?.getD 0 ≠ 0 then some nx else match td with
    | [] => none
    | t :: r => bfs L a f (bfsIn t (L[t]?.getD []) nx (t :: r)).1 (bfsIn t (L[t]?.getD []) nx (t :: r)).2.tail
def wayTo (nx : List Nat) (b : Nat) : Nat → Nat → Option (List Nat)
  | 0, _ => none
  | f + 1, n => if n = b then some [] else (wayTo nx b f (nx[n]?.getD 0 - 1)).map ((nx[n]?.getD 0 - 1) :: ·)
def pathN (L : List (List Nat)) (a b : Nat) : Option (List Nat) :=
  match bfs L a (L.length + 2) ((List.replicate L.length 0).set b (b + 1)) [b] with
  | none => none
  | some nx => (wayTo nx b (L.length + 1) a).map (a :: ·)

structure Bf (L : List (List Nat)) (b : Nat) (nx td done : List Nat) : Prop where
  len : nx.length = L.length
  nd : (done ++ td).Nodup
  mem : ∀ x, x ∈ done ++ td ↔ (x < L.length ∧ nx[x]?.getD 0 ≠ 0)
  root : nx[b]?.getD 0 = b + 1
  par : ∀ i x : Nat, (done ++ td)[i]? = some x → x ≠ b → ∃ j y : Nat, j < i ∧ (done ++ td)[j]? = some y ∧ nx[x]?.getD 0 = y + 1 ∧ x ∈ L[y]?.getD []
  clos : ∀ x ∈ done, ∀ y ∈ L[x]?.getD [], y ∈ done ++ td

theorem Bf.inn {L : List (List Nat)} {b t : Nat} {r done : List Nat} : ∀ (ns nx td : List Nat), (∀ n ∈ ns, n < L.length ∧ n ∈ L[t]?.getD []) → Bf L b nx td done → t ∈ done ++ td → (∃ u, td = t :: r ++ u) →
    Bf L b (bfsIn t ns nx td).1 (bfsIn t ns nx td).2 done ∧ (∃ u, (bfsIn t ns nx td).2 = t :: r ++ u) ∧ (∀ x, x ∈ td → x ∈ (bfsIn t ns nx td).2) ∧ ∀ n ∈ ns, n ∈ done ++ (bfsIn t ns nx td).2
  | [], nx, td, _, h, _, hu => ⟨h, hu, fun _ h => h, by simp⟩
  | n :: ns, nx, td, hn, h, ht, hu => by
    obtain ⟨hnl, hnt⟩ := hn n (by simp)
    rw [bfsIn]
    by_cases h0 : nx[n]?.getD 0 = 0
    · rw [if_pos h0]
      have hnew : n ∉ done ++ td := fun hm => ((h.mem n).1 hm).2 h0
      have hS : ∀ x, (nx.set n (t + 1))[x]?.getD 0 = if x = n then t + 1 else nx[x]?.getD 0 := fun x => by
        by_cases e : x = n
        · subst e; rw [if_pos rfl, List.getElem?_set_self (by rw [h.len]; exact hnl)]; rfl
        · rw [if_neg e, List.getElem?_set_ne (fun e2 => e e2.symm)]
      have hbn : b ≠ n := fun e => by have := h.root; rw [e, h0] at this; omega
      have e1 : done ++ (td ++ [n]) = (done ++ td) ++ [n] := by simp
      obtain ⟨u, hu⟩ := hu
      have h' : Bf L b (nx.set n (t + 1)) (td ++ [n]) done := by
        refine ⟨by rw [List.length_set, h.len], ?_, fun x => ?_, ?_, fun i x hx hxb => ?_, fun x hx y hy => ?_⟩
        · rw [e1, List.nodup_append]
          refine ⟨h.nd, by simp, fun x hx y hy => ?_⟩
          simp at hy
          subst hy
          exact fun e => hnew (e ▸ hx)
        · rw [e1, hS, List.mem_append, h.mem, List.mem_singleton]
          by_cases e : x = n
          · subst e; simp [hnl]
          · simp [e]
        · rw [hS, if_neg hbn]; exact h.root
        · rw [e1] at hx ⊢
          obtain ⟨ti, ht1, ht2⟩ := List.mem_iff_getElem.1 ht
          by_cases hi : i < (done ++ td).length
          · rw [List.getElem?_append_left hi] at hx
            obtain ⟨j, y, h1, h2, h3, h4⟩ := h.par i x hx hxb
            have hxn : x ≠ n := fun e => hnew (e ▸ List.mem_of_getElem? hx)
            refine ⟨j, y, h1, ?_, ?_, h4⟩
            · rw [List.getElem?_append_left (by omega)]; exact h2
            · rw [hS, if_neg hxn]; exact h3
          · have hi2 : i = (done ++ td).length := by
              have := (List.getElem?_eq_some_iff.1 hx).1
              simp at this hi ⊢; omega
            rw [hi2, List.getElem?_append_right (Nat.le_refl _)] at hx
            simp at hx
            subst hx
            refine ⟨ti, t, by rw [hi2]; exact ht1, ?_, ?_, hnt⟩
            · rw [List.getElem?_append_left ht1, List.getElem?_eq_getElem ht1, ht2]
            · rw [hS, if_pos rfl]
        · rw [e1]
          exact List.mem_append_left _ (h.clos x hx y hy)
      obtain ⟨r1, r2, r3, r4⟩ := Bf.inn (r := r) ns _ _ (fun m hm => hn m (by simp [hm])) h' (by rw [e1]; exact List.mem_append_left _ ht) ⟨u ++ [n], by rw [hu]; simp⟩
      refine ⟨r1, r2, fun x hx => r3 x (by simp [hx]), fun m hm => ?_⟩
      rcases List.mem_cons.1 hm with rfl | hm
      · exact List.mem_append_right _ (r3 _ (by simp))
      · exact r4 m hm
    · rw [if_neg h0]
      obtain ⟨r1, r2, r3, r4⟩ := Bf.inn ns nx td (fun m hm => hn m (by simp [hm])) h ht hu
      refine ⟨r1, r2, r3, fun m hm => ?_⟩
      rcases List.mem_cons.1 hm with rfl | hm
      · rcases List.mem_append.1 ((h.mem _).2 ⟨hnl, h0⟩) with h5 | h5
        · exact List.mem_append_left _ h5
        · exact List.mem_append_right _ (r3 _ h5)
      · exact r4 m hm

theorem nodup_le {l : List Nat} {n : Nat} (hn : l.Nodup) (hl : ∀ x ∈ l, x < n) : l.length ≤ n := by
  have h := List.Nodup.length_le_of_subset hn (l₂ := List.range n) (fun x hx => List.mem_range.2 (hl x hx))
  simpa using h

/-- The links as lists say what the links are. -/
structure LnkIs (L : List (List Nat)) (E : Edges) : Prop where
  adj : ∀ x y : Nat, y ∈ L[x]?.getD [] ↔ AdjE E x y
  lt : ∀ x y : Nat, y ∈ L[x]?.getD [] → y < L.length

theorem bfs_ok {L : List (List Nat)} {E : Edges} (hL : LnkIs L E) {a b : Nat} (hab : Conn E b a) (ha : a < L.length) : ∀ (f : Nat) (nx td done : List Nat), Bf L b nx td done → b ∈ done ++ td → L.length + 1 ≤ f + done.length →
    ∃ nx' td' done', bfs L a f nx td = some nx' ∧ Bf L b nx' td' done' ∧ nx'[a]?.getD 0 ≠ 0
  | 0, nx, td, done, h, _, hf => by
    have := nodup_le (l := done) (h.nd.sublist (List.sublist_append_left _ _)) (fun x hx => ((h.mem x).1 (List.mem_append_left _ hx)).1)
    omega
  | f + 1, nx, td, done, h, hb, hf => by
    rw [bfs.eq_def]
    simp only
    by_cases h0 : nx[a]?.getD 0 ≠ 0
    · rw [if_pos h0]
      exact ⟨nx, td, done, rfl, h, h0⟩
    · rw [if_neg h0]
      match td, h, hb with
      | [], h, hb =>
        exfalso
        rw [List.append_nil] at hb
        have key : ∀ y, Conn E b y → y ∈ done := fun y hy => by
          induction hy with
          | refl => exact hb
          | step _ e ih => simpa using h.clos _ ih _ ((hL.adj _ _).2 e)
        exact h0 ((h.mem a).1 (List.mem_append_left _ (key a hab))).2
      | t :: r, h, hb =>
        have ht : t ∈ done ++ t :: r := by simp
        have htl : t < L.length := ((h.mem t).1 ht).1
        obtain ⟨r1, ⟨u, hu⟩, r3, r4⟩ := Bf.inn (r := r) (L[t]?.getD []) nx (t :: r) (fun n hn => ⟨hL.lt t n hn, hn⟩) h ht ⟨[], by simp⟩
        simp only
        have e : done ++ (bfsIn t (L[t]?.getD []) nx (t :: r)).2 = (done ++ [t]) ++ (bfsIn t (L[t]?.getD []) nx (t :: r)).2.tail := by rw [hu]; simp
        refine bfs_ok hL hab ha f _ _ (done ++ [t]) ⟨r1.len, e ▸ r1.nd, e ▸ r1.mem, r1.root, e ▸ r1.par, fun x hx y hy => ?_⟩ ?_ (by simp; omega)
        · rw [← e]
          rcases List.mem_append.1 hx with hx | hx
          · exact r1.clos x hx y hy
          · simp at hx
            subst hx
            exact r4 y hy
        · rw [← e]
          rcases List.mem_append.1 hb with hb | hb
          · exact List.mem_append_left _ hb
          · exact List.mem_append_right _ (r3 _ hb)

theorem wayTo_ok {L : List (List Nat)} {b : Nat} {nx td done : List Nat} (h : Bf L b nx td done) : ∀ (f i x : Nat), (done ++ td)[i]? = some x → i < f →
    ∃ p, wayTo nx b f x = some p ∧ (x :: p).getLast? = some b ∧ (∀ z ∈ p, ∃ j : Nat, j < i ∧ (done ++ td)[j]? = some z) ∧ (x :: p).Nodup ∧ ∀ k u v : Nat, (x :: p)[k]? = some u → (x :: p)[k + 1]? = some v → u ∈ L[v]?.getD []
  | 0, _, _, _, h => by omega
  | f + 1, i, x, hx, hf => by
    rw [wayTo]
    by_cases e : x = b
    · rw [if_pos e]
      exact ⟨[], rfl, by simp [e], by simp, by simp, fun k u v h1 h2 => by simp at h2⟩
    · rw [if_neg e]
      obtain ⟨j, y, h1, h2, h3, h4⟩ := h.par i x hx e
      obtain ⟨p, g1, g2, g3, g4, g5⟩ := wayTo_ok h f j y h2 (by omega)
      rw [h3, Nat.add_sub_cancel, g1]
      have hidx : ∀ z ∈ y :: p, ∃ j : Nat, j < i ∧ (done ++ td)[j]? = some z := fun z hz => by
        rcases List.mem_cons.1 hz with rfl | hz
        · exact ⟨j, h1, h2⟩
        · obtain ⟨j', h5, h6⟩ := g3 z hz
          exact ⟨j', by omega, h6⟩
      refine ⟨y :: p, rfl, by rw [List.getLast?_cons_cons]; exact g2, hidx, List.nodup_cons.2 ⟨fun hm => ?_, g4⟩, fun k u v hk hk2 => ?_⟩
      · obtain ⟨j', h5, h6⟩ := hidx x hm
        have hi : i < (done ++ td).length := (List.getElem?_eq_some_iff.1 hx).1
        have e1 := (List.getElem?_eq_some_iff.1 h6).2
        have e2 := (List.getElem?_eq_some_iff.1 hx).2
        have h7 := List.pairwise_iff_getElem.1 h.nd j' i (by omega) hi h5
        exact h7 (e1.trans e2.symm)
      · cases k with
        | zero => simp at hk hk2; subst hk; subst hk2; exact h4
        | succ k => exact g5 k u v (by simpa using hk) (by simpa using hk2)

theorem Pth.of {E : Edges} : ∀ {p : List Nat}, (∀ k u v : Nat, p[k]? = some u → p[k + 1]? = some v → AdjE E u v) → Pth E p
  | [], _ => trivial
  | [_], _ => trivial
  | a :: b :: r, h => ⟨h 0 a b rfl rfl, Pth.of (p := b :: r) (fun k u v h1 h2 => h (k + 1) u v (by simpa using h1) (by simpa using h2))⟩

/-- path answers a simple way. -/
theorem path_ok {L : List (List Nat)} {E : Edges} (hL : LnkIs L E) {a b : Nat} (hab : Conn E a b) (ha : a < L.length) (hb : b < L.length) :
    ∃ p, pathN L a b = some (a :: p) ∧ (a :: p).Nodup ∧ (a :: p).getLast? = some b ∧ Pth E (a :: p) ∧ ∀ x ∈ a :: p, x < L.length := by
  have hS : ∀ x, ((List.replicate L.length 0).set b (b + 1))[x]?.getD 0 = if x = b then b + 1 else 0 := fun x => by
    by_cases e : x = b
    · subst e; rw [if_pos rfl, List.getElem?_set_self (by simpa using hb)]; rfl
    · rw [if_neg e, List.getElem?_set_ne (fun e2 => e e2.symm), List.getElem?_replicate]
      split <;> rfl
  have h0 : Bf L b ((List.replicate L.length 0).set b (b + 1)) [b] [] := by
    refine ⟨by simp, by simp, fun x => ?_, by rw [hS, if_pos rfl], fun i x hx hxb => ?_, by simp⟩
    · rw [hS]
      by_cases e : x = b
      · subst e; simp [hb]
      · simp [e]
    · exfalso
      have := List.mem_of_getElem? hx
      simp at this
      exact hxb this
  obtain ⟨nx, td, done, e1, e2, e3⟩ := bfs_ok hL hab.symm ha (L.length + 2) _ [b] [] h0 (by simp) (by simp)
  obtain ⟨i, hi, he⟩ := List.mem_iff_getElem.1 ((e2.mem a).2 ⟨ha, e3⟩)
  have hlen := nodup_le e2.nd (fun x hx => ((e2.mem x).1 hx).1)
  obtain ⟨p, g1, g2, g3, g4, g5⟩ := wayTo_ok e2 (L.length + 1) i a (by rw [List.getElem?_eq_getElem hi, he]) (by omega)
  refine ⟨p, by unfold pathN; rw [e1]; simp only; rw [g1]; rfl, g4, g2, Pth.of (fun k u v h1 h2 => ((hL.adj v u).1 (g5 k u v h1 h2)).symm), fun x hx => ?_⟩
  rcases List.mem_cons.1 hx with rfl | hx
  · exact ha
  · obtain ⟨j, _, hj⟩ := g3 x hx
    exact ((e2.mem x).1 (List.mem_of_getElem? hj)).1

end Go.Proofs.YtlehlgipbhfioaaGreat

namespace Go.Proofs.YtlehlgipbhfioaaGreat
open Go.RowKit Go.Maps

def addP (l : List Pr) : List Pr → List Pr
  | [] => l
  | a :: r => addP (if a ∈ l then l else l ++ [a]) r
abbrev Stq := Pr × List Pr
/-- The steps along a way; t: whether it is the first link. -/
def stepsK (told : List Pr) (argp : Pr → List Pr) (a : Nat) : Bool → List Nat → List Stq → List Pr → List Stq × List Pr
  | t, x :: y :: r, S, G =>
    stepsK told argp a false (y :: r)
      ((if ordP x y ∈ told then S else S ++ [(ordP x y, argp (ordP x y))]) ++ (if t then [] else [(ordP a y, [ordP a x, ordP x y])]))
      (if ordP x y ∈ told then G else addP G (argp (ordP x y)))
  | _, _, S, G => (S, G)
def stepsI (L : List (List Nat)) (told : List Pr) (argp : Pr → List Pr) : Nat → Nat → List Stq → List Pr → Option (List Stq)
  | 0, _, _, _ => none
  | f + 1, i, S, G => match G[i]? with
    | none => some S
    | some g => match pathN L g.1 g.2 with
      | none => none
      | some p => stepsI L told argp f (i + 1) (stepsK told argp g.1 true p S G).1 (stepsK told argp g.1 true p S G).2
def stepsN (L : List (List Nat)) (told : List Pr) (argp : Pr → List Pr) (g : Pr) : Option (List Stq) := stepsI L told argp (L.length * L.length + 2) 0 [] [g]

theorem addP_ok (Q : Pr → Prop) : ∀ (r l : List Pr), l.Nodup → (∀ q ∈ l, Q q) → (∀ q ∈ r, Q q) → (addP l r).Nodup ∧ (∀ q ∈ addP l r, Q q) ∧ (∃ u, addP l r = l ++ u) ∧ ∀ q ∈ r, q ∈ addP l r
  | [], l, h, h1, _ => ⟨h, h1, ⟨[], by simp [addP]⟩, by simp⟩
  | a :: r, l, h, h1, h2 => by
    rw [addP]
    by_cases e : a ∈ l
    · rw [if_pos e]
      obtain ⟨r1, r2, ⟨u, r3⟩, r4⟩ := addP_ok Q r l h h1 (fun q hq => h2 q (by simp [hq]))
      refine ⟨r1, r2, ⟨u, r3⟩, fun q hq => ?_⟩
      rcases List.mem_cons.1 hq with rfl | hq
      · rw [r3]; exact List.mem_append_left _ e
      · exact r4 q hq
    · rw [if_neg e]
      obtain ⟨r1, r2, ⟨u, r3⟩, r4⟩ := addP_ok Q r (l ++ [a]) (by
        rw [List.nodup_append]
        refine ⟨h, by simp, fun x hx y hy => ?_⟩
        simp at hy; subst hy
        exact fun e2 => e (e2 ▸ hx)) (fun q hq => by
        rcases List.mem_append.1 hq with hq | hq
        · exact h1 q hq
        · simp at hq; subst hq; exact h2 _ (by simp)) (fun q hq => h2 q (by simp [hq]))
      refine ⟨r1, r2, ⟨[a] ++ u, by rw [r3]; simp⟩, fun q hq => ?_⟩
      rcases List.mem_cons.1 hq with rfl | hq
      · rw [r3]; simp
      · exact r4 q hq

theorem WayIs.mono {E : Edges} {told G G' : List Pr} {S S' : List Stq} {argp : Pr → List Pr} {g : Pr} {p : List Nat} (h : WayIs E told G S argp g p) (hG : ∀ q ∈ G, q ∈ G') (hS : ∀ q ∈ S, q ∈ S') : WayIs E told G' S' argp g p :=
  ⟨h.nd, h.last, h.pth, fun k x y h1 h2 => (h.link k x y h1 h2).imp (fun x => x) (fun z => ⟨hS _ z.1, fun q hq => hG q (z.2 q hq)⟩), fun k x y h0 h1 h2 => hS _ (h.pre k x y h0 h1 h2)⟩

theorem stepsK_ok {E : Edges} {told : List Pr} {argp : Pr → List Pr} {Q : Pr → Prop} (hQ : ∀ x y, AdjE E x y → ordP x y ∉ told → ∀ q ∈ argp (ordP x y), Q q) (a : Nat) : ∀ (p : List Nat) (t : Bool) (S : List Stq) (G : List Pr), Pth E p → G.Nodup → (∀ q ∈ G, Q q) →
    (stepsK told argp a t p S G).2.Nodup ∧ (∀ q ∈ (stepsK told argp a t p S G).2, Q q) ∧ (∃ u, (stepsK told argp a t p S G).2 = G ++ u) ∧ (∀ q ∈ S, q ∈ (stepsK told argp a t p S G).1) ∧
    (∀ k x y : Nat, p[k]? = some x → p[k + 1]? = some y → ordP x y ∈ told ∨ ((ordP x y, argp (ordP x y)) ∈ (stepsK told argp a t p S G).1 ∧ ∀ q ∈ argp (ordP x y), q ∈ (stepsK told argp a t p S G).2)) ∧
    (∀ k x y : Nat, (1 ≤ k ∨ t = false) → p[k]? = some x → p[k + 1]? = some y → (ordP a y, [ordP a x, ordP x y]) ∈ (stepsK told argp a t p S G).1)
  | [], t, S, G, _, h, h1 => ⟨h, h1, ⟨[], by simp [stepsK]⟩, fun _ h => h, fun k x y e => by simp at e, fun k x y _ e => by simp at e⟩
  | [z], t, S, G, _, h, h1 => ⟨h, h1, ⟨[], by simp [stepsK]⟩, fun _ h => h, fun k x y _ e => by simp at e, fun k x y _ _ e => by simp at e⟩
  | x :: y :: r, t, S, G, hp, h, h1 => by
    rw [stepsK]
    have hG1 : (if ordP x y ∈ told then G else addP G (argp (ordP x y))).Nodup ∧ (∀ q ∈ (if ordP x y ∈ told then G else addP G (argp (ordP x y))), Q q) ∧ (∃ u, (if ordP x y ∈ told then G else addP G (argp (ordP x y))) = G ++ u) ∧ (ordP x y ∉ told → ∀ q ∈ argp (ordP x y), q ∈ (if ordP x y ∈ told then G else addP G (argp (ordP x y)))) := by
      by_cases e : ordP x y ∈ told
      · simp only [if_pos e]
        exact ⟨h, h1, ⟨[], by simp⟩, fun x => absurd e x⟩
      · simp only [if_neg e]
        obtain ⟨r1, r2, r3, r4⟩ := addP_ok Q (argp (ordP x y)) G h h1 (hQ x y hp.1 e)
        exact ⟨r1, r2, r3, fun _ => r4⟩
    obtain ⟨g1, g2, ⟨u, g3⟩, g4⟩ := hG1
    have hS1 : ∀ q ∈ S, q ∈ (if ordP x y ∈ told then S else S ++ [(ordP x y, argp (ordP x y))]) ++ (if t then [] else [(ordP a y, [ordP a x, ordP x y])]) := fun q hq => by
      refine List.mem_append_left _ ?_
      split
      · exact hq
      · simp [hq]
    have hS2 : ordP x y ∉ told → (ordP x y, argp (ordP x y)) ∈ (if ordP x y ∈ told then S else S ++ [(ordP x y, argp (ordP x y))]) ++ (if t then [] else [(ordP a y, [ordP a x, ordP x y])]) := fun e => by
      rw [if_neg e]; simp
    have hS3 : t = false → (ordP a y, [ordP a x, ordP x y]) ∈ (if ordP x y ∈ told then S else S ++ [(ordP x y, argp (ordP x y))]) ++ (if t then [] else [(ordP a y, [ordP a x, ordP x y])]) := fun e => by
      subst e; simp
    generalize (if ordP x y ∈ told then S else S ++ [(ordP x y, argp (ordP x y))]) ++ (if t then [] else [(ordP a y, [ordP a x, ordP x y])]) = S1 at *
    generalize (if ordP x y ∈ told then G else addP G (argp (ordP x y))) = G1 at *
    obtain ⟨r1, r2, ⟨u2, r3⟩, r4, r5, r6⟩ := stepsK_ok hQ a (y :: r) false S1 G1 hp.2 g1 g2
    refine ⟨r1, r2, ⟨u ++ u2, by rw [r3, g3]; simp⟩, fun q hq => r4 q (hS1 q hq), fun k x' y' e1 e2 => ?_, fun k x' y' hk e1 e2 => ?_⟩
    · cases k with
      | zero =>
        simp at e1 e2
        subst e1; subst e2
        by_cases e : ordP x y ∈ told
        · exact Or.inl e
        · exact Or.inr ⟨r4 _ (hS2 e), fun q hq => by rw [r3]; exact List.mem_append_left _ (g4 e q hq)⟩
      | succ k => exact r5 k x' y' (by simpa using e1) (by simpa using e2)
    · cases k with
      | zero =>
        simp at e1 e2
        subst e1; subst e2
        refine r4 _ (hS3 ?_)
        rcases hk with hk | hk
        · omega
        · exact hk
      | succ k => exact r6 k x' y' (Or.inr rfl) (by simpa using e1) (by simpa using e2)

theorem pairs_le {l : List Pr} {n : Nat} (hn : l.Nodup) (hl : ∀ q ∈ l, q.1 < n ∧ q.2 < n) : l.length ≤ n * n := by
  have h := List.Nodup.length_le_of_subset hn (l₂ := (List.range n).flatMap fun a => (List.range n).map fun b => (a, b)) (fun q hq => by
    obtain ⟨h1, h2⟩ := hl q hq
    exact List.mem_flatMap.2 ⟨q.1, List.mem_range.2 h1, List.mem_map.2 ⟨q.2, List.mem_range.2 h2, rfl⟩⟩)
  have e : ((List.range n).flatMap fun a => (List.range n).map fun b => (a, b)).length = n * n := by
    rw [List.length_flatMap]
    simp only [List.length_map, List.length_range]
    have : ∀ (l : List Nat), (l.map fun _ => n).sum = l.length * n := fun l => by
      induction l with
      | nil => simp
      | cons x l ih => simp only [List.map_cons, List.sum_cons, ih, List.length_cons, Nat.succ_mul]; omega
    rw [this, List.length_range]
  omega

/-- The steps are told, and there are ways for all goals. -/
theorem stepsI_ok {L : List (List Nat)} {E : Edges} (hL : LnkIs L E) {told : List Pr} {argp : Pr → List Pr} (hQ : ∀ x y, AdjE E x y → ordP x y ∉ told → ∀ q ∈ argp (ordP x y), Conn E q.1 q.2 ∧ q.1 < L.length ∧ q.2 < L.length) : ∀ (f i : Nat) (S : List Stq) (G : List Pr), G.Nodup → (∀ q ∈ G, Conn E q.1 q.2 ∧ q.1 < L.length ∧ q.2 < L.length) →
    (∀ j g, j < i → G[j]? = some g → ∃ p, WayIs E told G S argp g p) → L.length * L.length + 2 ≤ f + i → i ≤ G.length →
    ∃ S' G', stepsI L told argp f i S G = some S' ∧ (∃ u, G' = G ++ u) ∧ (∀ q ∈ S, q ∈ S') ∧ (∀ q ∈ G', Conn E q.1 q.2 ∧ q.1 < L.length ∧ q.2 < L.length) ∧ ∀ g ∈ G', ∃ p, WayIs E told G' S' argp g p
  | 0, i, S, G, hn, hc, _, hf, hi => by
    have := pairs_le hn (fun q hq => (hc q hq).2)
    omega
  | f + 1, i, S, G, hn, hc, hw, hf, hi => by
    rw [stepsI]
    cases hg : G[i]? with
    | none =>
      have hge := List.getElem?_eq_none_iff.1 hg
      refine ⟨S, G, rfl, ⟨[], by simp⟩, fun _ h => h, hc, fun g hgm => ?_⟩
      obtain ⟨j, hj, he⟩ := List.mem_iff_getElem.1 hgm
      exact hw j g (by omega) (by rw [List.getElem?_eq_getElem hj, he])
    | some g =>
      have hgm := List.mem_of_getElem? hg
      have hlt := (List.getElem?_eq_some_iff.1 hg).1
      obtain ⟨hcg, hg1, hg2⟩ := hc g hgm
      obtain ⟨p, e1, e2, e3, e4, e5⟩ := path_ok hL hcg hg1 hg2
      simp only [e1]
      obtain ⟨r1, r2, ⟨u, r3⟩, r4, r5, r6⟩ := stepsK_ok (Q := fun q => Conn E q.1 q.2 ∧ q.1 < L.length ∧ q.2 < L.length) hQ g.1 (g.1 :: p) true S G e4 hn hc
      generalize stepsK told argp g.1 true (g.1 :: p) S G = SG at *
      obtain ⟨S1, G1⟩ := SG
      simp only at r1 r2 r3 r4 r5 r6
      obtain ⟨S', G', k1, ⟨u2, k2⟩, k3, k4, k5⟩ := stepsI_ok hL hQ f (i + 1) S1 G1 r1 r2 (fun j g' hj he => by
        rw [r3, List.getElem?_append_left (by omega)] at he
        by_cases hji : j = i
        · subst hji
          rw [hg] at he
          cases he
          exact ⟨p, e2, e3, e4, r5, fun k x y hk h1 h2 => r6 k x y (Or.inl hk) h1 h2⟩
        · obtain ⟨p', hp'⟩ := hw j g' (by omega) he
          exact ⟨p', hp'.mono (fun q hq => by rw [r3]; exact List.mem_append_left _ hq) r4⟩) (by omega) (by rw [r3]; simp; omega)
      exact ⟨S', G', k1, ⟨u ++ u2, by rw [k2, r3]; simp⟩, fun q hq => k3 q (r4 q hq), k4, k5⟩

/-- A goal that follows is forced by its steps. -/
theorem stepsN_ok {L : List (List Nat)} {E : Edges} (hL : LnkIs L E) (hE : Grew1 E) {told : List Pr} {argp : Pr → List Pr} (ho : ∀ p, ∀ q ∈ argp p, q.1 ≤ q.2 ∧ q.1 < L.length ∧ q.2 < L.length)
    (he : ∀ s (h : s < E.length), ordP (E[s]).1 (E[s]).2 ∈ told ∨ ∀ q ∈ argp (ordP (E[s]).1 (E[s]).2), Conn (E.take s) q.1 q.2) {g : Pr} (hg : Conn E g.1 g.2) (hg1 : g.1 < L.length) (hg2 : g.2 < L.length) :
    ∃ S, stepsN L told argp g = some S ∧ ∀ F : Pr → Prop, (∀ a, F (a, a)) → (∀ p ∈ told, F p) → (∀ st ∈ S, (∀ q ∈ st.2, F q) → F st.1) → F (ordP g.1 g.2) := by
  have hQ : ∀ x y, AdjE E x y → ordP x y ∉ told → ∀ q ∈ argp (ordP x y), Conn E q.1 q.2 ∧ q.1 < L.length ∧ q.2 < L.length := fun x y hxy hn q hq => by
    have hidx : ∃ s, ∃ hs : s < E.length, ordP (E[s]).1 (E[s]).2 = ordP x y := by
      rcases hxy with h | h
      · obtain ⟨s, hs, e⟩ := List.mem_iff_getElem.1 h
        exact ⟨s, hs, by rw [e]⟩
      · obtain ⟨s, hs, e⟩ := List.mem_iff_getElem.1 h
        exact ⟨s, hs, by rw [e]; exact ordP_comm _ _⟩
    obtain ⟨s, hs, e⟩ := hidx
    have := he s hs
    rw [e] at this
    rcases this with h | h
    · exact absurd h hn
    · exact ⟨(h q hq).mono (fun x hx => List.mem_of_mem_take hx), (ho _ q hq).2⟩
  obtain ⟨S, G, k1, ⟨u, k2⟩, _, k4, k5⟩ := stepsI_ok hL hQ (L.length * L.length + 2) 0 [] [g] (by simp) (by simp only [List.mem_singleton, forall_eq]; exact ⟨hg, hg1, hg2⟩) (fun j g' hj => by omega) (by omega) (by omega)
  refine ⟨S, k1, fun F h1 h2 h3 => ?_⟩
  exact steps_force hE h1 h2 h3 (fun p q hq => (ho p q hq).1) he k5 E.length g (by rw [k2]; simp) (by rw [List.take_length]; exact hg)

end Go.Proofs.YtlehlgipbhfioaaGreat

namespace Go.Proofs.YtlehlgipbhfioaaGreat
open Go.RowKit Go.Maps

/-- Sets and links. -/
structure Pf where
  g : Uf.G
  L : List (List Nat)
def addAt (L : List (List Nat)) (a b : Nat) : List (List Nat) := L.set a (L[a]?.getD [] ++ [b])
def Pf.link (n : Nat) (P : Pf) (a b : Nat) : Bool × Pf :=
  if joins n P.g a b then (true, ⟨joinG n P.g a b, addAt (addAt P.L a b) b a⟩) else (false, P)
def Pf.tell (n : Nat) : List Pr → Pf → Pf
  | [], P => P
  | a :: r, P => Pf.tell n r (P.link n a.1 a.2).2
def sigA (g : Uf.G) (t : Tm) : List Nat := (List.range 4).map fun i => match t.args[i]? with
  | some a => g.lo a
  | none => 0
abbrev Key := ByteArray × List Nat
def fstK (fm : List (Key × Nat)) (k : Key) : Option Nat := (fm.find? fun e => decide (e.1 = k)).map (·.2)
/-- One pass over the terms. -/
def lkA (n : Nat) : Nat → List Tm → List (Key × Nat) → Pf → Bool → Bool × Pf
  | _, [], _, P, fd => (fd, P)
  | i, t :: ts, fm, P, fd => match fstK fm (t.name, sigA P.g t) with
    | none => lkA n (i + 1) ts (fm ++ [((t.name, sigA P.g t), i)]) P fd
    | some j => lkA n (i + 1) ts fm (P.link n j i).2 (fd || (P.link n j i).1)
def lkN (l : List Tm) : Nat → Pf → Option Pf
  | 0, _ => none
  | f + 1, P => if (lkA l.length 0 l [] P false).1 then lkN l f (lkA l.length 0 l [] P false).2 else some (lkA l.length 0 l [] P false).2
def proofN (l : List Tm) (told : List Pr) : Option Pf := lkN l (l.length + 2) (Pf.tell l.length told ⟨Uf.g0, List.replicate l.length []⟩)

theorem conn_add {E : Edges} {a b x y : Nat} : Conn (E ++ [(a, b)]) x y ↔ Conn E x y ∨ (Conn E x a ∧ Conn E b y) ∨ (Conn E x b ∧ Conn E a y) := by
  have up : ∀ {x y}, Conn E x y → Conn (E ++ [(a, b)]) x y := fun h => h.mono (fun e he => List.mem_append_left _ he)
  have ab : Conn (E ++ [(a, b)]) a b := .one (Or.inl (by simp))
  constructor
  · intro h
    induction h with
    | refl => exact Or.inl (.refl _)
    | @step y z _ e ih =>
      rcases e.cut with e | ⟨rfl, rfl⟩ | ⟨rfl, rfl⟩
      · rcases ih with ih | ⟨i1, i2⟩ | ⟨i1, i2⟩
        · exact Or.inl (.step ih e)
        · exact Or.inr (Or.inl ⟨i1, .step i2 e⟩)
        · exact Or.inr (Or.inr ⟨i1, .step i2 e⟩)
      · rcases ih with ih | ⟨i1, i2⟩ | ⟨i1, i2⟩
        · exact Or.inr (Or.inl ⟨ih, .refl _⟩)
        · exact Or.inr (Or.inl ⟨i1, .refl _⟩)
        · exact Or.inl i1
      · rcases ih with ih | ⟨i1, i2⟩ | ⟨i1, i2⟩
        · exact Or.inr (Or.inr ⟨ih, .refl _⟩)
        · exact Or.inl i1
        · exact Or.inr (Or.inr ⟨i1, .refl _⟩)
  · rintro (h | ⟨h1, h2⟩ | ⟨h1, h2⟩)
    · exact up h
    · exact ((up h1).trans ab).trans (up h2)
    · exact ((up h1).trans ab.symm).trans (up h2)

/-- Why two terms were linked. -/
def EdgeBy (l : List Tm) (told : List Pr) (E : Edges) (a b : Nat) : Prop :=
  ordP a b ∈ told ∨ ∃ t u, l[a]? = some t ∧ l[b]? = some u ∧ t.name = u.name ∧ t.args.length = u.args.length ∧ ∀ k x y : Nat, t.args[k]? = some x → u.args[k]? = some y → Conn E x y

structure PfIs (l : List Tm) (told : List Pr) (P : Pf) (E : Edges) : Prop where
  hist : ∃ t, Uf.Hist l.length P.g t ∧ t.length = E.length
  conn : ∀ a b, a < l.length → b < l.length → (P.g.rt a = P.g.rt b ↔ Conn E a b)
  adj : ∀ x y : Nat, y ∈ P.L[x]?.getD [] ↔ AdjE E x y
  len : P.L.length = l.length
  grew : Grew1 E
  edge : ∀ s (h : s < E.length), EdgeBy l told (E.take s) (E[s]).1 (E[s]).2
  lt : ∀ e ∈ E, e.1 < l.length ∧ e.2 < l.length

theorem PfIs.lnk {l : List Tm} {told : List Pr} {P : Pf} {E : Edges} (h : PfIs l told P E) : LnkIs P.L E :=
  ⟨h.adj, fun x y hy => by
    rw [h.len]
    rcases (h.adj x y).1 hy with e | e
    · exact (h.lt _ e).2
    · exact (h.lt _ e).1⟩
theorem PfIs.ok {l : List Tm} {told : List Pr} {P : Pf} {E : Edges} (h : PfIs l told P E) : Uf.Ok l.length P.g E.length := by
  obtain ⟨t, h1, h2⟩ := h.hist
  rw [← h2]
  exact Uf.ok_hist _ _ _ h1
theorem PfIs.start (l : List Tm) (told : List Pr) : PfIs l told ⟨Uf.g0, List.replicate l.length []⟩ [] := by
  have hc : ∀ a b, Conn [] a b ↔ a = b := fun a b => ⟨fun h => by
    induction h with
    | refl => rfl
    | step _ e _ => rcases e with e | e <;> simp at e, fun h => h ▸ .refl _⟩
  refine ⟨⟨[], rfl, rfl⟩, fun a b _ _ => (hc a b).symm, fun x y => ?_, by simp, fun t h => absurd h (by simp), fun t h => absurd h (by simp), by simp⟩
  simp only [List.getElem?_replicate]
  split <;> simp [AdjE]

theorem mem_addAt {L : List (List Nat)} {a b : Nat} (ha : a < L.length) (x y : Nat) : y ∈ (addAt L a b)[x]?.getD [] ↔ y ∈ L[x]?.getD [] ∨ x = a ∧ y = b := by
  unfold addAt
  by_cases e : x = a
  · subst e
    rw [List.getElem?_set_self ha]
    simp
  · rw [List.getElem?_set_ne (fun e2 => e e2.symm)]
    simp [e]

/-- A link more, or none if the two are the same already. -/
theorem PfIs.link {l : List Tm} {told : List Pr} {P : Pf} {E : Edges} (h : PfIs l told P E) {a b : Nat} (ha : a < l.length) (hb : b < l.length) (he : EdgeBy l told E a b) :
    ((P.link l.length a b).1 = false ∧ (P.link l.length a b).2 = P ∧ Conn E a b) ∨ ((P.link l.length a b).1 = true ∧ PfIs l told (P.link l.length a b).2 (E ++ [(a, b)])) := by
  have hok := h.ok
  have hj : joins l.length P.g a b = !decide (P.g.rt a = P.g.rt b) := by
    unfold joins inB
    simp [ha, hb]
  unfold Pf.link
  by_cases hr : P.g.rt a = P.g.rt b
  · have : joins l.length P.g a b = false := by rw [hj]; simp [hr]
    rw [this, if_neg Bool.false_ne_true]
    exact Or.inl ⟨rfl, rfl, (h.conn a b ha hb).1 hr⟩
  · have hjt : joins l.length P.g a b = true := by rw [hj]; simp [hr]
    rw [hjt, if_pos rfl]
    refine Or.inr ⟨rfl, ?_⟩
    have hne : ¬ Conn E a b := fun e => hr ((h.conn a b ha hb).2 e)
    have hG : joinG l.length P.g a b = Uf.hang P.g (Uf.pick P.g a b).1 (Uf.pick P.g a b).2 := by unfold joinG; rw [hjt]; rfl
    have hpk := hok.pick a b ha hb hr
    have hpv : ((Uf.pick P.g a b).1 = P.g.rt a ∧ (Uf.pick P.g a b).2 = P.g.rt b) ∨ ((Uf.pick P.g a b).1 = P.g.rt b ∧ (Uf.pick P.g a b).2 = P.g.rt a) := by
      unfold Uf.pick
      split
      · exact Or.inr ⟨rfl, rfl⟩
      · exact Or.inl ⟨rfl, rfl⟩
    obtain ⟨t, ht1, ht2⟩ := h.hist
    have hl1 : a < P.L.length := by rw [h.len]; exact ha
    have hl2 : b < (addAt P.L a b).length := by unfold addAt; rw [List.length_set, h.len]; exact hb
    refine ⟨⟨⟨(Uf.pick P.g a b).1, (P.g.N (Uf.pick P.g a b).2).lst, P.g⟩ :: t, ⟨(Uf.pick P.g a b).2, hpk.2.1, hpk.1, hpk.2.2.1, hpk.2.2.2.1, hpk.2.2.2.2, rfl, hG, ht1⟩, by simp [ht2]⟩, fun x y hx hy => ?_, fun x y => ?_, by simp [addAt, h.len], fun s hs => ?_, fun s hs => ?_, fun e hm => ?_⟩
    · rw [conn_add, hG, ← h.conn x y hx hy, ← h.conn x a hx ha, ← h.conn b y hb hy, ← h.conn x b hx hb, ← h.conn a y ha hy]
      show (if P.g.rt x = (Uf.pick P.g a b).1 then (Uf.pick P.g a b).2 else P.g.rt x) = (if P.g.rt y = (Uf.pick P.g a b).1 then (Uf.pick P.g a b).2 else P.g.rt y) ↔ _
      rcases hpv with ⟨e1, e2⟩ | ⟨e1, e2⟩
      · rw [e1, e2]
        split <;> split <;> omega
      · rw [e1, e2]
        split <;> split <;> omega
    · rw [mem_addAt hl2, mem_addAt hl1, h.adj]
      unfold AdjE
      simp only [List.mem_append, List.mem_singleton, Prod.mk.injEq]
      constructor
      · rintro (((h | h) | h) | h)
        · exact Or.inl (Or.inl h)
        · exact Or.inr (Or.inl h)
        · exact Or.inl (Or.inr h)
        · exact Or.inr (Or.inr ⟨h.2, h.1⟩)
      · rintro ((h | h) | (h | h))
        · exact Or.inl (Or.inl (Or.inl h))
        · exact Or.inl (Or.inr h)
        · exact Or.inl (Or.inl (Or.inr h))
        · exact Or.inr ⟨h.2, h.1⟩
    · by_cases hse : s < E.length
      · rw [List.take_append_of_le_length (by omega), List.getElem_append_left hse]
        exact h.grew s hse
      · have : s = E.length := by simp at hs; omega
        subst this
        rw [List.take_left' rfl]
        simpa using hne
    · by_cases hse : s < E.length
      · rw [List.take_append_of_le_length (by omega), List.getElem_append_left hse]
        exact h.edge s hse
      · have : s = E.length := by simp at hs; omega
        subst this
        rw [List.take_left' rfl]
        simpa using he
    · rcases List.mem_append.1 hm with hm | hm
      · exact h.lt e hm
      · simp at hm; subst hm; exact ⟨ha, hb⟩

theorem Conn.app {E F : Edges} {a b : Nat} (h : Conn E a b) : Conn (E ++ F) a b := h.mono (fun _ he => List.mem_append_left _ he)

theorem PfIs.tell {l : List Tm} {told : List Pr} : ∀ (r : List Pr) (P : Pf) (E : Edges), PfIs l told P E → (∀ a ∈ r, a.1 < l.length ∧ a.2 < l.length ∧ ordP a.1 a.2 ∈ told) →
    ∃ F, PfIs l told (Pf.tell l.length r P) (E ++ F) ∧ ∀ a ∈ r, Conn (E ++ F) a.1 a.2
  | [], P, E, h, _ => ⟨[], by simpa [Pf.tell] using h, by simp⟩
  | a :: r, P, E, h, hr => by
    obtain ⟨h1, h2, h3⟩ := hr a (by simp)
    rw [Pf.tell]
    rcases h.link h1 h2 (Or.inl h3) with ⟨_, e2, e3⟩ | ⟨_, e2⟩
    · rw [e2]
      obtain ⟨F, k1, k2⟩ := PfIs.tell r P E h (fun b hb => hr b (by simp [hb]))
      refine ⟨F, k1, fun b hb => ?_⟩
      rcases List.mem_cons.1 hb with rfl | hb
      · exact e3.app
      · exact k2 b hb
    · obtain ⟨F, k1, k2⟩ := PfIs.tell r _ _ e2 (fun b hb => hr b (by simp [hb]))
      refine ⟨(a.1, a.2) :: F, by simpa using k1, fun b hb => ?_⟩
      have e : E ++ (a.1, a.2) :: F = E ++ [(a.1, a.2)] ++ F := by simp
      rw [e]
      rcases List.mem_cons.1 hb with rfl | hb
      · exact (Conn.one (Or.inl (by simp) : AdjE (E ++ [(b.1, b.2)]) b.1 b.2)).app
      · exact k2 b hb

/-- An entry of the map: a term whose args were the same as these. -/
def EntIs (l : List Tm) (E : Edges) (e : Key × Nat) : Prop :=
  ∃ t, l[e.2]? = some t ∧ e.1.1 = t.name ∧ ∀ k a : Nat, t.args[k]? = some a → ∃ m, e.1.2[k]? = some m ∧ Conn E a m

theorem sigA_get {g : Uf.G} {t : Tm} (h4 : t.args.length ≤ 4) {k a : Nat} (h : t.args[k]? = some a) : (sigA g t)[k]? = some (g.lo a) := by
  have hk := (List.getElem?_eq_some_iff.1 h).1
  unfold sigA
  rw [List.getElem?_map, List.getElem?_range (by omega)]
  simp [h]

structure Bnk (l : List Tm) : Prop where
  four : ∀ (i : Nat) (t : Tm), l[i]? = some t → t.args.length ≤ 4
  lt : ∀ (i : Nat) (t : Tm), l[i]? = some t → ∀ a ∈ t.args, a < l.length
  same : ∀ (i j : Nat) (t u : Tm), l[i]? = some t → l[j]? = some u → t.name = u.name → t.args.length = u.args.length

theorem PfIs.lo {l : List Tm} {told : List Pr} {P : Pf} {E : Edges} (h : PfIs l told P E) {a : Nat} (ha : a < l.length) : Conn E a (P.g.lo a) := by
  have hok := h.ok
  have h1 := hok.lole a ha
  exact (h.conn a _ ha (by omega)).1 (hok.loin a ha).symm

theorem fstK_some {fm : List (Key × Nat)} {k : Key} {j : Nat} (h : fstK fm k = some j) : (k, j) ∈ fm := by
  unfold fstK at h
  cases e : fm.find? fun e => decide (e.1 = k) with
  | none => rw [e] at h; cases h
  | some x =>
    rw [e] at h
    cases h
    have h1 := List.find?_some e
    have h2 := List.mem_of_find?_eq_some e
    have : x.1 = k := by simpa using h1
    rw [← this]
    exact h2

theorem EntIs.edge {l : List Tm} {told : List Pr} (hB : Bnk l) {P : Pf} {E : Edges} (h : PfIs l told P E) {t : Tm} {i j : Nat} (ht : l[i]? = some t) (he : EntIs l E ((t.name, sigA P.g t), j)) : EdgeBy l told E j i ∧ j < l.length := by
  obtain ⟨u, hu, hn, hk⟩ := he
  have hu : l[j]? = some u := hu
  have hn : t.name = u.name := hn
  refine ⟨Or.inr ⟨u, t, hu, ht, hn.symm, hB.same j i u t hu ht hn.symm, fun k x y hx hy => ?_⟩, (List.getElem?_eq_some_iff.1 hu).1⟩
  obtain ⟨m, h1, h2⟩ := hk k x hx
  have h1 : (sigA P.g t)[k]? = some m := h1
  rw [sigA_get (hB.four i t ht) hy] at h1
  cases h1
  exact h2.trans (h.lo (hB.lt i t ht y (List.mem_of_getElem? hy))).symm

theorem EntIs.mono {l : List Tm} {E F : Edges} {e : Key × Nat} (h : EntIs l E e) : EntIs l (E ++ F) e := by
  obtain ⟨t, h1, h2, h3⟩ := h
  exact ⟨t, h1, h2, fun k a hk => by obtain ⟨m, g1, g2⟩ := h3 k a hk; exact ⟨m, g1, g2.app⟩⟩

/-- A pass: what it leaves; without a link, the map has found each term its like. -/
theorem lkA_ok {l : List Tm} {told : List Pr} (hB : Bnk l) : ∀ (ts : List Tm) (i : Nat) (fm : List (Key × Nat)) (P : Pf) (E : Edges) (fd : Bool), PfIs l told P E → l.drop i = ts → (∀ e ∈ fm, EntIs l E e) →
    ∃ F, PfIs l told (lkA l.length i ts fm P fd).2 (E ++ F) ∧ ((lkA l.length i ts fm P fd).1 = (fd || decide (F ≠ []))) ∧
      (F = [] → (lkA l.length i ts fm P fd).2 = P ∧ ((∀ (j : Nat) (t : Tm), j < i → l[j]? = some t → ∃ m, fstK fm (t.name, sigA P.g t) = some m ∧ Conn E m j) → ∃ fm' : List (Key × Nat), ∀ (j : Nat) (t : Tm), l[j]? = some t → ∃ m, fstK fm' (t.name, sigA P.g t) = some m ∧ Conn E m j))
  | [], i, fm, P, E, fd, h, hd, _ => by
    have hge : l.length ≤ i := by
      have := congrArg List.length hd
      simp at this
      omega
    refine ⟨[], by simpa [lkA] using h, by simp [lkA], fun _ => ⟨rfl, fun k => ⟨fm, fun j t hj => k j t ?_ hj⟩⟩⟩
    have := (List.getElem?_eq_some_iff.1 hj).1
    omega
  | t :: ts, i, fm, P, E, fd, h, hd, hfm => by
    have hi : l[i]? = some t := by
      have h1 : (l.drop i)[0]? = some t := by rw [hd]; rfl
      simpa using h1
    have hil := (List.getElem?_eq_some_iff.1 hi).1
    have hd2 : l.drop (i + 1) = ts := by
      have := congrArg List.tail hd
      simpa using this
    rw [lkA]
    cases hf : fstK fm (t.name, sigA P.g t) with
    | none =>
      simp only
      obtain ⟨F, k1, k2, k3⟩ := lkA_ok hB ts (i + 1) (fm ++ [((t.name, sigA P.g t), i)]) P E fd h hd2 (fun e he => by
        rcases List.mem_append.1 he with he | he
        · exact hfm e he
        · simp at he
          subst he
          exact ⟨t, hi, rfl, fun k a hk => ⟨_, sigA_get (hB.four i t hi) hk, h.lo (hB.lt i t hi a (List.mem_of_getElem? hk))⟩⟩)
      refine ⟨F, k1, k2, fun e => ⟨(k3 e).1, fun kk => (k3 e).2 (fun j u hj hu => ?_)⟩⟩
      by_cases hji : j = i
      · subst hji
        rw [hi] at hu
        cases hu
        refine ⟨j, ?_, .refl _⟩
        unfold fstK at hf ⊢
        have hnone : (fm.find? fun e => decide (e.1 = (t.name, sigA P.g t))) = none := by simpa using hf
        rw [List.find?_append, hnone]
        simp
      · obtain ⟨m, g1, g2⟩ := kk j u (by omega) hu
        refine ⟨m, ?_, g2⟩
        unfold fstK at g1 ⊢
        rw [List.find?_append]
        cases e2 : fm.find? fun e => decide (e.1 = (u.name, sigA P.g u)) with
        | none => rw [e2] at g1; cases g1
        | some x => rw [e2] at g1; simpa using g1
    | some j =>
      simp only
      obtain ⟨he, hjl⟩ := EntIs.edge hB h hi (hfm _ (fstK_some hf))
      rcases h.link hjl hil he with ⟨e1, e2, e3⟩ | ⟨e1, e2⟩
      · rw [e1, e2, Bool.or_false]
        obtain ⟨F, k1, k2, k3⟩ := lkA_ok hB ts (i + 1) fm P E fd h hd2 hfm
        refine ⟨F, k1, k2, fun e => ⟨(k3 e).1, fun kk => (k3 e).2 (fun j' u hj hu => ?_)⟩⟩
        by_cases hji : j' = i
        · subst hji
          rw [hi] at hu
          cases hu
          exact ⟨j, hf, e3⟩
        · exact kk j' u (by omega) hu
      · rw [e1, Bool.or_true]
        obtain ⟨F, k1, k2, k3⟩ := lkA_ok hB ts (i + 1) fm _ _ true e2 hd2 (fun e he => (hfm e he).mono)
        refine ⟨(j, i) :: F, by simpa using k1, by rw [k2]; simp, fun e => (by cases e)⟩

/-- newProof: its links close what was told. -/
theorem lkN_ok {l : List Tm} {told : List Pr} (hB : Bnk l) : ∀ (f : Nat) (P : Pf) (E : Edges), PfIs l told P E → l.length + 1 ≤ f + E.length →
    ∃ P' F, lkN l f P = some P' ∧ PfIs l told P' (E ++ F) ∧ ∀ (i j : Nat) (t u : Tm), l[i]? = some t → l[j]? = some u → t.name = u.name → (∀ k a b : Nat, t.args[k]? = some a → u.args[k]? = some b → Conn (E ++ F) a b) → Conn (E ++ F) i j
  | 0, P, E, h, hf => by
    have := h.ok.num_le
    omega
  | f + 1, P, E, h, hf => by
    rw [lkN]
    obtain ⟨F, k1, k2, k3⟩ := lkA_ok hB l 0 [] P E false h (by simp) (by simp)
    rw [k2]
    by_cases hF : F = []
    · subst hF
      obtain ⟨e1, e2⟩ := k3 rfl
      obtain ⟨fm, hfm⟩ := e2 (fun j t hj => by omega)
      simp only [ne_eq, not_true_eq_false, decide_false, Bool.or_false, Bool.false_eq_true, if_false]
      rw [List.append_nil] at k1
      refine ⟨_, [], rfl, by rw [List.append_nil]; exact k1, fun i j t u hi hj hn ha => ?_⟩
      rw [List.append_nil] at ha ⊢
      obtain ⟨m, g1, g2⟩ := hfm i t hi
      obtain ⟨m', g3, g4⟩ := hfm j u hj
      have hkey : sigA P.g t = sigA P.g u := by
        unfold sigA
        refine List.map_congr_left (fun k _ => ?_)
        have hlen := hB.same i j t u hi hj hn
        cases e : t.args[k]? with
        | none =>
          have : u.args[k]? = none := by
            rw [List.getElem?_eq_none_iff] at e ⊢
            omega
          rw [this]
        | some a =>
          have hk := (List.getElem?_eq_some_iff.1 e).1
          have hk2 : k < u.args.length := by omega
          have hu := List.getElem?_eq_getElem hk2
          rw [hu]
          have hc := ha k a _ e hu
          have hal := hB.lt i t hi a (List.mem_of_getElem? e)
          have hbl := hB.lt j u hj _ (List.getElem_mem hk2)
          have := (h.conn a _ hal hbl).2 hc
          simp only [Uf.G.lo, this]
      rw [hn, hkey, g3] at g1
      cases g1
      exact g2.symm.trans g4
    · simp only [ne_eq, hF, not_false_eq_true, decide_true, Bool.or_true, if_true]
      obtain ⟨P', F', m1, m2, m3⟩ := lkN_ok hB f _ _ k1 (by
        have : 1 ≤ F.length := by cases F with
          | nil => exact absurd rfl hF
          | cons => simp
        simp; omega)
      exact ⟨P', F ++ F', m1, by rw [← List.append_assoc]; exact m2, by rw [← List.append_assoc]; exact m3⟩

theorem proof_ok {l : List Tm} (hB : Bnk l) {told : List Pr} (ht : ∀ a ∈ told, a.1 ≤ a.2 ∧ a.2 < l.length) : ∃ P E, proofN l told = some P ∧ PfIs l told P E ∧ ∀ x y, Cc.Cg l told x y → Conn E x y := by
  obtain ⟨F, k1, k2⟩ := PfIs.tell told _ [] (PfIs.start l told) (fun a ha => ⟨by have := ht a ha; omega, (ht a ha).2, by rw [ordP_self (ht a ha).1]; exact ha⟩)
  obtain ⟨P, F', m1, m2, m3⟩ := lkN_ok hB (l.length + 2) _ _ k1 (by omega)
  refine ⟨P, [] ++ F ++ F', m1, m2, fun x y h => ?_⟩
  induction h with
  | told hm _ _ => exact (k2 _ hm).app
  | refl _ => exact .refl _
  | symm _ ih => exact ih.symm
  | trans _ _ i1 i2 => exact i1.trans i2
  | cong h1 h2 h3 _ _ ih => exact m3 _ _ _ _ h1 h2 h3 ih

end Go.Proofs.YtlehlgipbhfioaaGreat

namespace Go.Proofs
open Go.Shelf
def Tryz.laysCq_ren : Go.Shelf.Ren := ⟨fun | 6 => 178 | 7 => 133 | n => n, fun | 0 => 0 | 3 => 3 | 4 => 4 | 22 => 109 | 24 => 34 | n => n, fun | n => n⟩
theorem Tryz.laysCq : Go.Proofs.SlLaysQ.n7 Tryz.prog Tryz.laysCq_ren := {
  mixed := by kernel_rfl
  f6 := ⟨Tryz.f178.name, by kernel_rfl, Tryz.func178.trans (congrArg some (by kernel_rfl))⟩
  f7 := ⟨Tryz.f133.name, by kernel_rfl, Tryz.func133.trans (congrArg some (by kernel_rfl))⟩
  t0 := Tryz.underlying0
  a0 := Tryz.isAgg0
  z0 := Tryz.sizeOf0
  v0 := Tryz.zeroValue0
  t3 := Tryz.underlying3
  a3 := Tryz.isAgg3
  z3 := Tryz.sizeOf3
  v3 := Tryz.zeroValue3
  t4 := Tryz.underlying4
  a4 := Tryz.isAgg4
  z4 := Tryz.sizeOf4
  v4 := Tryz.zeroValue4
  t22 := Tryz.underlying109
  a22 := Tryz.isAgg109
  z22 := Tryz.sizeOf109
  v22 := Tryz.zeroValue109 }
end Go.Proofs
namespace Go.Proofs.YtlehlgipbhfioaaGreat
open Go.RowKit Go.Maps

def enP (x : Nat × Nat) : List Value := [.int .i64 (x.1 : Int), .int .i64 (x.2 : Int)]
def rowP (l : List (Nat × Nat)) : List Value := l.flatMap enP
theorem rowP_app (l m : List (Nat × Nat)) : rowP (l ++ m) = rowP l ++ rowP m := by simp [rowP]

theorem eqPq : EqlAt Tryz.prog 34 (fun x => .agg (enP x).toArray) (fun x y => decide (x = y)) := by
  refine ⟨fun x y w => ?_, GuardAt.agg _ (by kernel_rfl)⟩
  have u3 := Tryz.underlying3
  have a3 := Tryz.isAgg3
  have z3 := Tryz.sizeOf3
  have hS : Tryz.prog.underlying 34 = some (.struct (Tryz.prog.fieldsOf 34)) := by kernel_rfl
  have hp : Tryz.prog.stoodInHeld 34 = false := by kernel_rfl
  simp only [enP]
  rw [run_eql_struct, show (10000 : Nat) = 9999 + 1 from rfl, run_equalIn_agg w 9999 34 _ _ hS hp]
  simp only [Program.fieldsOf, Tryz.underlying34]
  go_simp
  obtain ⟨x1, x2⟩ := x
  obtain ⟨y1, y2⟩ := y
  by_cases h1 : x1 = y1 <;> by_cases h2 : x2 = y2 <;> simp [h1, h2, Int.ofNat_inj]

/-- A slice of pairs in memory. -/
def PsAt (W : World) (v : Value) (l : List Pr) : Prop := ∃ a c, v = .slice a l.length c ∧ (l = [] ∨ ∃ b off, a = some ⟨b, off, none⟩ ∧ ∀ (j : Nat) (p : Pr), l[j]? = some p → W.cell? ⟨b, off + j * 2, none⟩ = some (.int .i64 (p.1 : Int)) ∧ W.cell? ⟨b, off + j * 2 + 1, none⟩ = some (.int .i64 (p.2 : Int)))

theorem rowP_get : ∀ {l : List Pr} {j : Nat} {p : Pr}, l[j]? = some p → (rowP l)[j * 2]? = some (.int .i64 (p.1 : Int)) ∧ (rowP l)[j * 2 + 1]? = some (.int .i64 (p.2 : Int))
  | [], j, p, h => by simp at h
  | q :: l, 0, p, h => by simp at h; subst h; simp [rowP, enP]
  | q :: l, j + 1, p, h => by
    have := rowP_get (l := l) (j := j) (p := p) (by simpa using h)
    have e : rowP (q :: l) = enP q ++ rowP l := by simp [rowP]
    rw [e]
    have e1 : (j + 1) * 2 = (enP q).length + j * 2 := by simp [enP]; omega
    rw [e1, Nat.add_assoc, List.getElem?_append_right (by omega), List.getElem?_append_right (by omega), Nat.add_sub_cancel_left, Nat.add_sub_cancel_left]
    exact this
theorem rowP_len (l : List Pr) : (rowP l).length = l.length * 2 := by
  induction l with
  | nil => rfl
  | cons a l ih =>
    have e : rowP (a :: l) = enP a ++ rowP l := by simp [rowP]
    rw [e, List.length_append, ih]
    simp [enP]
    omega

theorem PsAt.of_row {W : World} {base : Nat} {v : Value} {l : List Pr} (h : W.ownsRow base 34 2 v l.length (rowP l)) : PsAt W v l := by
  rcases h.2 with ⟨e, h0⟩ | ⟨b, cap, cur, e, e1, e2, e3⟩
  · refine ⟨none, 0, by rw [e, h0], Or.inl (List.length_eq_zero_iff.1 h0)⟩
  · refine ⟨_, cap, e, Or.inr ⟨b, 0, rfl, fun j p hj => ?_⟩⟩
    obtain ⟨q1, q2⟩ := rowP_get hj
    have c1 := h.cells (g := b) (by rw [e]; rfl) _ _ q1
    have c2 := h.cells (g := b) (by rw [e]; rfl) _ _ q2
    rw [Addr.add_lit, Nat.zero_add] at c1 c2
    rw [Nat.zero_add]
    exact ⟨c1, c2⟩
theorem PsAt.keep {W W' : World} {v : Value} {l : List Pr} (h : PsAt W v l) (hb : ∀ b off n c, v = .slice (some ⟨b, off, none⟩) n c → W'.heap[b]? = W.heap[b]?) : PsAt W' v l := by
  obtain ⟨a, c, rfl, h0⟩ := h
  refine ⟨a, c, rfl, h0.imp id ?_⟩
  rintro ⟨b, off, rfl, h⟩
  refine ⟨b, off, rfl, fun j p hj => ?_⟩
  have e := hb b off _ _ rfl
  exact ⟨(World.cell?_of_block (a := ⟨b, off + j * 2, none⟩) e).trans (h j p hj).1, (World.cell?_of_block (a := ⟨b, off + j * 2 + 1, none⟩) e).trans (h j p hj).2⟩
theorem PsAt.below {W W' : World} {v : Value} {l : List Pr} (h : PsAt W v l) (hB : Below W.heap.size W W') : PsAt W' v l := by
  obtain ⟨a, c, rfl, h0⟩ := h
  refine ⟨a, c, rfl, h0.imp id ?_⟩
  rintro ⟨b, off, rfl, h⟩
  refine ⟨b, off, rfl, fun j p hj => ?_⟩
  have hlt := World.block_lt_of_cell? W _ (h j p hj).1
  have e := hB.block b hlt
  exact ⟨(World.cell?_of_block (a := ⟨b, off + j * 2, none⟩) e).trans (h j p hj).1, (World.cell?_of_block (a := ⟨b, off + j * 2 + 1, none⟩) e).trans (h j p hj).2⟩

set_option maxRecDepth 100000 in
set_option maxHeartbeats 400000 in
theorem dIdx_nil (w : World) (a : Option Addr) (c : Nat) (x y : Int) : Calls Tryz.prog 178 #[.slice a 0 c, .agg #[.int .i64 x, .int .i64 y]] w fun e w' => e = .returned (.int .i64 (-1)) ∧ Below w.heap.size w w' := by
  have HB : Hid (_) := (Below.refl w.heap.size w).alloc (Nat.le_refl _) (.cells #[.int .i64 x, .int .i64 y] 34)
  go_enter Tryz.func178, Tryz.ntmps178
  go_wp2_with fail
  go_loopw [8] (fun t8 W => t8 = .int .i64 0 ∧ Hid (Below w.heap.size w W)) (fun _ _ => 0)
  case atStart => exact ⟨rfl, HB⟩
  case round =>
    obtain ⟨rfl, H⟩ := hrel
    go_wp2_with fail
    go_ret
    exact ⟨rfl, H.out⟩

set_option maxRecDepth 100000 in
set_option maxHeartbeats 400000 in
theorem dCont_nil (w : World) (a : Option Addr) (c : Nat) (x y : Int) : Calls Tryz.prog 133 #[.slice a 0 c, .agg #[.int .i64 x, .int .i64 y]] w fun e w' => e = .returned (.bool false) ∧ Below w.heap.size w w' := by
  have N := dIdx_nil (w.alloc (.cells #[.int .i64 x, .int .i64 y] 34)) a c x y
  have HB : Hid (_) := (Below.refl w.heap.size w).alloc (Nat.le_refl _) (.cells #[.int .i64 x, .int .i64 y] 34)
  have hz : (w.alloc (.cells #[.int .i64 x, .int .i64 y] 34)).heap.size = w.heap.size + 1 := by simp
  go_enter Tryz.func133, Tryz.ntmps133
  go_wp2_with (first | (go_at_call 178; refine N.mono ?_; rintro e w3 ⟨rfl, hB3⟩))
  go_ret
  exact ⟨rfl, HB.out.trans (hB3.mono (by omega))⟩

theorem dCont_in (w : World) (v : Value) (l : List Pr) (h : PsAt w v l) (hn : l.length ≤ 9223372036854775807) (x : Pr) : Calls Tryz.prog 133 #[v, .agg (enP x).toArray] w fun e w' => e = .returned (.bool (decide (x ∈ l))) ∧ Below w.heap.size w w' := by
  obtain ⟨a, c, rfl, h⟩ := h
  rcases h with rfl | ⟨b, off, rfl, h⟩
  · refine (dCont_nil w a c x.1 x.2).mono ?_
    rintro e w' ⟨rfl, hB⟩
    exact ⟨by simp, hB⟩
  · have := AnyQ.slices_Contains Tryz.laysCq 2 Tryz.isAgg34 Tryz.sizeOf34 enP (fun _ => rfl) _ eqPq b off l.length c l x w (Nat.le_refl _) hn (fun j hj i v hi => by
      obtain ⟨q1, q2⟩ := h j l[j] (List.getElem?_eq_getElem hj)
      have e : l[j]! = l[j] := getElem!_pos l j hj
      rw [e] at hi
      match i, hi with
      | 0, hi => simp [enP] at hi; subst hi; exact q1
      | 1, hi => simp [enP] at hi; subst hi; exact q2)
    refine Calls.mono this ?_
    rintro e w' ⟨rfl, hB⟩
    refine ⟨?_, hB⟩
    congr 2
    rw [List.take_length]
    by_cases hx : x ∈ l
    · rw [decide_eq_true hx, List.any_eq_true]; exact ⟨x, hx, by simp⟩
    · rw [decide_eq_false hx, List.any_eq_false]; intro y hy; simp; rintro rfl; exact hx hy

/-- A row of one's own that grows: v0 at w, v at W. -/
structure Row1 (base : Nat) (ty : TypeId) (sz : Nat) (w : World) (v0 : Value) (W : World) (v : Value) (n : Nat) (xs : List Value) : Prop where
  row : W.ownsRow base ty sz v n xs
  kept : Kept (fun k => v0.ownBlock = some k) w W
  at_ : v.ownBlock = v0.ownBlock ∨ ∀ k, v.ownBlock = some k → w.heap.size ≤ k
theorem ownsRow_below {W W' : World} {base size k : Nat} {ty : TypeId} {v : Value} {xs : List Value} (h : W.ownsRow base ty size v k xs) (hB : Below W.heap.size W W') : W'.ownsRow base ty size v k xs := by
  refine ⟨h.1, ?_⟩
  rcases h.2 with e | ⟨g, cap, cur, e, e1, e2, e3⟩
  · exact Or.inl e
  · exact Or.inr ⟨g, cap, cur, e, e1, (hB.block g (Array.getElem?_eq_some_iff.1 e2).1).trans e2, e3⟩
theorem ownsRow_lt {W : World} {base size k : Nat} {ty : TypeId} {v : Value} {xs : List Value} (h : W.ownsRow base ty size v k xs) {b : Nat} (hb : v.ownBlock = some b) : base ≤ b ∧ b < W.heap.size := by
  rcases h.2 with ⟨e, _⟩ | ⟨g, cap, cur, e, e1, e2, _⟩
  · rw [e] at hb; simp [Value.ownBlock] at hb
  · rw [e] at hb
    simp [Value.ownBlock] at hb
    subst hb
    exact ⟨e1, (Array.getElem?_eq_some_iff.1 e2).1⟩
theorem ownsRow_form {w : World} {base : Nat} {e : TypeId} {size : Nat} {v : Value} {n : Nat} {xs : List Value} (h : w.ownsRow base e size v n xs) : ∃ a c, v = .slice a n c := by
  rcases h.2 with ⟨rfl, h0⟩ | ⟨b, cap, cur, rfl, _⟩
  · rw [h0]; exact ⟨none, 0, rfl⟩
  · exact ⟨_, cap, rfl⟩
theorem Kept.under {S : Nat → Prop} {a w w' : World} (h : Kept S a w) (hB : Below w.heap.size w w') : Kept S a w' :=
  ⟨hB.os.trans h.os, hB.tape.trans h.tape, hB.output.trans h.output, Nat.le_trans h.size hB.size, fun k hk hs => (hB.block k (Nat.lt_of_lt_of_le hk h.size)).trans (h.block k hk hs)⟩
theorem Row1.start {base sz n : Nat} {ty : TypeId} {w : World} {v : Value} {xs : List Value} (h : w.ownsRow base ty sz v n xs) : Row1 base ty sz w v w v n xs := ⟨h, Kept.refl _ _, Or.inl rfl⟩
theorem Row1.below {base sz n : Nat} {ty : TypeId} {w W W' : World} {v0 v : Value} {xs : List Value} (h : Row1 base ty sz w v0 W v n xs) (hB : Below W.heap.size W W') : Row1 base ty sz w v0 W' v n xs :=
  ⟨ownsRow_below h.row hB, h.kept.under hB, h.at_⟩
theorem Row1.push {base sz n m : Nat} {ty : TypeId} {w W W1 w8 : World} {v0 v v8 : Value} {xs ys : List Value} (h : Row1 base ty sz w v0 W v n xs) (hB : Below W.heap.size W W1) (hown : w8.ownsRow base ty sz v8 m ys) (hgrow : W1.grownBy w8 v.ownBlock) (hat : v8.ownBlock = v.ownBlock ∨ ∀ k, v8.ownBlock = some k → W1.heap.size ≤ k) : Row1 base ty sz w v0 w8 v8 m ys := by
  have K1 := h.kept.under hB
  refine ⟨hown, ⟨hgrow.os.trans K1.os, hgrow.tape.trans K1.tape, hgrow.output.trans K1.output, Nat.le_trans K1.size hgrow.size, fun k hk hs => (hgrow.block k (Nat.lt_of_lt_of_le hk K1.size) (fun e => ?_)).trans (K1.block k hk hs)⟩, ?_⟩
  · rcases h.at_ with e' | e'
    · exact hs (e'.symm.trans e.symm)
    · have := e' k e.symm; omega
  · rcases hat with e | e
    · rw [e]; exact h.at_
    · exact Or.inr (fun k hk => Nat.le_trans K1.size (e k hk))
theorem Row1.trans {base sz n n' : Nat} {ty : TypeId} {w W W' : World} {v0 v v' : Value} {xs ys : List Value} (h : Row1 base ty sz w v0 W v n xs) (k : Row1 base ty sz W v W' v' n' ys) : Row1 base ty sz w v0 W' v' n' ys := by
  refine ⟨k.row, ⟨k.kept.os.trans h.kept.os, k.kept.tape.trans h.kept.tape, k.kept.output.trans h.kept.output, Nat.le_trans h.kept.size k.kept.size, fun b hb hs => (k.kept.block b (Nat.lt_of_lt_of_le hb h.kept.size) (fun e => ?_)).trans (h.kept.block b hb hs)⟩, ?_⟩
  · rcases h.at_ with e' | e'
    · exact hs (e'.symm.trans e)
    · have := e' b e; omega
  · rcases k.at_ with e | e
    · rw [e]; exact h.at_
    · exact Or.inr (fun b hb => Nat.le_trans h.kept.size (e b hb))

theorem cell_two (w : World) (a b : Value) (ty : TypeId) : ∀ j u, [a, b][j]? = some u → (w.alloc (.cells #[a, b] ty)).cell? ((⟨w.heap.size, 0, none⟩ : Addr).add j) = some u := by
  intro j u hj
  have hn := made_row w #[a, b] ty
  match j, hj with
  | 0, hj => simp at hj; subst hj; exact hn.cell (i := 0) (by simp)
  | 1, hj => simp at hj; subst hj; exact hn.cell (i := 1) (by simp)
theorem infoPq : (Tryz.prog.info? 34).map (fun i => (i.zero, i.size, i.bytes)) = some (some (.agg #[.int .i64 0, .int .i64 0]), 2, 16) := by kernel_rfl

theorem addP_snoc (l : List Pr) : ∀ (r : List Pr) (a : Pr), addP l (r ++ [a]) = if a ∈ addP l r then addP l r else addP l r ++ [a] := by
  intro r
  induction r generalizing l with
  | nil => intro a; by_cases h : a ∈ l <;> simp [addP, h]
  | cons q r ih => intro a; simp only [List.cons_append, addP]; split <;> exact ih _ a
theorem addP_len (l : List Pr) : ∀ (r : List Pr), (addP l r).length ≤ l.length + r.length := by
  intro r
  induction r generalizing l with
  | nil => simp [addP]
  | cons q r ih =>
    simp only [addP]
    split
    · exact Nat.le_trans (ih _) (by simp)
    · exact Nat.le_trans (ih _) (by simp; omega)

set_option maxRecDepth 100000 in
set_option maxHeartbeats 1000000 in
theorem addPairs_in (w : World) (base : Nat) (hbase : base ≤ w.heap.size) (v0 : Value) (l : List Pr) (hr : w.ownsRow base 34 2 v0 l.length (rowP l)) (pa : Option Addr) (pc : Nat) (ps : List Pr) (hp : PsAt w (.slice pa ps.length pc) ps) (hsep : ∀ b off, pa = some ⟨b, off, none⟩ → v0.ownBlock ≠ some b) (hn : (l.length + ps.length) * 16 ≤ 140737488355328) :
    Calls Tryz.prog 89 #[v0, .slice pa ps.length pc] w fun e w' => ∃ v', e = .returned v' ∧ Row1 base 34 2 w v0 w' v' (addP l ps).length (rowP (addP l ps)) := by
  have HP : Hid (∀ W : World, Kept (fun k => v0.ownBlock = some k) w W → ∀ (j : Nat) (p : Pr), ps[j]? = some p → ∃ b off, pa = some ⟨b, off, none⟩ ∧ W.cell? ⟨b, off + j * 2, none⟩ = some (.int .i64 (p.1 : Int)) ∧ W.cell? ⟨b, off + j * 2 + 1, none⟩ = some (.int .i64 (p.2 : Int))) := fun W K j p hj => by
    obtain ⟨a, c, e, h⟩ := hp
    simp only [Value.slice.injEq, true_and] at e
    obtain ⟨rfl, rfl⟩ := e
    rcases h with e | ⟨b, off, rfl, h⟩
    · rw [e] at hj; simp at hj
    · have hlt := World.block_lt_of_cell? w _ (h j p hj).1
      have e := K.block b hlt (hsep b off rfl)
      exact ⟨b, off, rfl, (World.cell?_of_block (a := ⟨b, off + j * 2, none⟩) e).trans (h j p hj).1, (World.cell?_of_block (a := ⟨b, off + j * 2 + 1, none⟩) e).trans (h j p hj).2⟩
  obtain ⟨i0, hi0, hz0, hz1, hz2⟩ := info_parts infoPq
  obtain ⟨n, hN⟩ : ∃ n, ps.length = n := ⟨_, rfl⟩
  have H0 : Hid (_) := Row1.start hr
  have HA : Hid (∀ r : List Pr, (addP l r).length ≤ l.length + r.length) := addP_len l
  obtain ⟨va, vc, hv⟩ := ownsRow_form hr
  rw [hv] at H0 HP ⊢
  clear hp hr hsep hv
  rw [hN] at hn ⊢
  have HN : Hid _ := hN
  clear hN
  go_enter Tryz.func89, Tryz.ntmps89
  go_wp2_with fail
  go_loopw [0, 9] (fun t0 t9 W => ∃ i : Nat, i ≤ n ∧ t9 = .int .i64 (i : Int) ∧ Hid (Row1 base 34 2 w (.slice va l.length vc) W t0 (addP l (ps.take i)).length (rowP (addP l (ps.take i))))) (fun _ t9 _ => n - (intOf t9).toNat)
  case atStart => exact ⟨0, Nat.zero_le _, rfl, H0⟩
  case round =>
    obtain ⟨i, hi, rfl, HR⟩ := hrel
    by_cases hlt : i < n
    · have di : decide ((i : Int) < (n : Int)) = true := decide_eq_true (by omega)
      have hil : i < ps.length := by rw [HN.out]; exact hlt
      obtain ⟨b, off, rfl, q1, q2⟩ := HP.out wr HR.out.kept i _ (List.getElem?_eq_getElem hil)
      have hwrap : IntKind.i64.wrap ((i : Int) + 1) = (i : Int) + 1 := by rw [IntKind.wrap_i64]; omega
      have hle : (addP l (ps.take i)).length ≤ l.length + i := Nat.le_trans (HA.out _) (by simp; omega)
      have HS : Hid (addP l (ps.take (i + 1)) = if ps[i] ∈ addP l (ps.take i) then addP l (ps.take i) else addP l (ps.take i) ++ [ps[i]]) := by
        show _ = _
        rw [List.take_add_one, List.getElem?_eq_getElem hil, Option.toList_some, addP_snoc]
      generalize ps[i] = p at *
      generalize addP l (ps.take i) = m at *
      obtain ⟨ma, mc, hm⟩ := ownsRow_form HR.out.row
      subst hm
      by_cases hin : p ∈ m
      · have C := dCont_in (wr.alloc (.cells #[.int .i64 (p.1 : Int), .int .i64 (p.2 : Int)] 34)) (.slice ma m.length mc) m (PsAt.of_row (ownsRow_below HR.out.row ((Below.refl _ _).alloc (Nat.le_refl _) _))) (by omega) p
        rw [decide_eq_true hin] at C
        have HR2 : Hid (_) := HR.out.below ((Below.refl _ wr).alloc (Nat.le_refl _) (.cells #[.int .i64 (p.1 : Int), .int .i64 (p.2 : Int)] 34))
        have HE : Hid (addP l (ps.take (i + 1)) = m) := by show _ = _; rw [HS.out, if_pos hin]
        clear HR HS hin H0 HP
        go_wp2_with (first | (go_at_call 133; refine C.mono ?_; rintro e w3 ⟨rfl, hB3⟩))
        refine ⟨⟨i + 1, hlt, by simp, ?_⟩, by simp [intOf]; omega⟩
        rw [HE.out]
        exact HR2.out.below hB3
      · have C := dCont_in (wr.alloc (.cells #[.int .i64 (p.1 : Int), .int .i64 (p.2 : Int)] 34)) (.slice ma m.length mc) m (PsAt.of_row (ownsRow_below HR.out.row ((Below.refl _ _).alloc (Nat.le_refl _) _))) (by omega) p
        rw [decide_eq_false hin] at C
        have HR2 : Hid (_) := HR.out.below ((Below.refl _ wr).alloc (Nat.le_refl _) (.cells #[.int .i64 (p.1 : Int), .int .i64 (p.2 : Int)] 34))
        have HE : Hid (addP l (ps.take (i + 1)) = m ++ [p]) := by show _ = _; rw [HS.out, if_neg hin]
        have hA := made_row wr #[.int .i64 (p.1 : Int), .int .i64 (p.2 : Int)] 34
        have a1 := hA.cell (i := 0) (by simp)
        have a2 := hA.cell (i := 1) (by simp)
        have HBx : Hid (∀ w3 : World, Below (wr.alloc (.cells #[.int .i64 (p.1 : Int), .int .i64 (p.2 : Int)] 34)).heap.size (wr.alloc (.cells #[.int .i64 (p.1 : Int), .int .i64 (p.2 : Int)] 34)) w3 → w3.cell? ⟨wr.heap.size, 0, none⟩ = some (.int .i64 (p.1 : Int)) ∧ w3.cell? ⟨wr.heap.size, 1, none⟩ = some (.int .i64 (p.2 : Int))) := fun w3 hB => by
          have e := hB.block wr.heap.size (by simp)
          exact ⟨(World.cell?_of_block (a := ⟨wr.heap.size, 0, none⟩) e).trans a1, (World.cell?_of_block (a := ⟨wr.heap.size, 1, none⟩) e).trans a2⟩
        clear HR HS hin H0 HP hA a1 a2
        go_wp2_with (first | (go_at_call 133; refine C.mono ?_; rintro e w3 ⟨rfl, hB3⟩; refine Aside.out ?_))
        delta Aside
        have R3 := HR2.out.below hB3
        obtain ⟨a1, a2⟩ := HBx.out w3 hB3
        have hb3 : base ≤ w3.heap.size := Nat.le_trans hbase R3.kept.size
        have H3 : Hid (_) := R3
        clear C HBx HR2 hB3 R3
        apply_assumption
        go_wp2_with (first | (at_builtin; refine Aside.out ?_))
        delta Aside
        refine wpList_append_own_at _ rfl _ _ 109 rfl base 34 i0 _ 2 16 Tryz.underlying109 hi0 hz0 hz1 hz2 rfl (by decide) _ _ _ rfl (H3.out.row.alloc _) ⟨_, 0, none⟩ 1 1 [.int .i64 (p.1 : Int), .int .i64 (p.2 : Int)] rfl rfl (cell_two w3 _ _ _) (by simp [Value.oneCell']) (by unfold maxLen; omega) (by omega) (by simp; omega) ?_
        intro v8 w8 hown8 hgrow8 _ hat8
        have H8 : Hid (_) := H3.out.push ((Below.refl _ _).alloc (Nat.le_refl _) _) hown8 hgrow8 (hat8.imp id (fun e k hk => by rw [e] at hk; cases hk; exact Nat.le_refl _))
        clear hown8 hgrow8 hat8 H3 a1 a2
        go_wp2_with fail
        refine ⟨⟨i + 1, hlt, by simp, ?_⟩, by simp [intOf]; omega⟩
        rw [HE.out, rowP_app, List.length_append]
        exact H8.out
    · have di : decide ((i : Int) < (n : Int)) = false := decide_eq_false (by omega)
      have hie : i = n := by omega
      have HF : Hid (_) := HR.out
      rw [hie, ← HN.out, List.take_length] at HF
      clear HP H0 HR
      go_wp2_with fail
      go_ret
      exact ⟨_, rfl, HF.out⟩
end Go.Proofs.YtlehlgipbhfioaaGreat

namespace Go.Proofs.YtlehlgipbhfioaaGreat
open Go.RowKit Go.Maps

/-- A problem: how many variables, the numbers of the pairs, the lemmas, the steps that are lemmas. -/
structure Pb where
  count : Nat
  vars : List (Pr × Nat)
  lemmas : List (List Int)
  known : List (Pr × List Pr)
namespace Pb
def num (P : Pb) (a : Pr) : Option Nat := (P.vars.find? fun e => decide (e.1 = a)).map (·.2)
def vari (P : Pb) (a : Pr) : Nat × Pb := match P.num a with
  | some x => (x, P)
  | none => (P.count + 1, { P with count := P.count + 1, vars := P.vars ++ [(a, P.count + 1)], lemmas := if a.1 = a.2 then P.lemmas ++ [[((P.count + 1 : Nat) : Int)]] else P.lemmas })
/-- The premises' literals. -/
def prem : List Pr → Pb → List Int × Pb
  | [], P => ([], P)
  | a :: r, P => if a.1 = a.2 then prem r P else (-((P.vari a).1 : Int) :: (prem r (P.vari a).2).1, (prem r (P.vari a).2).2)
end Pb
def pad4 (ps : List Pr) : List Pr := (ps ++ List.replicate 4 (0, 0)).take 4
def Pb.step (P : Pb) (st : Stq) : Pb :=
  if (st.1, pad4 st.2) ∈ P.known then P
  else
    { (Pb.prem (pad4 st.2) (Pb.vari { P with known := P.known ++ [(st.1, pad4 st.2)] } st.1).2).2 with
      lemmas := (Pb.prem (pad4 st.2) (Pb.vari { P with known := P.known ++ [(st.1, pad4 st.2)] } st.1).2).2.lemmas ++ [((Pb.vari { P with known := P.known ++ [(st.1, pad4 st.2)] } st.1).1 : Int) :: (Pb.prem (pad4 st.2) (Pb.vari { P with known := P.known ++ [(st.1, pad4 st.2)] } st.1).2).1] }

/-- What grows as variables and lemmas come. -/
structure PbG (P Q : Pb) : Prop where
  num : ∀ a x, P.num a = some x → Q.num a = some x
  lem : ∀ c ∈ P.lemmas, c ∈ Q.lemmas
theorem PbG.refl (P : Pb) : PbG P P := ⟨fun _ _ h => h, fun _ h => h⟩
theorem PbG.trans {P Q R : Pb} (h : PbG P Q) (k : PbG Q R) : PbG P R := ⟨fun a x e => k.num a x (h.num a x e), fun c e => k.lem c (h.lem c e)⟩

theorem num_app {V : List (Pr × Nat)} {a b : Pr} {x : Nat} (P : Pb) (hP : P.vars = V ++ [(b, x)]) (Q : Pb) (hQ : Q.vars = V) : P.num a = if Q.num a = none then (if b = a then some x else none) else Q.num a := by
  unfold Pb.num
  rw [hP, hQ, List.find?_append]
  cases h : V.find? fun e => decide (e.1 = a) with
  | some e => simp
  | none =>
    by_cases e : b = a
    · simp [e]
    · simp [e]

theorem Pb.vari_ok (P : Pb) (a : Pr) : PbG P (P.vari a).2 ∧ (P.vari a).2.num a = some (P.vari a).1 ∧ (P.vari a).2.known = P.known := by
  unfold Pb.vari
  cases h : P.num a with
  | some x => exact ⟨PbG.refl P, h, rfl⟩
  | none =>
    have key := fun b => num_app (a := b) (b := a) (x := P.count + 1) (V := P.vars) { P with count := P.count + 1, vars := P.vars ++ [(a, P.count + 1)], lemmas := if a.1 = a.2 then P.lemmas ++ [[((P.count + 1 : Nat) : Int)]] else P.lemmas } rfl P rfl
    refine ⟨⟨fun b x hb => ?_, fun c hc => ?_⟩, ?_, rfl⟩
    · simp only
      rw [key b, hb]
      simp
    · show c ∈ (if a.1 = a.2 then P.lemmas ++ [[((P.count + 1 : Nat) : Int)]] else P.lemmas)
      split
      · simp [hc]
      · exact hc
    · simp only
      rw [key a, h]
      simp

theorem Pb.prem_ok : ∀ (r : List Pr) (P : Pb), PbG P (Pb.prem r P).2 ∧ (Pb.prem r P).2.known = P.known ∧ ∀ l ∈ (Pb.prem r P).1, ∃ q ∈ r, q.1 ≠ q.2 ∧ ∃ x, (Pb.prem r P).2.num q = some x ∧ l = -(x : Int)
  | [], P => ⟨PbG.refl P, rfl, by simp [Pb.prem]⟩
  | a :: r, P => by
    rw [Pb.prem]
    by_cases e : a.1 = a.2
    · rw [if_pos e]
      obtain ⟨h1, h2, h3⟩ := Pb.prem_ok r P
      exact ⟨h1, h2, fun l hl => by obtain ⟨q, hq, h4⟩ := h3 l hl; exact ⟨q, by simp [hq], h4⟩⟩
    · rw [if_neg e]
      obtain ⟨g1, g2, g3⟩ := P.vari_ok a
      obtain ⟨h1, h2, h3⟩ := Pb.prem_ok r (P.vari a).2
      refine ⟨g1.trans h1, h2.trans g3, fun l hl => ?_⟩
      rcases List.mem_cons.1 hl with rfl | hl
      · exact ⟨a, by simp, e, _, h1.num _ _ g2, rfl⟩
      · obtain ⟨q, hq, h4⟩ := h3 l hl
        exact ⟨q, by simp [hq], h4⟩

/-- A step's lemma is there. -/
def Said (P : Pb) (c : Pr) (ps : List Pr) : Prop := ∃ (x : Nat) (ls : List Int), P.num c = some x ∧ (x : Int) :: ls ∈ P.lemmas ∧ ∀ l ∈ ls, ∃ q ∈ ps, q.1 ≠ q.2 ∧ ∃ y, P.num q = some y ∧ l = -(y : Int)
theorem Said.mono {P Q : Pb} (h : PbG P Q) {c : Pr} {ps : List Pr} (hs : Said P c ps) : Said Q c ps := by
  obtain ⟨x, ls, h1, h2, h3⟩ := hs
  refine ⟨x, ls, h.num _ _ h1, h.lem _ h2, fun l hl => ?_⟩
  obtain ⟨q, hq, hne, y, h4, h5⟩ := h3 l hl
  exact ⟨q, hq, hne, y, h.num _ _ h4, h5⟩
def KnownOk (P : Pb) : Prop := ∀ k ∈ P.known, Said P k.1 k.2

theorem Pb.step_ok (P : Pb) (hk : KnownOk P) (st : Stq) : PbG P (P.step st) ∧ KnownOk (P.step st) ∧ Said (P.step st) st.1 (pad4 st.2) := by
  unfold Pb.step
  by_cases e : (st.1, pad4 st.2) ∈ P.known
  · rw [if_pos e]
    exact ⟨PbG.refl P, hk, hk _ e⟩
  · rw [if_neg e]
    obtain ⟨P1, hP1⟩ : ∃ P1 : Pb, P1 = { P with known := P.known ++ [(st.1, pad4 st.2)] } := ⟨_, rfl⟩
    rw [← hP1]
    have g0 : PbG P P1 := by rw [hP1]; exact ⟨fun _ _ h => h, fun _ h => h⟩
    obtain ⟨a1, a2, a3⟩ := P1.vari_ok st.1
    obtain ⟨b1, b2, b3⟩ := Pb.prem_ok (pad4 st.2) (P1.vari st.1).2
    generalize Pb.prem (pad4 st.2) (P1.vari st.1).2 = R at *
    generalize P1.vari st.1 = V at *
    obtain ⟨ls, R⟩ := R
    simp only at b1 b2 b3 ⊢
    have gR : PbG R { R with lemmas := R.lemmas ++ [(V.1 : Int) :: ls] } := ⟨fun _ _ h => h, fun c hc => List.mem_append_left _ hc⟩
    have said : Said { R with lemmas := R.lemmas ++ [(V.1 : Int) :: ls] } st.1 (pad4 st.2) := ⟨V.1, ls, gR.num _ _ (b1.num _ _ a2), by simp, fun l hl => by
      obtain ⟨q, hq, hne, y, h4, h5⟩ := b3 l hl
      exact ⟨q, hq, hne, y, gR.num _ _ h4, h5⟩⟩
    have gAll : PbG P { R with lemmas := R.lemmas ++ [(V.1 : Int) :: ls] } := ((g0.trans a1).trans b1).trans gR
    refine ⟨gAll, fun k hkk => ?_, said⟩
    have hkn : k ∈ R.known := hkk
    rw [b2, a3, hP1] at hkn
    rcases List.mem_append.1 hkn with hkn | hkn
    · exact (hk k hkn).mono gAll
    · simp at hkn
      subst hkn
      exact said

theorem Pb.steps_ok : ∀ (S : List Stq) (P : Pb), KnownOk P → PbG P (S.foldl Pb.step P) ∧ KnownOk (S.foldl Pb.step P) ∧ ∀ st ∈ S, Said (S.foldl Pb.step P) st.1 (pad4 st.2)
  | [], P, h => ⟨PbG.refl P, h, by simp⟩
  | st :: S, P, h => by
    obtain ⟨h1, h2, h3⟩ := P.step_ok h st
    obtain ⟨k1, k2, k3⟩ := Pb.steps_ok S (P.step st) h2
    refine ⟨h1.trans k1, k2, fun s hs => ?_⟩
    rcases List.mem_cons.1 hs with rfl | hs
    · exact h3.mono k1
    · exact k3 s hs

theorem mem_pad4 {ps : List Pr} {q : Pr} (h : q ∈ pad4 ps) : q ∈ ps ∨ q = (0, 0) := by
  unfold pad4 at h
  have := List.mem_of_mem_take h
  rcases List.mem_append.1 this with h | h
  · exact Or.inl h
  · exact Or.inr (List.eq_of_mem_replicate h)

/-- If the steps force a goal from what was told, the clauses force its literal. -/
theorem goal_forced {P : Pb} {S : List Stq} {told : List Pr} {g : Pr} {cs : List (List Int)} (hS : ∀ st ∈ S, Said P st.1 (pad4 st.2)) (hcs : ∀ c ∈ P.lemmas, c ∈ cs)
    (htold : ∀ p ∈ told, ∃ x : Nat, x ≠ 0 ∧ P.num p = some x ∧ [(x : Int)] ∈ cs) (hpos : ∀ a x, P.num a = some x → x ≠ 0)
    (hF : ∀ F : Pr → Prop, (∀ a, F (a, a)) → (∀ p ∈ told, F p) → (∀ st ∈ S, (∀ q ∈ st.2, F q) → F st.1) → F g) (hne : g.1 ≠ g.2) : ∃ x : Nat, P.num g = some x ∧ Forced (cs.map litsN) (litN (x : Int)) := by
  have := hF (fun p => p.1 = p.2 ∨ ∃ x : Nat, P.num p = some x ∧ Forced (cs.map litsN) (litN (x : Int))) (fun a => Or.inl rfl) (fun p hp => ?_) (fun st hst hq => ?_)
  · exact this.resolve_left hne
  · obtain ⟨x, _, h1, h2⟩ := htold p hp
    refine Or.inr ⟨x, h1, Forced.by_ (List.mem_map_of_mem h2) ((mem_litsN _ _).2 ⟨_, by simp, rfl⟩) (fun y hy hne2 => ?_)⟩
    obtain ⟨z, hz, e⟩ := (mem_litsN _ _).1 hy
    simp at hz
    subst hz
    exact absurd e.symm hne2
  · obtain ⟨x, ls, h1, h2, h3⟩ := hS st hst
    refine Or.inr ⟨x, h1, Forced.by_ (List.mem_map_of_mem (hcs _ h2)) ((mem_litsN _ _).2 ⟨_, by simp, rfl⟩) (fun y hy hne2 => ?_)⟩
    obtain ⟨z, hz, e⟩ := (mem_litsN _ _).1 hy
    rcases List.mem_cons.1 hz with rfl | hz
    · exact absurd e.symm hne2
    · obtain ⟨q, hq1, hq2, v, hv, rfl⟩ := h3 z hz
      have hv0 := hpos q v hv
      rw [← e, opp_litN (by omega), Int.neg_neg]
      rcases mem_pad4 hq1 with hq1 | hq1
      · rcases hq q hq1 with h5 | ⟨v', h5, h6⟩
        · exact absurd h5 hq2
        · rw [hv] at h5
          cases h5
          exact h6
      · rw [hq1] at hq2; exact absurd rfl hq2

end Go.Proofs.YtlehlgipbhfioaaGreat

namespace Go.Proofs.YtlehlgipbhfioaaGreat
open Go.RowKit Go.Maps

theorem run_copy_two {P : Program} (w : World) (dT sT ty elem : TypeId) (g o dLen dCap : Nat) (a : Addr) (sLen sCap : Nat) (cur : Array Value) (t : TypeId) (cs : List Value)
    (hu : P.underlying dT = some (.slice elem)) (hs : (P.info? elem).map (·.size) = some 2)
    (hg : w.heap[g]? = some (.cells cur t (0, 0))) (hn : cs.length = Nat.min sLen dLen * 2)
    (hsrc : ∀ j v, cs[j]? = some v → w.cell? (a.add j) = some v) (hfit : o + cs.length ≤ cur.size) (h1 : ∀ v ∈ cs, v.oneCell' = true) :
    (Builtin.copy_ #[dT, sT] ty #[.slice (some ⟨g, o, none⟩) dLen dCap, .slice (some a) sLen sCap]).run P w =
      .ok (goInt (Nat.min sLen dLen)) (w.setRow g (cur.toList.take o ++ cs ++ cur.toList.drop (o + cs.length)).toArray) := by
  have hl := run_loadCells_list (P := P) w a cs hsrc
  have hst := run_storeCells_at P g o t cs 0 cur w hg (by simpa using hfit) h1
  cases hq : P.info? elem with
  | none => simp [hq] at hs
  | some i =>
    have hi : i.size = 2 := by simpa [hq] using hs
    simp [Builtin.copy_, run_underlying hu, Builtin.lenOf, Builtin.firstCells, sizeOf, typeInfo, hq, hi, ← hn, hl, hst]

/-- A step's cells. -/
def pad4c (ps : List Pr) : List Pr := (ps ++ List.replicate 4 (0, 0)).take 4
def stpV (c : Pr) (ps : List Pr) : List Value := enP c ++ rowP (pad4c ps)

theorem infoPq2 : (Tryz.prog.info? 34).map (·.size) = some 2 := by kernel_rfl

set_option maxRecDepth 100000 in
set_option maxHeartbeats 400000 in
theorem newStep_in (w : World) (c : Pr) (pa : Option Addr) (pc : Nat) (ps : List Pr) (hp : PsAt w (.slice pa ps.length pc) ps) (h4 : 1 ≤ ps.length ∧ ps.length ≤ 4) : Calls Tryz.prog 142 #[.agg #[.int .i64 (c.1 : Int), .int .i64 (c.2 : Int)], .slice pa ps.length pc] w fun e w' => e = .returned (.agg (stpV c ps).toArray) ∧ Below w.heap.size w w' := by
  obtain ⟨a, c', e, hp⟩ := hp
  simp only [Value.slice.injEq, true_and] at e
  obtain ⟨rfl, rfl⟩ := e
  rcases hp with rfl | ⟨b, off, rfl, hp⟩
  · simp at h4
  have CP : ∀ W : World, Below w.heap.size w W → ∀ (g : Nat) (cur : Array Value), W.heap[g]? = some (.cells cur 206 (0, 0)) → cur.size = 10 → (Builtin.copy_ #[109, 109] 3 #[.slice (some ⟨g, 2, none⟩) 4 4, .slice (some ⟨b, off, none⟩) ps.length pc]).run Tryz.prog W = .ok (goInt ps.length) (W.setRow g (cur.toList.take 2 ++ rowP ps ++ cur.toList.drop (2 + (rowP ps).length)).toArray) := fun W hB g cur hg hc => by
    have hmin : Nat.min ps.length 4 = ps.length := Nat.min_eq_left h4.2
    have := run_copy_two (P := Tryz.prog) W 109 109 3 34 g 2 4 4 ⟨b, off, none⟩ ps.length pc cur 206 (rowP ps) Tryz.underlying109 infoPq2 hg (by rw [hmin, rowP_len]) (fun j v hj => by
      have hjl : j < ps.length * 2 := by rw [← rowP_len]; exact (List.getElem?_eq_some_iff.1 hj).1
      have hd : j / 2 < ps.length := by omega
      have q := hp (j / 2) _ (List.getElem?_eq_getElem hd)
      have r := rowP_get (List.getElem?_eq_getElem hd)
      have hlt := World.block_lt_of_cell? w _ q.1
      have e := hB.block b hlt
      rw [Addr.add_lit]
      rcases Nat.mod_two_eq_zero_or_one j with hm | hm
      · have ej : j / 2 * 2 = j := by omega
        rw [ej] at q r
        rw [r.1] at hj
        cases hj
        exact (World.cell?_of_block (a := ⟨b, off + j, none⟩) e).trans q.1
      · have ej : j / 2 * 2 + 1 = j := by omega
        have eo : off + j / 2 * 2 + 1 = off + j := by omega
        rw [eo] at q
        rw [ej] at r
        rw [r.2] at hj
        cases hj
        exact (World.cell?_of_block (a := ⟨b, off + j, none⟩) e).trans q.2) (by rw [rowP_len]; omega) (fun v hv => by
        simp only [rowP, List.mem_flatMap, enP] at hv
        obtain ⟨p, _, hv⟩ := hv
        simp at hv
        rcases hv with rfl | rfl <;> rfl)
    rw [hmin] at this
    exact this
  clear hp
  have HB : Hid (_) := (((Below.refl w.heap.size w).alloc (Nat.le_refl _) (.cells #[.int .i64 (c.1 : Int), .int .i64 (c.2 : Int)] 34)).alloc (by simp) (.cells #[.int .i64 0, .int .i64 0, .int .i64 0, .int .i64 0, .int .i64 0, .int .i64 0, .int .i64 0, .int .i64 0, .int .i64 0, .int .i64 0] 206)).alloc (by simp; omega) (.cells #[.int .i64 (c.1 : Int), .int .i64 (c.2 : Int), .int .i64 0, .int .i64 0, .int .i64 0, .int .i64 0, .int .i64 0, .int .i64 0, .int .i64 0, .int .i64 0] 206)
  have CP := CP _ HB.out (w.heap.size + 1 + 1) _ (by
    have := World.alloc_heap_new ((w.alloc (.cells #[.int .i64 (c.1 : Int), .int .i64 (c.2 : Int)] 34)).alloc (.cells #[.int .i64 0, .int .i64 0, .int .i64 0, .int .i64 0, .int .i64 0, .int .i64 0, .int .i64 0, .int .i64 0, .int .i64 0, .int .i64 0] 206)) (.cells #[.int .i64 (c.1 : Int), .int .i64 (c.2 : Int), .int .i64 0, .int .i64 0, .int .i64 0, .int .i64 0, .int .i64 0, .int .i64 0, .int .i64 0, .int .i64 0] 206)
    simpa using this) rfl
  have hz : ((w.alloc (.cells #[.int .i64 (c.1 : Int), .int .i64 (c.2 : Int)] 34)).alloc (.cells #[.int .i64 0, .int .i64 0, .int .i64 0, .int .i64 0, .int .i64 0, .int .i64 0, .int .i64 0, .int .i64 0, .int .i64 0, .int .i64 0] 206)).heap.size = w.heap.size + 1 + 1 := by simp
  have SR := World.setRow_alloc_new ((w.alloc (.cells #[.int .i64 (c.1 : Int), .int .i64 (c.2 : Int)] 34)).alloc (.cells #[.int .i64 0, .int .i64 0, .int .i64 0, .int .i64 0, .int .i64 0, .int .i64 0, .int .i64 0, .int .i64 0, .int .i64 0, .int .i64 0] 206)) #[.int .i64 (c.1 : Int), .int .i64 (c.2 : Int), .int .i64 0, .int .i64 0, .int .i64 0, .int .i64 0, .int .i64 0, .int .i64 0, .int .i64 0, .int .i64 0] (stpV c ps).toArray 206
  rw [hz] at SR
  have hst : (#[Value.int .i64 (c.1 : Int), .int .i64 (c.2 : Int), .int .i64 0, .int .i64 0, .int .i64 0, .int .i64 0, .int .i64 0, .int .i64 0, .int .i64 0, .int .i64 0].toList.take 2 ++ rowP ps ++ #[Value.int .i64 (c.1 : Int), .int .i64 (c.2 : Int), .int .i64 0, .int .i64 0, .int .i64 0, .int .i64 0, .int .i64 0, .int .i64 0, .int .i64 0, .int .i64 0].toList.drop (2 + (rowP ps).length)) = stpV c ps := by
    match ps, h4 with
    | [a], _ => rfl
    | [a, b], _ => rfl
    | [a, b, d], _ => rfl
    | [a, b, d, f], _ => rfl
    | a :: b :: d :: f :: g :: r, h4 => simp at h4
  rw [hst, SR] at CP
  have HB2 : Hid (_) := (((Below.refl w.heap.size w).alloc (Nat.le_refl _) (.cells #[.int .i64 (c.1 : Int), .int .i64 (c.2 : Int)] 34)).alloc (by simp) (.cells #[.int .i64 0, .int .i64 0, .int .i64 0, .int .i64 0, .int .i64 0, .int .i64 0, .int .i64 0, .int .i64 0, .int .i64 0, .int .i64 0] 206)).alloc (by simp; omega) (.cells (stpV c ps).toArray 206)
  have hsv : ∃ x0 x1 x2 x3 x4 x5 x6 x7 x8 x9 : Int, stpV c ps = [.int .i64 x0, .int .i64 x1, .int .i64 x2, .int .i64 x3, .int .i64 x4, .int .i64 x5, .int .i64 x6, .int .i64 x7, .int .i64 x8, .int .i64 x9] := by
    match ps, h4 with
    | [a], _ => exact ⟨_, _, _, _, _, _, _, _, _, _, rfl⟩
    | [a, b], _ => exact ⟨_, _, _, _, _, _, _, _, _, _, rfl⟩
    | [a, b, d], _ => exact ⟨_, _, _, _, _, _, _, _, _, _, rfl⟩
    | [a, b, d, f], _ => exact ⟨_, _, _, _, _, _, _, _, _, _, rfl⟩
    | a :: b :: d :: f :: g :: r, h4 => simp at h4
  obtain ⟨x0, x1, x2, x3, x4, x5, x6, x7, x8, x9, hsv⟩ := hsv
  rw [hsv] at CP HB2 ⊢
  generalize ps.length = n at *
  clear hst SR hsv HB
  go_enter Tryz.func142, Tryz.ntmps142
  go_wp2_with fail
  refine ⟨rfl, .agg #[.int .i64 x0, .int .i64 x1, .int .i64 x2, .int .i64 x3, .int .i64 x4, .int .i64 x5, .int .i64 x6, .int .i64 x7, .int .i64 x8, .int .i64 x9], by simp [results, Tryz.results142, go_sem], rfl, ?_⟩
  exact (((Below.refl w.heap.size w).alloc (Nat.le_refl _) _).alloc (by simp) _).alloc (by simp; omega) _

end Go.Proofs.YtlehlgipbhfioaaGreat
