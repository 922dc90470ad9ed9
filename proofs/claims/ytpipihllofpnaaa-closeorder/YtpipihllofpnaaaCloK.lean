/- Package close: newClasses. -/
import Derived.Test.YtpipihllofpnaaaCloG
import Derived.Test.YtpipihllofpnaaaCloJ
namespace Go.Proofs.Ytpipihllofpnaaa
open Go.RowKit Go.Maps

theorem g0_lo : Uf.g0.lo = id := rfl

/-- What is known of the first k terms. -/
def Kn (l : List Tm) (k : Nat) (kn : Tm → Option Nat) : Prop := ∀ (s : Tm) (m : Nat), kn s = some m ↔ m < k ∧ ∃ t, l[m]? = some t ∧ Cc.sg id t = s
theorem Kn.step {l : List Tm} {k : Nat} {kn : Tm → Option Nat} (h : Kn l k kn) (hb : Cc.Bd l) {t : Tm} (ht : l[k]? = some t) : Kn l (k + 1) (fun u => if u = Cc.sg id t then some k else kn u) := by
  intro s m
  by_cases e : s = Cc.sg id t
  · subst e
    simp only [if_true]
    constructor
    · intro x
      cases x
      exact ⟨by omega, t, ht, rfl⟩
    · rintro ⟨_, u, hu, he⟩
      rw [Cc.sg_inj hb hu ht he]
  · simp only [e, if_false]
    rw [h s m]
    constructor
    · rintro ⟨h1, h2⟩
      exact ⟨by omega, h2⟩
    · rintro ⟨h1, u, hu, he⟩
      refine ⟨?_, u, hu, he⟩
      by_cases em : m = k
      · subst em
        rw [ht] at hu
        cases hu
        exact absurd he.symm e
      · omega

/-- The classes as they are made. -/
def z0 (l : List Tm) (pk ps nb tb ub mb : Nat) (av uv : Nat → Value) (st : List (Nat × Obj)) (kn : Tm → Option Nat) (ms : Nat) : Zs :=
  { pk := pk, ps := ps, nb := nb, tb := tb, ub := ub, mb := mb, jv := .slice none 0 0, bv := .slice none 0 0, av := av, uv := uv, g := Uf.g0, t := [], bs := [], st := st, us := fun i => Cc.usf (Cc.evs l 0) i, kn := kn, ms := ms }

theorem Cz.made {w w1 w2 : World} {base : Nat} {l : List Tm} {tb : Nat} {av : Nat → Value} {st : List (Nat × Obj)} (hR : w.rowIs tb 42 (l.length * 2) (termC l av)) (hS : Sat st w) (hA : ∀ (i : Nat) (t : Tm), l[i]? = some t → UseIs st (av i) t.args) (hb : Cc.Bd l) (hok : ∀ t ∈ l, t.ok) (hl : l.length ≤ 150)
    (hbase : base ≤ w.heap.size) (htb : base ≤ tb) (hst : ∀ x ∈ st, base ≤ x.1) (hsl : ∀ x ∈ st, x.1 < w.heap.size)
    (S1 : St w1 w.heap.size (w.heap.size + 1) w.heap.size (.slice none 0 0) l.length Uf.g0 []) (B1 : Below w.heap.size w w1) {ub : Nat} {uv : Nat → Value} {st2 : List (Nat × Obj)} (F : Fu w1 w2 ub l uv st2) :
    Cz ((w2.alloc (.map #[] 0)).alloc (.cells #[.pointer (some ⟨w.heap.size + 1, 0, none⟩), .slice (some ⟨tb, 0, none⟩) l.length l.length, .slice (some ⟨ub, 0, none⟩) l.length l.length, .map (some w2.heap.size), .slice none 0 0] 150)) base l
      (z0 l (w2.heap.size + 1) (w.heap.size + 1) w.heap.size tb ub w2.heap.size av uv (st ++ st2) (fun _ => none) 0) := by
  have k2 := F.kept
  have s1 := B1.size
  have s2 := k2.size
  have hlt1 : w.heap.size + 1 < w1.heap.size := S1.lies.sets.lt
  have hs : (w2.alloc (.map #[] 0)).heap.size = w2.heap.size + 1 := by simp
  have K4 : Kept0 w2 ((w2.alloc (.map #[] 0)).alloc (.cells #[.pointer (some ⟨w.heap.size + 1, 0, none⟩), .slice (some ⟨tb, 0, none⟩) l.length l.length, .slice (some ⟨ub, 0, none⟩) l.length l.length, .map (some w2.heap.size), .slice none 0 0] 150)) := Kept.alloc (Kept.alloc (Kept.refl _ w2) _) _
  have hlw : tb < w.heap.size := hR.lt
  have lub := F.ub
  have rub := F.row.lt
  refine ⟨?_, ?_, ?_, F.row.of_block (K4.block _ rub (fun e => e)), ?_, World.ownsRow_nil _ _ _ _, ?_, ?_, fun i t ht => (hA i t ht).mono (fun x hx => List.mem_append_left _ hx), fun i hi => (F.uses i hi).mono (fun x hx => List.mem_append_right _ hx), hb, hok, hl, ?_, htb, ?_, ?_⟩
  · have r := made_row (w2.alloc (.map #[] 0)) #[.pointer (some ⟨w.heap.size + 1, 0, none⟩), .slice (some ⟨tb, 0, none⟩) l.length l.length, .slice (some ⟨ub, 0, none⟩) l.length l.length, .map (some w2.heap.size), .slice none 0 0] 150
    rw [hs] at r
    refine r.congr (fun j hj => ?_)
    have hj' : j < 5 := hj
    rcases (by omega : j = 0 ∨ j = 1 ∨ j = 2 ∨ j = 3 ∨ j = 4) with rfl | rfl | rfl | rfl | rfl <;> rfl
  · have S2 := (S1.other F.kept (fun e => e) (fun e => e) (fun _ _ e => e)).other K4 (fun e => e) (fun e => e) (fun _ _ e => e)
    have L := S2.lies
    exact ⟨⟨L.sets, L.nodes, World.ownsRow_nil _ _ _ _, L.ne, L.jp, L.jn, by show base ≤ w.heap.size + 1; omega, hbase, L.small⟩, S2.hist, by have := K4.size; omega⟩
  · exact ((hR.of_block (B1.block _ hlw)).of_block (k2.block _ (by omega) (fun e => e))).of_block (K4.block _ (by omega) (fun e => e))
  · have m1 := World.ownsMap_made (H := Unit) w2 Try.prog 196 (plainElem Try.prog 3)
    exact ⟨.map [], mapIs_of (m1.alloc _), Nat.zero_le _, fun s _ => ⟨rfl, rfl⟩⟩
  · intro x hx
    rcases List.mem_append.1 hx with hx | hx
    · have := hsl x hx
      exact (K4.block _ (by omega) (fun e => e)).trans ((k2.block _ (by omega) (fun e => e)).trans ((B1.block _ this).trans (hS x hx)))
    · have := (Array.getElem?_eq_some_iff.1 (F.sat x hx)).1
      exact (K4.block _ this (fun e => e)).trans (F.sat x hx)
  · intro x hx
    rcases List.mem_append.1 hx with hx | hx
    · have := hsl x hx
      refine ⟨hst x hx, ?_⟩
      rintro (e | (e | e | e) | e | e | e)
      · have e' : x.1 = w2.heap.size + 1 := e; omega
      · have e' : x.1 = w.heap.size + 1 := e; omega
      · have e' : x.1 = w.heap.size := e; omega
      · simp [z0, Value.ownBlock] at e
      · have e' : x.1 = ub := e; omega
      · have e' : x.1 = w2.heap.size := e; omega
      · simp [z0, Value.ownBlock] at e
    · have h1 := F.far x hx
      have h2 := (Array.getElem?_eq_some_iff.1 (F.sat x hx)).1
      refine ⟨by omega, ?_⟩
      rintro (e | (e | e | e) | e | e | e)
      · have e' : x.1 = w2.heap.size + 1 := e; omega
      · have e' : x.1 = w.heap.size + 1 := e; omega
      · have e' : x.1 = w.heap.size := e; omega
      · simp [z0, Value.ownBlock] at e
      · exact h1.2 e
      · have e' : x.1 = w2.heap.size := e; omega
      · simp [z0, Value.ownBlock] at e
  · show base ≤ w2.heap.size + 1; omega
  · show base ≤ ub; omega
  · show base ≤ w2.heap.size; omega
