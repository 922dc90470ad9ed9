/- Package term: how high terms are, and what they show, plainly. strings.Builder at this program: copyCheck, WriteByte, WriteString. strings.Builder's String at this program, laid by the kit's own tool, in plain words. -/
import Derived.Test.YtinphcnknionmabTermQ
import Derived.Test.YtinphcnknionmabP01
import Derived.Lib.FrozenHead2
import Derived.Lib.OthersKept
import Derived.Lib.Builder
import Derived.Shelf.Strings.BuilderK
import Derived.Test.YtinphcnknionmabProg
namespace Go.Proofs.Ytinphcnknionmab
open Go.RowKit Go.Maps

/-- A term that is at most f high. -/
def Hgt (l : List Tm) : Nat → Nat → Prop
  | 0, _ => False
  | f + 1, n => ∃ t, l[n]? = some t ∧ ∀ a ∈ t.args, Hgt l f a

theorem Hgt.lt {l : List Tm} {f n : Nat} (h : Hgt l f n) : n < l.length := by
  cases f with
  | zero => exact h.elim
  | succ f =>
    obtain ⟨t, ht, _⟩ := h
    exact (List.getElem?_eq_some_iff.1 ht).1
theorem Hgt.up {l : List Tm} : ∀ {f n : Nat}, Hgt l f n → Hgt l (f + 1) n
  | 0, _, h => h.elim
  | _ + 1, _, ⟨t, ht, ha⟩ => ⟨t, ht, fun a h => (ha a h).up⟩
theorem Hgt.mono {l : List Tm} {f g n : Nat} (h : Hgt l f n) (hfg : f ≤ g) : Hgt l g n := by
  induction hfg with
  | refl => exact h
  | step _ ih => exact ih.up
theorem Hgt.prefix {l l' : List Tm} (hl : l <+: l') : ∀ {f n : Nat}, Hgt l f n → Hgt l' f n
  | 0, _, h => h.elim
  | _ + 1, _, ⟨t, ht, ha⟩ => ⟨t, by
      obtain ⟨r, rfl⟩ := hl
      rw [List.getElem?_append_left (List.getElem?_eq_some_iff.1 ht).1]
      exact ht, fun a h => (ha a h).prefix hl⟩

/-- All are at most 13 high. -/
def Hs (l : List Tm) : Prop := ∀ n, n < l.length → Hgt l 13 n

theorem nix_get {l : List Tm} {t : Tm} {i : Nat} (h : nix l t = some i) : l[i]? = some t := by
  obtain ⟨hi, hp, _⟩ := List.findIdx?_eq_some_iff_getElem.1 h
  rw [List.getElem?_eq_getElem hi, of_decide_eq_true hp]
theorem addN_at (l : List Tm) (t : Tm) : (addL l t)[addN l t]? = some t := by
  unfold addL addN
  cases h : nix l t with
  | some i => simpa using nix_get h
  | none => simp

theorem Hs.add {l : List Tm} (h : Hs l) {t : Tm} {g : Nat} (hg : g ≤ 12) (ha : ∀ a ∈ t.args, Hgt l g a) : Hs (addL l t) ∧ Hgt (addL l t) (g + 1) (addN l t) := by
  have h1 : Hgt (addL l t) (g + 1) (addN l t) := ⟨t, addN_at l t, fun a x => (ha a x).prefix (addL_prefix l t)⟩
  refine ⟨fun n hn => ?_, h1⟩
  by_cases hl : n < l.length
  · exact (h n hl).prefix (addL_prefix l t)
  · have : n = addN l t := by
      unfold addL at hn
      cases hx : nix l t with
      | some i => simp [hx] at hn; omega
      | none => simp [hx] at hn; simp [addN, hx]; omega
    rw [this]
    exact h1.mono (by omega)

theorem p_hs (s : ByteArray) : ∀ f : Nat,
    (∀ above i l n k l', i ≤ s.size → Hs l → pTerm s f above i l = .ok n k l' → Hs l' ∧ above ≤ 12 ∧ Hgt l' (13 - above) n) ∧
    (∀ above i l xs x k l', i ≤ s.size → Hs l → (∀ a ∈ xs, Hgt l (13 - above) a) → pArgs s f above i l xs = .ok x k l' → Hs l' ∧ ∀ a ∈ x, Hgt l' (13 - above) a)
  | 0 => ⟨fun _ _ _ _ _ _ _ _ e => (by rw [pTerm] at e; cases e), fun _ _ _ _ _ _ _ _ _ _ e => (by rw [pArgs] at e; cases e)⟩
  | f + 1 => by
    obtain ⟨IT, IA⟩ := p_hs s f
    obtain ⟨GT, GA⟩ := p_grows s f
    constructor
    · intro above i l n k l' hi hs e
      rw [pTerm] at e
      split at e
      · cases e
      · have h4 := bl_le (nmE_le hi)
        split at e
        · cases e
        · next ha =>
          split at e
          · next hst =>
            have h6 := behind_le (c := 40) h4
            split at e
            · cases e
            · next xs k2 l2 hx =>
              obtain ⟨A1, A2⟩ := IA _ _ _ _ _ _ _ h6 hs (by simp) hx
              unfold pEnd at e
              split at e
              · injection e with e1 e2 e3
                subst e1 e2 e3
                obtain ⟨B1, B2⟩ := A1.add (t := ⟨s.extract i (nmE s i), xs⟩) (g := 13 - (above + 1)) (by omega) A2
                exact ⟨B1, by omega, by rw [show 13 - above = 13 - (above + 1) + 1 from by omega]; exact B2⟩
              · cases e
          · unfold pEnd at e
            split at e
            · injection e with e1 e2 e3
              subst e1 e2 e3
              obtain ⟨B1, B2⟩ := hs.add (t := ⟨s.extract i (nmE s i), []⟩) (g := 13 - (above + 1)) (by omega) (by simp)
              exact ⟨B1, by omega, by rw [show 13 - above = 13 - (above + 1) + 1 from by omega]; exact B2⟩
            · cases e
    · intro above i l xs x k l' hi hs hxs e
      rw [pArgs] at e
      split at e
      · cases e
      · split at e
        · cases e
        · split at e
          · cases e
          · next n k2 l2 hx =>
            obtain ⟨A1, _, A2⟩ := IT _ _ _ _ _ _ hi hs hx
            obtain ⟨B0, B1⟩ := GT above i l hi
            obtain ⟨B2, B3⟩ := B1 n k2 l2 hx
            rw [hx] at B0
            have hxs2 : ∀ a ∈ xs ++ [n], Hgt l2 (13 - above) a := by
              intro a ha
              rcases List.mem_append.1 ha with ha | ha
              · exact (hxs a ha).prefix B0
              · rw [List.mem_singleton.1 ha]; exact A2
            split at e
            · injection e with e1 e2 e3
              subst e1 e2 e3
              exact ⟨A1, hxs2⟩
            · split at e
              · exact IA _ _ _ _ _ _ _ (behind_le B3) A1 hxs2 e
              · cases e

/-- f 0, f 1 .. with commas between, up to k. -/
def joinTo (f : Nat → List UInt8) : Nat → List UInt8
  | 0 => []
  | k + 1 => joinTo f k ++ ((if k = 0 then [] else [44]) ++ f k)
theorem joinTo_congr {f g : Nat → List UInt8} : ∀ {k : Nat}, (∀ j, j < k → f j = g j) → joinTo f k = joinTo g k
  | 0, _ => rfl
  | k + 1, h => by rw [joinTo, joinTo, joinTo_congr (fun j hj => h j (by omega)), h k (by omega)]

/-- What a term shows. -/
def shw (l : List Tm) : Nat → Nat → List UInt8
  | 0, _ => []
  | f + 1, n => match l[n]? with
    | none => []
    | some t => t.name.data.toList ++ (if t.args.length = 0 then [] else 40 :: (joinTo (fun j => shw l f (t.arg j)) t.args.length ++ [41]))

theorem arg_mem {t : Tm} {j : Nat} (h : j < t.args.length) : t.arg j ∈ t.args := by
  unfold Tm.arg
  rw [List.getD_eq_getElem?_getD, List.getElem?_eq_getElem h]
  simp

theorem shw_up {l : List Tm} : ∀ {f n : Nat}, Hgt l f n → shw l (f + 1) n = shw l f n
  | 0, _, h => h.elim
  | f + 1, n, ⟨t, ht, ha⟩ => by
    rw [shw, shw, ht]
    simp only
    rw [joinTo_congr (fun j hj => shw_up (ha _ (arg_mem hj)))]
theorem shw_mono {l : List Tm} {f g n : Nat} (h : Hgt l f n) (hfg : f ≤ g) : shw l g n = shw l f n := by
  induction hfg with
  | refl => rfl
  | step hle ih => rw [shw_up (h.mono hle), ih]
theorem shw_prefix {l l' : List Tm} (hl : l <+: l') : ∀ {f n : Nat}, Hgt l f n → shw l' f n = shw l f n
  | 0, _, h => h.elim
  | f + 1, n, ⟨t, ht, ha⟩ => by
    have ht' : l'[n]? = some t := by
      obtain ⟨r, rfl⟩ := hl
      rw [List.getElem?_append_left (List.getElem?_eq_some_iff.1 ht).1]
      exact ht
    rw [shw, shw, ht, ht']
    simp only
    rw [joinTo_congr (fun j hj => shw_prefix hl (ha _ (arg_mem hj)))]

theorem joinTo_len {f : Nat → List UInt8} {M : Nat} : ∀ {k : Nat}, (∀ j, j < k → (f j).length ≤ M) → (joinTo f k).length ≤ k * (M + 1)
  | 0, _ => by simp [joinTo]
  | k + 1, h => by
    rw [joinTo]
    have h1 := joinTo_len (k := k) (fun j hj => h j (by omega))
    have h2 := h k (by omega)
    rw [List.length_append, List.length_append, Nat.succ_mul]
    have h3 : (if k = 0 then ([] : List UInt8) else [44]).length ≤ 1 := by split <;> simp
    omega

theorem shw_len {l : List Tm} (hok : ∀ t ∈ l, t.ok) : ∀ (f n : Nat), (shw l f n).length ≤ 12 * 5 ^ f
  | 0, n => by simp [shw]
  | f + 1, n => by
    rw [shw]
    cases ht : l[n]? with
    | none => simp
    | some t =>
      simp only
      have hk := hok t (List.mem_of_getElem? ht)
      have h1 : t.name.data.toList.length ≤ 6 := by simpa using hk.name
      have hp : 1 ≤ 5 ^ f := Nat.one_le_pow _ _ (by omega)
      rw [List.length_append, Nat.pow_succ]
      split
      · rw [List.length_nil]; omega
      · have h2 := joinTo_len (f := fun j => shw l f (t.arg j)) (k := t.args.length) (fun j _ => shw_len hok f (t.arg j))
        have h3 : t.args.length * (12 * 5 ^ f + 1) ≤ 4 * (12 * 5 ^ f + 1) := Nat.mul_le_mul_right _ hk.args
        rw [List.length_cons, List.length_append]
        simp only [List.length_cons, List.length_nil]
        omega

/-- While the program writes: k args are written. -/
def accW (f : Nat → List UInt8) (k : Nat) : List UInt8 := if k = 0 then [] else 40 :: joinTo f k
def signW (k : Nat) : Nat := if k = 0 then 40 else 44
theorem accW_step (f : Nat → List UInt8) (k : Nat) : accW f (k + 1) = accW f k ++ (UInt8.ofNat (signW k) :: f k) := by
  unfold accW signW
  by_cases h : k = 0
  · subst h; simp [joinTo]
  · simp [h, joinTo]

end Go.Proofs.Ytinphcnknionmab

namespace Go.Proofs.Ytinphcnknionmab
open Go.RowKit

theorem sizeBld : (Try.prog.info? 92).map (·.size) = some 2 := by kernel_rfl
theorem liesBld : liesAt Try.prog Try.prog.depth 92 (2 / Try.prog.cellsOf 92) 0 92 1 = true := by kernel_rfl
theorem infoByte : (Try.prog.info? 5).map (fun i => (i.zero, i.size, i.bytes)) = some (some (.int .u8 0), 1, 1) := by kernel_rfl

set_option maxHeartbeats 1000000 in
set_option maxRecDepth 100000 in
theorem check_used (b : Nat) (w : World) (h0 : w.cell? ⟨b, 0, none⟩ = some (.pointer (some ⟨b, 0, none⟩))) :
    Calls Try.prog 53 #[.pointer (some ⟨b, 0, none⟩)] w fun e w' => e = .returned (.tuple #[]) ∧ w' = w := by
  obtain ⟨j, hj, _⟩ := Option.map_eq_some_iff.1 sizeBld
  go_enter Try.func53, Try.ntmps53
  go_wp2
  rw [Lib.run_neq_ptr_same w _ Try.underlying89 hj]
  go_wp2
  go_end0
  exact ⟨rfl, rfl⟩

set_option maxHeartbeats 1000000 in
set_option maxRecDepth 100000 in
theorem check_fresh (b : Nat) (w : World) (h0 : w.cell? ⟨b, 0, none⟩ = some (.pointer none)) (hsh : w.shape? b = some (92, 2)) (hfz : w.frozen? ⟨b, 0, none⟩ = false) :
    Calls Try.prog 53 #[.pointer (some ⟨b, 0, none⟩)] w fun e w' => e = .returned (.tuple #[]) ∧ w' = w.setCell ⟨b, 0, none⟩ (.pointer (some ⟨b, 0, none⟩)) := by
  obtain ⟨j, hj, hjs⟩ := Option.map_eq_some_iff.1 sizeBld
  go_enter Try.func53, Try.ntmps53
  go_wp2
  rw [Lib.run_to_unsafe w ⟨b, 0, none⟩ Try.underlying89 Try.underlying124 hj (by rw [hjs]; decide) hsh (Nat.zero_lt_succ 1)]
  simp only [Result.andThen]
  rw [Oper.upon_value]
  go_wp2
  rw [run_callFunc_extern Try.func60 (by kernel_rfl) (by kernel_rfl) (by kernel_rfl) (e := Extern.AbiNoEscape.same) (by kernel_rfl)]
  rw [Lib.run_noEscape]
  simp only [Result.andThen]
  rw [Oper.upon_value]
  go_wp2
  rw [Lib.run_from_unsafe w ⟨b, 0, none⟩ Try.underlying124 Try.underlying89 hj hsh liesBld]
  simp only [Result.andThen]
  rw [Oper.upon_value]
  go_wp2
  go_end0
  exact ⟨rfl, rfl⟩

/-- A builder at b that holds bs. -/
abbrev Bld (w : World) (B b : Nat) (bs : List Value) : Prop := Lib.IsBuilderF 92 5 B b bs w
/-- What a builder leaves alone. -/
def BKept (B b : Nat) (w w' : World) : Prop := Below B w w' ∧ Lib.OthersKept 5 (some b) w w'

theorem check_in (B b : Nat) (bs : List Value) (w : World) (h : Bld w B b bs) :
    Calls Try.prog 53 #[.pointer (some ⟨b, 0, none⟩)] w fun e w' => e = .returned (.tuple #[]) ∧ (Lib.BuilderAtF 92 5 B b (.pointer (some ⟨b, 0, none⟩)) bs w' ∧ Below B w w' ∧ Lib.OthersKept 5 (some b) w w') := by
  rcases h with h | h
  · refine (check_fresh b w h.cell0 h.shape h.frozen0).mono ?_
    rintro e w' ⟨rfl, rfl⟩
    exact ⟨rfl, h.used _, (Below.refl B w).setCell (p := ⟨b, 0, none⟩) h.1 _, (Lib.OthersKept.refl _ _ w).setCell ⟨b, 0, none⟩ rfl _⟩
  · refine (check_used b w h.cell0).mono ?_
    rintro e w' ⟨rfl, rfl⟩
    exact ⟨rfl, h, Below.refl B _, Lib.OthersKept.refl _ _ _⟩

set_option maxHeartbeats 1000000 in
set_option maxRecDepth 100000 in
theorem wbyte_in (B b : Nat) (bs : List Value) (c : Int) (w : World) (h : Bld w B b bs) (hlen : bs.length + 1 ≤ 140737488355328) (hBw : B ≤ w.heap.size) :
    Calls Try.prog 61 #[.pointer (some ⟨b, 0, none⟩), .int .u8 c] w fun e w' => e = .returned .nilIface ∧ Bld w' B b (bs ++ [.int .u8 c]) ∧ BKept B b w w' := by
  obtain ⟨i0, hi, hz0, hz1, hz2⟩ := info_parts infoByte
  go_enter Try.func61, Try.ntmps61
  go_wp2_with (go_at_call 53; refine (check_in B b bs _ h).mono ?_)
  rintro e w1 ⟨rfl, h1, hb1, hk1⟩
  obtain ⟨hB, v, hbk, hown, hne⟩ := h1
  have c0 : w1.cell? ⟨b, 0, none⟩ = some (.pointer (some ⟨b, 0, none⟩)) := by rw [Lib.cell_of_heap hbk]; rfl
  have c1 : w1.cell? ⟨b, 1, none⟩ = some v := by rw [Lib.cell_of_heap hbk]; rfl
  go_wp2_with (at_builtin; refine wpList_append_ownF _ rfl _ _ 90 rfl B 5 i0 (.int .u8 0) 1 1 Try.underlying90 hi hz0 hz1 hz2 rfl (by decide) _ _ _ rfl (hown.alloc _) ⟨w1.heap.size, 0, none⟩ 1 1 [.int .u8 c] rfl rfl ?c1 ?c2 ?c3 ?c4 ?c5 ?_)
  case c1 =>
    intro j u hj
    match j, hj with
    | 0, hj => simp at hj; subst hj; simp [Addr.add]
  case c2 => intro u hu; simp at hu; subst hu; rfl
  case c3 => unfold maxLen; omega
  case c4 => omega
  case c5 => have := hb1.size; simp; omega
  intro v' w2 hown' hgrow _
  have hlt : b < w1.heap.size := by
    rcases Nat.lt_or_ge b w1.heap.size with h' | h'
    · exact h'
    · simp [Array.getElem?_eq_none h'] at hbk
  have hb2 : w2.heap[b]? = some (.cells #[.pointer (some ⟨b, 0, none⟩), v] 92 (0, 0)) := by
    rw [hgrow.block b (by simp; omega) (fun e => hne e.symm), Lib.alloc_old w1 _ b hlt]
    exact hbk
  have d0 : w2.cell? ⟨b, 0, none⟩ = some (.pointer (some ⟨b, 0, none⟩)) := by rw [Lib.cell_of_heap hb2]; rfl
  have d1 : w2.cell? ⟨b, 1, none⟩ = some v := by rw [Lib.cell_of_heap hb2]; rfl
  have f1 : w2.frozen? ⟨b, 1, none⟩ = false := Lib.frozen_of_heap hb2 1
  obtain ⟨g, cap, rfl⟩ : ∃ g cap, v' = .slice (some ⟨g, 0, none⟩) (bs.length + 1) cap := by
    rcases hown'.2 with ⟨_, h0⟩ | ⟨g, cap, cur, fz, hv, _⟩
    · omega
    · exact ⟨g, cap, hv⟩
  go_wp2
  go_ret
  refine ⟨rfl, Or.inr ?_, ?_, ((hk1.alloc _).grown hgrow (Lib.ownsRowF_kind (hown.alloc _))).setCell ⟨b, 1, none⟩ rfl _⟩
  · exact Lib.BuilderAtF.put (T := 92) (e := 5) hB hb2 (bs' := bs ++ [.int .u8 c]) (by simpa using hown') (by decide)
  · exact ((hb1.alloc (by have := hb1.size; omega) _).grown hgrow (by have := hb1.size; simp; omega) (fun k hk => (hown.lt k hk).1)).setCell (p := ⟨b, 1, none⟩) hB _

set_option maxHeartbeats 1000000 in
set_option maxRecDepth 100000 in
theorem wstring_in (B b : Nat) (bs : List Value) (s : ByteArray) (w : World) (h : Bld w B b bs) (hlen : bs.length + s.size ≤ 140737488355328) (hBw : B ≤ w.heap.size) :
    Calls Try.prog 38 #[.pointer (some ⟨b, 0, none⟩), .string s] w fun e w' => e = .returned (.tuple #[.int .i64 s.size, .nilIface]) ∧ Bld w' B b (bs ++ Lib.strCells s) ∧ BKept B b w w' := by
  obtain ⟨i0, hi, hz0, hz1, hz2⟩ := info_parts infoByte
  go_enter Try.func38, Try.ntmps38
  go_wp2_with (go_at_call 53; refine (check_in B b bs _ h).mono ?_)
  rintro e w1 ⟨rfl, h1, hb1, hk1⟩
  obtain ⟨hB, v, hbk, hown, hne⟩ := h1
  have c0 : w1.cell? ⟨b, 0, none⟩ = some (.pointer (some ⟨b, 0, none⟩)) := by rw [Lib.cell_of_heap hbk]; rfl
  have c1 : w1.cell? ⟨b, 1, none⟩ = some v := by rw [Lib.cell_of_heap hbk]; rfl
  go_wp2_with (at_builtin; refine Lib.wpList_append_own_stringF _ rfl _ _ 90 9 rfl B 5 i0 Try.underlying90 Try.underlying9 hi hz0 hz1 hz2 _ _ _ rfl hown s rfl ?c3 ?c4 ?c5 ?_)
  case c3 => unfold maxLen; omega
  case c4 => omega
  case c5 => have := hb1.size; omega
  intro v' w2 hown' hgrow _
  have hlt : b < w1.heap.size := by
    rcases Nat.lt_or_ge b w1.heap.size with h' | h'
    · exact h'
    · simp [Array.getElem?_eq_none h'] at hbk
  have hb2 : w2.heap[b]? = some (.cells #[.pointer (some ⟨b, 0, none⟩), v] 92 (0, 0)) := by
    rw [hgrow.block b hlt (fun e => hne e.symm)]
    exact hbk
  have d0 : w2.cell? ⟨b, 0, none⟩ = some (.pointer (some ⟨b, 0, none⟩)) := by rw [Lib.cell_of_heap hb2]; rfl
  have d1 : w2.cell? ⟨b, 1, none⟩ = some v := by rw [Lib.cell_of_heap hb2]; rfl
  have f1 : w2.frozen? ⟨b, 1, none⟩ = false := Lib.frozen_of_heap hb2 1
  obtain ⟨ao, n', cap, rfl⟩ : ∃ ao n' cap, v' = .slice ao n' cap := by
    rcases hown'.2 with ⟨hv, _⟩ | ⟨g, cap, cur, fz, hv, _⟩
    · exact ⟨_, _, _, hv⟩
    · exact ⟨_, _, _, hv⟩
  go_wp2
  go_ret2
  refine ⟨rfl, Or.inr ?_, ?_, (hk1.grown hgrow (Lib.ownsRowF_kind hown)).setCell ⟨b, 1, none⟩ rfl _⟩
  · exact Lib.BuilderAtF.put (T := 92) (e := 5) hB hb2 (bs' := bs ++ Lib.strCells s) (by simpa [Lib.strCells_length] using hown') (by decide)
  · exact (hb1.grown hgrow (by have := hb1.size; omega) (fun k hk => (hown.lt k hk).1)).setCell (p := ⟨b, 1, none⟩) hB _

end Go.Proofs.Ytinphcnknionmab

namespace Go.Proofs
open Go.Shelf
def Try.lays169_ren : Go.Shelf.Ren := ⟨fun | 169 => 42 | n => n, fun | 70 => 89 | 9 => 9 | 0 => 0 | 72 => 92 | 37 => 90 | 127 => 120 | 3 => 3 | 5 => 5 | n => n, fun | n => n⟩
theorem Try.lays169 : Go.Proofs.Lays.n169 Try.prog Try.lays169_ren := {
  mixed := by kernel_rfl
  f169 := Try.func42.trans (congrArg some (by kernel_rfl))
  t0 := Try.underlying0
  a0 := Try.isAgg0
  z0 := Try.sizeOf0
  v0 := Try.zeroValue0
  t3 := Try.underlying3
  a3 := Try.isAgg3
  z3 := Try.sizeOf3
  v3 := Try.zeroValue3
  t9 := Try.underlying9
  a9 := Try.isAgg9
  z9 := Try.sizeOf9
  v9 := Try.zeroValue9
  t37 := Try.underlying90
  a37 := Try.isAgg90
  z37 := Try.sizeOf90
  v37 := Try.zeroValue90
  t70 := Try.underlying89
  a70 := Try.isAgg89
  z70 := Try.sizeOf89
  v70 := Try.zeroValue89
  t72 := Try.underlying92
  a72 := Try.isAgg92
  z72 := Try.sizeOf92
  v72 := Try.zeroValue92
  t127 := Try.underlying120
  a127 := Try.isAgg120
  z127 := Try.sizeOf120
  v127 := Try.zeroValue120 }
theorem Try.Builder_Extra_169 : Builder.Extra Try.prog Try.lays169_ren := {
  sizeBuilder := by kernel_rfl
  liesBuilder := by kernel_rfl
  t5 := Try.underlying5
  a5 := Try.isAgg5
  z5 := Try.sizeOf5
  v5 := Try.zeroValue5
  infoByte := by kernel_rfl
  cellsByte := by kernel_rfl
  sizeByte := by kernel_rfl
  neB5 := by decide }
open Go.RowKit in
theorem Try.Builder_String_any_k (B b : Nat) (l : List UInt8) (w : World) (h : Lib.IsBuilderF 92 5 B b (Lib.byteCells l) w) (hBw : B ≤ w.heap.size) :
    Calls Try.prog 42 #[.pointer (some ⟨b, 0, none⟩)] w fun e w' => e = .returned (.string ⟨l.toArray⟩) ∧ (Lib.IsBuilderF 92 5 B b (Lib.byteCells l) w' ∧ Below B w w' ∧ Lib.OthersKept 5 (some b) w w') := Any.Builder_String_any_k Try.lays169 Try.Builder_Extra_169 B b l w h hBw
end Go.Proofs
