/- strings.Builder at this program: copyCheck, WriteByte, WriteString. strings.Builder's String at this program, laid by the kit's own tool, in plain words. Package term: write, Show. Package term: Term. The document's lists of terms: same, clashes. The document's lists of terms: clashes, put. -/
import Derived.Test.YtinphcnknionmaaG00
import Derived.Lib.FrozenHead2
import Derived.Lib.OthersKept
import Derived.Lib.Builder
import Derived.Shelf.Strings.BuilderK
import Derived.Test.YtinphcnknionmaaProg
import Derived.Test.YtinphcnknionmaaG23
import Derived.Test.YtinphcnknionmaaSFindC
import Derived.Test.YtinphcnknionmaaSRefA
import Derived.Deep.RegionWith
namespace Go.Proofs.Ytinphcnknionmaa
open Go.RowKit

theorem sizeBld : (Try.prog.info? 119).map (·.size) = some 2 := by kernel_rfl
theorem liesBld : liesAt Try.prog Try.prog.depth 119 (2 / Try.prog.cellsOf 119) 0 119 1 = true := by kernel_rfl
theorem infoByte : (Try.prog.info? 5).map (fun i => (i.zero, i.size, i.bytes)) = some (some (.int .u8 0), 1, 1) := by kernel_rfl

set_option maxHeartbeats 1000000 in
set_option maxRecDepth 100000 in
theorem check_used (b : Nat) (w : World) (h0 : w.cell? ⟨b, 0, none⟩ = some (.pointer (some ⟨b, 0, none⟩))) :
    Calls Try.prog 134 #[.pointer (some ⟨b, 0, none⟩)] w fun e w' => e = .returned (.tuple #[]) ∧ w' = w := by
  obtain ⟨j, hj, _⟩ := Option.map_eq_some_iff.1 sizeBld
  go_enter Try.func134, Try.ntmps134
  go_wp2
  rw [Lib.run_neq_ptr_same w _ Try.underlying116 hj]
  go_wp2
  go_end0
  exact ⟨rfl, rfl⟩

set_option maxHeartbeats 1000000 in
set_option maxRecDepth 100000 in
theorem check_fresh (b : Nat) (w : World) (h0 : w.cell? ⟨b, 0, none⟩ = some (.pointer none)) (hsh : w.shape? b = some (119, 2)) (hfz : w.frozen? ⟨b, 0, none⟩ = false) :
    Calls Try.prog 134 #[.pointer (some ⟨b, 0, none⟩)] w fun e w' => e = .returned (.tuple #[]) ∧ w' = w.setCell ⟨b, 0, none⟩ (.pointer (some ⟨b, 0, none⟩)) := by
  obtain ⟨j, hj, hjs⟩ := Option.map_eq_some_iff.1 sizeBld
  go_enter Try.func134, Try.ntmps134
  go_wp2
  rw [Lib.run_to_unsafe w ⟨b, 0, none⟩ Try.underlying116 Try.underlying234 hj (by rw [hjs]; decide) hsh (Nat.zero_lt_succ 1)]
  simp only [Result.andThen]
  rw [Oper.upon_value]
  go_wp2
  rw [run_callFunc_extern Try.func159 (by kernel_rfl) (by kernel_rfl) (by kernel_rfl) (e := Extern.AbiNoEscape.same) (by kernel_rfl)]
  rw [Lib.run_noEscape]
  simp only [Result.andThen]
  rw [Oper.upon_value]
  go_wp2
  rw [Lib.run_from_unsafe w ⟨b, 0, none⟩ Try.underlying234 Try.underlying116 hj hsh liesBld]
  simp only [Result.andThen]
  rw [Oper.upon_value]
  go_wp2
  go_end0
  exact ⟨rfl, rfl⟩

/-- A builder at b that holds bs. -/
abbrev Bld (w : World) (B b : Nat) (bs : List Value) : Prop := Lib.IsBuilderF 119 5 B b bs w
/-- What a builder leaves alone. -/
def BKept (B b : Nat) (w w' : World) : Prop := Below B w w' ∧ Lib.OthersKept 5 (some b) w w'

theorem check_in (B b : Nat) (bs : List Value) (w : World) (h : Bld w B b bs) :
    Calls Try.prog 134 #[.pointer (some ⟨b, 0, none⟩)] w fun e w' => e = .returned (.tuple #[]) ∧ (Lib.BuilderAtF 119 5 B b (.pointer (some ⟨b, 0, none⟩)) bs w' ∧ Below B w w' ∧ Lib.OthersKept 5 (some b) w w') := by
  rcases h with h | h
  · refine (check_fresh b w h.cell0 h.shape h.frozen0).mono ?_
    rintro e w' ⟨rfl, rfl⟩
    exact ⟨rfl, h.used _, (Below.refl B w).setCell (p := ⟨b, 0, none⟩) h.1 _, (Lib.OthersKept.refl _ _ w).setCell ⟨b, 0, none⟩ rfl _⟩
  · refine (check_used b w h.cell0).mono ?_
    rintro e w' ⟨rfl, rfl⟩
    exact ⟨rfl, h, Below.refl B _, Lib.OthersKept.refl _ _ _⟩

set_option maxHeartbeats 1000000 in
set_option maxRecDepth 100000 in
theorem wbyte_in (B b : Nat) (bs : List Value) (c : Int) (w : World) (h : Bld w B b bs) (hlen : bs.length + 1 ≤ 140737488355328) (hBw : B ≤ w.heap.size) :
    Calls Try.prog 117 #[.pointer (some ⟨b, 0, none⟩), .int .u8 c] w fun e w' => e = .returned .nilIface ∧ Bld w' B b (bs ++ [.int .u8 c]) ∧ BKept B b w w' := by
  obtain ⟨i0, hi, hz0, hz1, hz2⟩ := info_parts infoByte
  go_enter Try.func117, Try.ntmps117
  go_wp2_with (go_at_call 134; refine (check_in B b bs _ h).mono ?_)
  rintro e w1 ⟨rfl, h1, hb1, hk1⟩
  obtain ⟨hB, v, hbk, hown, hne⟩ := h1
  have c0 : w1.cell? ⟨b, 0, none⟩ = some (.pointer (some ⟨b, 0, none⟩)) := by rw [Lib.cell_of_heap hbk]; rfl
  have c1 : w1.cell? ⟨b, 1, none⟩ = some v := by rw [Lib.cell_of_heap hbk]; rfl
  go_wp2_with (at_builtin; refine wpList_append_ownF _ rfl _ _ 117 rfl B 5 i0 (.int .u8 0) 1 1 Try.underlying117 hi hz0 hz1 hz2 rfl (by decide) _ _ _ rfl (hown.alloc _) ⟨w1.heap.size, 0, none⟩ 1 1 [.int .u8 c] rfl rfl ?c1 ?c2 ?c3 ?c4 ?c5 ?_)
  case c1 =>
    intro j u hj
    match j, hj with
    | 0, hj => simp at hj; subst hj; simp [Addr.add]
  case c2 => intro u hu; simp at hu; subst hu; rfl
  case c3 => unfold maxLen; omega
  case c4 => omega
  case c5 => have := hb1.size; simp; omega
  intro v' w2 hown' hgrow _
  have hlt : b < w1.heap.size := by
    rcases Nat.lt_or_ge b w1.heap.size with h' | h'
    · exact h'
    · simp [Array.getElem?_eq_none h'] at hbk
  have hb2 : w2.heap[b]? = some (.cells #[.pointer (some ⟨b, 0, none⟩), v] 119 (0, 0)) := by
    rw [hgrow.block b (by simp; omega) (fun e => hne e.symm), Lib.alloc_old w1 _ b hlt]
    exact hbk
  have d0 : w2.cell? ⟨b, 0, none⟩ = some (.pointer (some ⟨b, 0, none⟩)) := by rw [Lib.cell_of_heap hb2]; rfl
  have d1 : w2.cell? ⟨b, 1, none⟩ = some v := by rw [Lib.cell_of_heap hb2]; rfl
  have f1 : w2.frozen? ⟨b, 1, none⟩ = false := Lib.frozen_of_heap hb2 1
  obtain ⟨g, cap, rfl⟩ : ∃ g cap, v' = .slice (some ⟨g, 0, none⟩) (bs.length + 1) cap := by
    rcases hown'.2 with ⟨_, h0⟩ | ⟨g, cap, cur, fz, hv, _⟩
    · omega
    · exact ⟨g, cap, hv⟩
  go_wp2
  go_ret
  refine ⟨rfl, Or.inr ?_, ?_, ((hk1.alloc _).grown hgrow (Lib.ownsRowF_kind (hown.alloc _))).setCell ⟨b, 1, none⟩ rfl _⟩
  · exact Lib.BuilderAtF.put (T := 119) (e := 5) hB hb2 (bs' := bs ++ [.int .u8 c]) (by simpa using hown') (by decide)
  · exact ((hb1.alloc (by have := hb1.size; omega) _).grown hgrow (by have := hb1.size; simp; omega) (fun k hk => (hown.lt k hk).1)).setCell (p := ⟨b, 1, none⟩) hB _

set_option maxHeartbeats 1000000 in
set_option maxRecDepth 100000 in
theorem wstring_in (B b : Nat) (bs : List Value) (s : ByteArray) (w : World) (h : Bld w B b bs) (hlen : bs.length + s.size ≤ 140737488355328) (hBw : B ≤ w.heap.size) :
    Calls Try.prog 103 #[.pointer (some ⟨b, 0, none⟩), .string s] w fun e w' => e = .returned (.tuple #[.int .i64 s.size, .nilIface]) ∧ Bld w' B b (bs ++ Lib.strCells s) ∧ BKept B b w w' := by
  obtain ⟨i0, hi, hz0, hz1, hz2⟩ := info_parts infoByte
  go_enter Try.func103, Try.ntmps103
  go_wp2_with (go_at_call 134; refine (check_in B b bs _ h).mono ?_)
  rintro e w1 ⟨rfl, h1, hb1, hk1⟩
  obtain ⟨hB, v, hbk, hown, hne⟩ := h1
  have c0 : w1.cell? ⟨b, 0, none⟩ = some (.pointer (some ⟨b, 0, none⟩)) := by rw [Lib.cell_of_heap hbk]; rfl
  have c1 : w1.cell? ⟨b, 1, none⟩ = some v := by rw [Lib.cell_of_heap hbk]; rfl
  go_wp2_with (at_builtin; refine Lib.wpList_append_own_stringF _ rfl _ _ 117 9 rfl B 5 i0 Try.underlying117 Try.underlying9 hi hz0 hz1 hz2 _ _ _ rfl hown s rfl ?c3 ?c4 ?c5 ?_)
  case c3 => unfold maxLen; omega
  case c4 => omega
  case c5 => have := hb1.size; omega
  intro v' w2 hown' hgrow _
  have hlt : b < w1.heap.size := by
    rcases Nat.lt_or_ge b w1.heap.size with h' | h'
    · exact h'
    · simp [Array.getElem?_eq_none h'] at hbk
  have hb2 : w2.heap[b]? = some (.cells #[.pointer (some ⟨b, 0, none⟩), v] 119 (0, 0)) := by
    rw [hgrow.block b hlt (fun e => hne e.symm)]
    exact hbk
  have d0 : w2.cell? ⟨b, 0, none⟩ = some (.pointer (some ⟨b, 0, none⟩)) := by rw [Lib.cell_of_heap hb2]; rfl
  have d1 : w2.cell? ⟨b, 1, none⟩ = some v := by rw [Lib.cell_of_heap hb2]; rfl
  have f1 : w2.frozen? ⟨b, 1, none⟩ = false := Lib.frozen_of_heap hb2 1
  obtain ⟨ao, n', cap, rfl⟩ : ∃ ao n' cap, v' = .slice ao n' cap := by
    rcases hown'.2 with ⟨hv, _⟩ | ⟨g, cap, cur, fz, hv, _⟩
    · exact ⟨_, _, _, hv⟩
    · exact ⟨_, _, _, hv⟩
  go_wp2
  go_ret2
  refine ⟨rfl, Or.inr ?_, ?_, (hk1.grown hgrow (Lib.ownsRowF_kind hown)).setCell ⟨b, 1, none⟩ rfl _⟩
  · exact Lib.BuilderAtF.put (T := 119) (e := 5) hB hb2 (bs' := bs ++ Lib.strCells s) (by simpa [Lib.strCells_length] using hown') (by decide)
  · exact (hb1.grown hgrow (by have := hb1.size; omega) (fun k hk => (hown.lt k hk).1)).setCell (p := ⟨b, 1, none⟩) hB _

end Go.Proofs.Ytinphcnknionmaa

namespace Go.Proofs
open Go.Shelf
def Try.lays169_ren : Go.Shelf.Ren := ⟨fun | 169 => 74 | n => n, fun | 70 => 116 | 9 => 9 | 0 => 0 | 72 => 119 | 37 => 117 | 127 => 191 | 3 => 3 | 5 => 5 | n => n, fun | n => n⟩
theorem Try.lays169 : Go.Proofs.Lays.n169 Try.prog Try.lays169_ren := {
  mixed := by kernel_rfl
  f169 := Try.func74.trans (congrArg some (by kernel_rfl))
  t0 := Try.underlying0
  a0 := Try.isAgg0
  z0 := Try.sizeOf0
  v0 := Try.zeroValue0
  t3 := Try.underlying3
  a3 := Try.isAgg3
  z3 := Try.sizeOf3
  v3 := Try.zeroValue3
  t9 := Try.underlying9
  a9 := Try.isAgg9
  z9 := Try.sizeOf9
  v9 := Try.zeroValue9
  t37 := Try.underlying117
  a37 := Try.isAgg117
  z37 := Try.sizeOf117
  v37 := Try.zeroValue117
  t70 := Try.underlying116
  a70 := Try.isAgg116
  z70 := Try.sizeOf116
  v70 := Try.zeroValue116
  t72 := Try.underlying119
  a72 := Try.isAgg119
  z72 := Try.sizeOf119
  v72 := Try.zeroValue119
  t127 := Try.underlying191
  a127 := Try.isAgg191
  z127 := Try.sizeOf191
  v127 := Try.zeroValue191 }
theorem Try.Builder_Extra_169 : Builder.Extra Try.prog Try.lays169_ren := {
  sizeBuilder := by kernel_rfl
  liesBuilder := by kernel_rfl
  t5 := Try.underlying5
  a5 := Try.isAgg5
  z5 := Try.sizeOf5
  v5 := Try.zeroValue5
  infoByte := by kernel_rfl
  cellsByte := by kernel_rfl
  sizeByte := by kernel_rfl
  neB5 := by decide }
open Go.RowKit in
theorem Try.Builder_String_any_k (B b : Nat) (l : List UInt8) (w : World) (h : Lib.IsBuilderF 119 5 B b (Lib.byteCells l) w) (hBw : B ≤ w.heap.size) :
    Calls Try.prog 74 #[.pointer (some ⟨b, 0, none⟩)] w fun e w' => e = .returned (.string ⟨l.toArray⟩) ∧ (Lib.IsBuilderF 119 5 B b (Lib.byteCells l) w' ∧ Below B w w' ∧ Lib.OthersKept 5 (some b) w w') := Any.Builder_String_any_k Try.lays169 Try.Builder_Extra_169 B b l w h hBw
end Go.Proofs

namespace Go.Proofs.Ytinphcnknionmaa
open Go.RowKit Go.Maps

theorem Bk.blocks {w w' : World} {base p : Nat} {ev : Value} {nb fb : Nat} {l : List Tm} (h : Bk w base p ev nb fb l) (hp : w'.heap[p]? = w.heap[p]?) (hn : w'.heap[nb]? = w.heap[nb]?) (hf : w'.heap[fb]? = w.heap[fb]?) (he : ∀ k, ev.ownBlock = some k → w'.heap[k]? = w.heap[k]?) : Bk w' base p ev nb fb l := by
  obtain ⟨Dn, ⟨es, ck, n1, n2, n3, n4⟩, n5, n6⟩ := h.nums
  obtain ⟨Df, ⟨es', ck', f1, f2, f3, f4⟩, f5, f6⟩ := h.fsts
  refine ⟨h.bank.of_block hp, ⟨h.rows.1, ?_⟩, ⟨Dn, ⟨es, ck, hn.trans n1, n2, n3, n4⟩, n5, n6⟩, ⟨Df, ⟨es', ck', hf.trans f1, f2, f3, f4⟩, f5, f6⟩, h.oks, h.nodup, h.pn, h.pf, h.nf, h.ep, h.en, h.ef, h.bp, h.bn, h.bf, h.small⟩
  rcases h.rows.2 with e | ⟨b, cap, cur, e, e1, e2, e3⟩
  · exact Or.inl e
  · exact Or.inr ⟨b, cap, cur, e, e1, (he b (by rw [e]; rfl)).trans e2, e3⟩

/-- The bank lies below B. -/
structure Low (B p : Nat) (ev : Value) (nb fb : Nat) : Prop where
  p : p < B
  n : nb < B
  f : fb < B
  e : ∀ k, ev.ownBlock = some k → k < B

theorem Bk.low {w : World} {base p : Nat} {ev : Value} {nb fb : Nat} {l : List Tm} (h : Bk w base p ev nb fb l) : Low w.heap.size p ev nb fb := by
  obtain ⟨Dn, n1, _, _⟩ := h.nums
  obtain ⟨Df, f1, _, _⟩ := h.fsts
  refine ⟨h.bank.lt, World.ownsMap.lt n1, World.ownsMap.lt f1, fun k e => ?_⟩
  rcases h.rows.2 with ⟨e2, h0⟩ | ⟨b, cap, cur, e2, hb, e2h⟩
  · rw [e2] at e; simp [Value.ownBlock] at e
  · rw [e2] at e
    simp [Value.ownBlock] at e
    have := right_lt e2h.1
    omega
theorem Bk.below {w w' : World} {B base p : Nat} {ev : Value} {nb fb : Nat} {l : List Tm} (h : Bk w base p ev nb fb l) (L : Low B p ev nb fb) (hb : Below B w w') : Bk w' base p ev nb fb l :=
  h.blocks (hb.block _ L.p) (hb.block _ L.n) (hb.block _ L.f) (fun k e => hb.block k (L.e k e))

theorem BKept.refl (B b : Nat) (w : World) : BKept B b w w := ⟨Below.refl B w, Lib.OthersKept.refl _ _ w⟩
theorem BKept.trans {B b : Nat} {a c d : World} (h : BKept B b a c) (k : BKept B b c d) : BKept B b a d := ⟨h.1.trans k.1, h.2.trans k.2⟩
theorem BKept.alloc {B b : Nat} {a w : World} (h : BKept B b a w) (hB : B ≤ a.heap.size) (o : Obj) : BKept B b a (w.alloc o) := ⟨h.1.alloc (by have := h.1.size; omega) o, h.2.alloc o⟩
/-- A row that is no bytes stays. -/
theorem BKept.row {B b x : Nat} {w w' : World} {t : Tm} (h : BKept B b w w') (hx : x ≠ b) (R : Boxed w x t) : Boxed w' x t := by
  obtain ⟨cur, h1, h2, h3⟩ := R
  exact ⟨cur, h.2 x _ h1 (fun e => hx (by injection e)) (fun c fz e => by injection e with _ e; exact absurd e (by decide)), h2, h3⟩

theorem bytesN (c : Nat) (h : c < 256) : Lib.byteCells [UInt8.ofNat c] = [.int .u8 (c : Int)] := by
  simp [Lib.byteCells, Nat.mod_eq_of_lt h]
theorem bytes_app (a b : List UInt8) : Lib.byteCells (a ++ b) = Lib.byteCells a ++ Lib.byteCells b := by simp [Lib.byteCells]

theorem slice4 (x k : Nat) (h : k ≤ 4) (w : World) : (Instr.sliceAt 122 (.pointer (some ⟨x, 2, none⟩)) none (some (.int .i64 (k : Int))) none).run Try.prog w = .ok (.slice (some ⟨x, 2, none⟩) k 4) w := by
  rcases (by omega : k = 0 ∨ k = 1 ∨ k = 2 ∨ k = 3 ∨ k = 4) with rfl | rfl | rfl | rfl | rfl <;> kernel_rfl

theorem Boxed.arg {w : World} {b : Nat} {t : Tm} (h : Boxed w b t) {k : Nat} (hk : k < 4) : w.cell? ⟨b, 2 + k, none⟩ = some (.int .i64 (t.arg k : Int)) := by
  rw [World.rowIs.cell h (i := 2 + k) (by omega)]
  rcases (by omega : k = 0 ∨ k = 1 ∨ k = 2 ∨ k = 3) with rfl | rfl | rfl | rfl <;> rfl

theorem accW_len {f : Nat → List UInt8} {M k : Nat} (h : ∀ j, j < k → (f j).length ≤ M) : (accW f k).length ≤ 1 + k * (M + 1) := by
  unfold accW
  split
  · simp
  · have := joinTo_len h
    rw [List.length_cons]
    omega

theorem wbyte_n (B b : Nat) (bs : List UInt8) (c : Nat) (hc : c < 256) (w : World) (h : Bld w B b (Lib.byteCells bs)) (hlen : bs.length + 1 ≤ 140737488355328) (hBw : B ≤ w.heap.size) :
    Calls Try.prog 117 #[.pointer (some ⟨b, 0, none⟩), .int .u8 (c : Int)] w fun e w' => e = .returned .nilIface ∧ Bld w' B b (Lib.byteCells (bs ++ [UInt8.ofNat c])) ∧ BKept B b w w' := by
  refine (wbyte_in B b (Lib.byteCells bs) c w h (by rw [Lib.byteCells_length]; exact hlen) hBw).mono ?_
  rintro e w' ⟨he, h1, h2⟩
  exact ⟨he, by rw [bytes_app, bytesN c hc]; exact h1, h2⟩

def WriteAt (f : Nat) : Prop := ∀ (w : World) (base p : Nat) (ev : Value) (nb fb : Nat) (l : List Tm) (B b n : Nat) (bs : List UInt8), Bk w base p ev nb fb l → Low B p ev nb fb → Hgt l f n → Bld w B b (Lib.byteCells bs) → B ≤ b → B ≤ w.heap.size → bs.length + 12 * 5 ^ f ≤ 140737488355328 →
  Calls Try.prog 73 #[.pointer (some ⟨p, 0, none⟩), .pointer (some ⟨b, 0, none⟩), .int .i64 (n : Int)] w fun e w' => e = .returned (.tuple #[]) ∧ Bld w' B b (Lib.byteCells (bs ++ shw l f n)) ∧ BKept B b w w'

set_option maxHeartbeats 2000000 in
set_option maxRecDepth 100000 in
theorem write_step (f : Nat) (IH : WriteAt f) : WriteAt (f + 1) := by
  intro w base p ev nb fb l B b n bs h L hg hb hBb hBw hlen
  obtain ⟨t, ht, hargs⟩ := hg
  have hnl : n < l.length := (List.getElem?_eq_some_iff.1 ht).1
  have hsm := h.small
  have hok := h.oks t (List.mem_of_getElem? ht)
  have c0 := h.c0
  obtain ⟨g, cap, rfl, hgc⟩ := h.at ht
  have g0 : w.cell? ⟨g, n * 6, none⟩ = some (.string t.name) := hgc 0 _ rfl
  have g1 := hgc 1 _ rfl
  have g2 := hgc 2 _ rfl
  have g3 := hgc 3 _ rfl
  have g4 := hgc 4 _ rfl
  have g5 := hgc 5 _ rfl
  clear hgc
  have bR := boxed_row w t
  have hEL : (entryL t).toArray = #[.string t.name, .int .i64 (t.args.length : Int), .int .i64 (t.arg 0 : Int), .int .i64 (t.arg 1 : Int), .int .i64 (t.arg 2 : Int), .int .i64 (t.arg 3 : Int)] := rfl
  have hlt : b < w.heap.size := by rcases hb with hb | hb <;> exact hb.lt
  have hb1 : Bld (w.alloc (.cells (entryL t).toArray 124)) B b (Lib.byteCells bs) := by
    rcases hb with hb | hb
    · exact Or.inl (hb.alloc _)
    · exact Or.inr (hb.alloc _)
  have K1 : BKept B b w (w.alloc (.cells (entryL t).toArray 124)) := (BKept.refl B b w).alloc hBw _
  rw [hEL] at bR hb1 K1
  have y0 := bR.c0
  have hs1 : B ≤ (w.alloc (Obj.cells #[.string t.name, .int .i64 (t.args.length : Int), .int .i64 (t.arg 0 : Int), .int .i64 (t.arg 1 : Int), .int .i64 (t.arg 2 : Int), .int .i64 (t.arg 3 : Int)] 124)).heap.size := by simp; omega
  have p5 : 1 ≤ 5 ^ f := Nat.one_le_pow _ _ (by omega)
  rw [Nat.pow_succ] at hlen
  have hnm := hok.name
  have ha4 := hok.args
  have WS := wstring_in B b (Lib.byteCells bs) t.name _ hb1 (by rw [Lib.byteCells_length]; omega) hs1
  have hshw : shw l (f + 1) n = t.name.data.toList ++ (if t.args.length = 0 then [] else 40 :: (joinTo (fun j => shw l f (t.arg j)) t.args.length ++ [41])) := by rw [shw, ht]
  go_enter Try.func73, Try.ntmps73
  go_wp2_with fail
  generalize w.alloc (Obj.cells #[.string t.name, .int .i64 (t.args.length : Int), .int .i64 (t.arg 0 : Int), .int .i64 (t.arg 1 : Int), .int .i64 (t.arg 2 : Int), .int .i64 (t.arg 3 : Int)] 124) = w1 at bR hb1 K1 y0 hs1 WS ⊢
  have hxb : w.heap.size ≠ b := by omega
  generalize w.heap.size = x at *
  clear g0 g1 g2 g3 g4 g5 c0
  have H1 := h.below L K1.1
  have HL : Hid (bs.length + 12 * (5 ^ f * 5) ≤ 140737488355328) := hlen
  clear hlen
  by_cases hz : t.args.length = 0
  · have d0 : (t.args.length : Int) = 0 := by omega
    rw [if_pos hz] at hshw
    go_wp2_with (go_at_call 103; refine WS.mono ?_; rintro e w2 ⟨rfl, B2, K2⟩; have y1 := (K2.row hxb bR).c1)
    refine ⟨rfl, .tuple #[], by simp [results, Try.results73], rfl, ?_, K1.trans K2⟩
    rw [hshw, bytes_app, List.append_nil]
    exact B2
  · have d0 : ((t.args.length : Int) == 0) = false := beq_eq_false_iff_ne.2 (by omega)
    have d4 : (t.args.length : Int) ≤ 4 := by omega
    have SL : ∀ w, (Instr.sliceAt 122 (.pointer (some ⟨x, 2, none⟩)) none (some (.int .i64 (t.args.length : Int))) none).run Try.prog w = .ok (.slice (some ⟨x, 2, none⟩) t.args.length 4) w := slice4 x t.args.length ha4
    rw [if_neg hz] at hshw
    go_wp2_with (go_at_call 103; refine WS.mono ?_; rintro e w2 ⟨rfl, B2, K2⟩; have y1 := (K2.row hxb bR).c1)
    have hK2 : BKept B b w1 w2 := K2
    have FL : ∀ k, k ≤ t.args.length → (accW (fun j => shw l f (t.arg j)) k).length ≤ 1 + k * (12 * 5 ^ f + 1) := fun k _ => accW_len (fun j _ => shw_len h.oks f (t.arg j))
    rw [Lib.strCells_eq, ← bytes_app] at B2
    clear y1 K2
    go_loopw [7, 29] (fun s7 t29 W => ∃ k : Nat, k ≤ t.args.length ∧ t29 = .int .i64 (k : Int) ∧ s7 = .int .u8 (signW k : Int) ∧ Bld W B b (Lib.byteCells ((bs ++ t.name.data.toList) ++ accW (fun j => shw l f (t.arg j)) k)) ∧ Hid (BKept B b w1 W)) (fun _ t29 _ => t.args.length - (intOf t29).toNat)
    case atStart => exact ⟨0, by omega, rfl, rfl, by simpa [accW] using B2, hK2⟩
    case round =>
      obtain ⟨k, hk, rfl, rfl, BK, KK⟩ := hrel
      have hsW : B ≤ wr.heap.size := Nat.le_trans hs1 KK.out.1.size
      have hFk := FL k hk
      by_cases hk2 : k < t.args.length
      · have dk : decide ((k : Int) < (t.args.length : Int)) = true := decide_eq_true (by omega)
        have yk := (KK.out.row hxb bR).arg (k := k) (by omega)
        have hm : k * (12 * 5 ^ f + 1) ≤ 3 * (12 * 5 ^ f + 1) := Nat.mul_le_mul_right _ (by omega)
        have hl1 := HL.out
        have hnl' : t.name.data.toList.length ≤ 6 := by simpa using hnm
        have hsg : signW k < 256 := by unfold signW; split <;> omega
        have WB := wbyte_n B b ((bs ++ t.name.data.toList) ++ accW (fun j => shw l f (t.arg j)) k) (signW k) hsg wr BK (by rw [List.length_append, List.length_append]; omega) hsW
        have hHg := hargs _ (arg_mem hk2)
        have hfin : ((bs ++ t.name.data.toList) ++ accW (fun j => shw l f (t.arg j)) k ++ [UInt8.ofNat (signW k)]) ++ shw l f (t.arg k) = (bs ++ t.name.data.toList) ++ accW (fun j => shw l f (t.arg j)) (k + 1) := by rw [accW_step]; simp
        have hlen2 : ((bs ++ t.name.data.toList) ++ accW (fun j => shw l f (t.arg j)) k ++ [UInt8.ofNat (signW k)]).length + 12 * 5 ^ f ≤ 140737488355328 := by
          rw [List.length_append, List.length_append, List.length_append, List.length_singleton]
          omega
        clear hl1 hm hFk
        generalize ((bs ++ t.name.data.toList) ++ accW (fun j => shw l f (t.arg j)) k ++ [UInt8.ofNat (signW k)]) = bs2 at WB hfin hlen2
        have hlen2' := Hid.out hlen2
        clear hlen2
        have HW : Hid (bs2.length + 12 * 5 ^ f ≤ 140737488355328) := hlen2'
        clear hlen2'
        go_wp2_with (first | (go_at_call 117; refine WB.mono ?_; rintro e w4 ⟨rfl, B4, K4⟩; have W4 := IH w4 base p _ nb fb l B b (t.arg k) bs2 ((h.below L K1.1).below L (KK.out.1.trans K4.1)) L hHg B4 hBb (Nat.le_trans hsW K4.1.size) HW.out) | (go_at_call 73; refine W4.mono ?_; rintro e w5 ⟨rfl, B5, K5⟩))
        go_roundw
        case rel =>
          refine ⟨k + 1, by omega, by go_num, ?_, ?_, (KK.out.trans K4).trans K5⟩
          · simp [signW]
          · rw [← hfin]; exact B5
        case measure => simp [intOf]; omega
      · have dk : decide ((k : Int) < (t.args.length : Int)) = false := decide_eq_false (by omega)
        have hkk : k = t.args.length := by omega
        have hm : k * (12 * 5 ^ f + 1) ≤ 4 * (12 * 5 ^ f + 1) := Nat.mul_le_mul_right _ (by omega)
        have hl1 := HL.out
        have hnl' : t.name.data.toList.length ≤ 6 := by simpa using hnm
        have WB := wbyte_n B b ((bs ++ t.name.data.toList) ++ accW (fun j => shw l f (t.arg j)) k) 41 (by omega) wr BK (by rw [List.length_append, List.length_append]; omega) hsW
        clear hl1 hm hFk
        go_wp2_with (first | (go_at_call 117; refine WB.mono ?_; rintro e w4 ⟨rfl, B4, K4⟩))
        go_end0
        refine ⟨rfl, ?_, (K1.trans KK.out).trans K4⟩
        rw [hshw]
        have hfin : ((bs ++ t.name.data.toList) ++ accW (fun j => shw l f (t.arg j)) k ++ [UInt8.ofNat 41]) = bs ++ (t.name.data.toList ++ 40 :: (joinTo (fun j => shw l f (t.arg j)) t.args.length ++ [41])) := by
          rw [hkk, accW, if_neg hz]
          simp
        rw [← hfin]
        exact B4

theorem write_all : ∀ f, WriteAt f
  | 0 => fun _ _ _ _ _ _ _ _ _ _ _ _ _ hg => hg.elim
  | f + 1 => write_step f (write_all f)

theorem made_builder (w : World) : Bld (w.alloc (.cells #[.pointer none, .slice none 0 0] 119)) w.heap.size w.heap.size [] :=
  Or.inl ⟨Nat.le_refl _, .slice none 0 0, by show (w.heap.push _)[w.heap.size]? = _; simp, ⟨by simp, Or.inl ⟨rfl, rfl⟩⟩, by simp [Value.ownBlock]⟩

/-- What Show answers. -/
def shwB (l : List Tm) (n : Int) : ByteArray := if inB l.length n then ⟨(shw l 13 n.toNat).toArray⟩ else ⟨#[]⟩

set_option maxHeartbeats 1000000 in
set_option maxRecDepth 100000 in
theorem show_in (w : World) (base p : Nat) (ev : Value) (nb fb : Nat) (l : List Tm) (h : Bk w base p ev nb fb l) (hs : Hs l) (n : Int) :
    Calls Try.prog 22 #[.pointer (some ⟨p, 0, none⟩), .int .i64 n] w fun e w' => e = .returned (.string (shwB l n)) ∧ Below w.heap.size w w' := by
  have HAS := thas_in w base p ev nb fb l h n
  cases hi : inB l.length n with
  | false =>
    rw [hi] at HAS
    have hsh : shwB l n = ⟨#[]⟩ := by simp [shwB, hi]
    go_enter Try.func22, Try.ntmps22
    go_wp2_with (go_at_call 72; refine HAS.mono ?_; rintro e w2 ⟨rfl, rfl⟩)
    go_ret
    exact ⟨by rw [hsh]; rfl, Below.refl _ _⟩
  | true =>
    rw [hi] at HAS
    obtain ⟨k, hk, rfl⟩ : ∃ k : Nat, k < l.length ∧ n = (k : Int) := ⟨n.toNat, by have := inB_true hi; omega, by have := inB_true hi; omega⟩
    have hsh : shwB l (k : Int) = ⟨(shw l 13 k).toArray⟩ := by simp [shwB, hi]
    have MB := made_builder w
    have K1 : Below w.heap.size w (w.alloc (.cells #[.pointer none, .slice none 0 0] 119)) := (Below.refl _ w).alloc (Nat.le_refl _) _
    have hs1 : w.heap.size ≤ (w.alloc (.cells #[.pointer none, .slice none 0 0] 119)).heap.size := K1.size
    have WR := write_all 13 _ base p ev nb fb l w.heap.size w.heap.size k [] (h.below h.low K1) h.low (hs k hk) MB (Nat.le_refl _) hs1 (by decide)
    go_enter Try.func22, Try.ntmps22
    go_wp2_with (first | (go_at_call 72; refine HAS.mono ?_; rintro e w2 ⟨rfl, rfl⟩) | (go_at_call 73; refine WR.mono ?_; rintro e w3 ⟨rfl, B3, K3⟩; have ST := Try.Builder_String_any_k w.heap.size w.heap.size _ w3 B3 (Nat.le_trans hs1 K3.1.size)) | (go_at_call 74; refine ST.mono ?_; rintro e w4 ⟨rfl, B4, K4, _⟩))
    go_ret
    exact ⟨by rw [hsh]; rfl, (K1.trans K3.1).trans K4⟩

end Go.Proofs.Ytinphcnknionmaa

namespace Go.Proofs.Ytinphcnknionmaa
open Go.RowKit Go.Maps

def argC (l : List Nat) : List Value := l.map fun x : Nat => Value.int .i64 (x : Int)
theorem argC_len (l : List Nat) : (argC l).length = l.length := by simp [argC]
theorem argC_one (l : List Nat) : ∀ u ∈ argC l, u.oneCell' = true := by
  intro u hu
  simp [argC] at hu
  obtain ⟨a, _, rfl⟩ := hu
  rfl
theorem infoI : (Try.prog.info? 3).map (fun i => (i.zero, i.size, i.bytes)) = some (some (.int .i64 0), 1, 8) := by kernel_rfl

theorem argC_cells {w : World} {x : Nat} {t : Tm} (h : Boxed w x t) (h4 : t.args.length ≤ 4) : ∀ j u, (argC t.args)[j]? = some u → w.cell? ((⟨x, 2, none⟩ : Addr).add j) = some u := by
  intro j u hj
  have hlt : j < t.args.length := by
    have := (List.getElem?_eq_some_iff.1 hj).1
    rwa [argC_len] at this
  have := h.arg (k := j) (by omega)
  have e : u = .int .i64 (t.arg j : Int) := by
    simp [argC, List.getElem?_eq_getElem hlt] at hj
    rw [← hj]
    unfold Tm.arg
    rw [List.getD_eq_getElem?_getD, List.getElem?_eq_getElem hlt]
    rfl
  rw [e]
  simp only [Addr.add]
  by_cases hj0 : j = 0
  · subst hj0; simpa using this
  · simpa [hj0] using this

theorem row_form {w : World} {base : Nat} {e : TypeId} {size : Nat} {v : Value} {n : Nat} {xs : List Value} (h : w.ownsRow base e size v n xs) : ∃ a c, v = .slice a n c := by
  rcases h.2 with ⟨rfl, h0⟩ | ⟨b, cap, cur, rfl, _⟩
  · rw [h0]; exact ⟨none, 0, rfl⟩
  · exact ⟨_, cap, rfl⟩

/-- What Term answers for a term of the bank. -/
def TermAns (w : World) (t : Tm) (e : Ending) (w' : World) : Prop := ∃ v, e = .returned (.tuple #[.agg #[.string t.name, v], .bool true]) ∧ w'.ownsRow w.heap.size 3 1 v t.args.length (argC t.args) ∧ Below w.heap.size w w'

set_option maxHeartbeats 1000000 in
set_option maxRecDepth 100000 in
theorem term_out (w : World) (base p : Nat) (ev : Value) (nb fb : Nat) (l : List Tm) (h : Bk w base p ev nb fb l) (n : Int) (hi : inB l.length n = false) :
    Calls Try.prog 23 #[.pointer (some ⟨p, 0, none⟩), .int .i64 n] w fun e w' => e = .returned (.tuple #[.agg #[.string ⟨#[]⟩, .slice none 0 0], .bool false]) ∧ Below w.heap.size w w' := by
  have K1 : Below w.heap.size w (w.alloc (.cells #[.string ⟨#[]⟩, .slice none 0 0] 42)) := (Below.refl _ w).alloc (Nat.le_refl _) _
  have HAS := thas_in _ base p ev nb fb l (h.below h.low K1) n
  rw [hi] at HAS
  go_enter Try.func23, Try.ntmps23
  go_wp2_with (go_at_call 72; refine HAS.mono ?_; rintro e w2 ⟨rfl, rfl⟩)
  have R1 := made_row w #[.string ⟨#[]⟩, .slice none 0 0] 42
  generalize w.alloc (.cells #[.string ⟨#[]⟩, .slice none 0 0] 42) = w1 at *
  have z0 : w1.cell? ⟨w.heap.size, 0, none⟩ = some (.string ⟨#[]⟩) := World.rowIs.cell R1 (i := 0) (by simp)
  have z1 : w1.cell? ⟨w.heap.size, 1, none⟩ = some (.slice none 0 0) := World.rowIs.cell R1 (i := 1) (by simp)
  refine ⟨rfl, .tuple #[.agg #[.string ⟨#[]⟩, .slice none 0 0], .bool false], by simp [results, Try.results23, go_sem, z0, z1], rfl, K1⟩

set_option maxHeartbeats 1000000 in
set_option maxRecDepth 100000 in
theorem term_some (w : World) (base p : Nat) (ev : Value) (nb fb : Nat) (l : List Tm) (h : Bk w base p ev nb fb l) (n : Nat) (t : Tm) (ht : l[n]? = some t) :
    Calls Try.prog 23 #[.pointer (some ⟨p, 0, none⟩), .int .i64 (n : Int)] w (TermAns w t) := by
  have hnl : n < l.length := (List.getElem?_eq_some_iff.1 ht).1
  have hsm := h.small
  have hok := h.oks t (List.mem_of_getElem? ht)
  have K1 : Below w.heap.size w (w.alloc (.cells #[.string ⟨#[]⟩, .slice none 0 0] 42)) := (Below.refl _ w).alloc (Nat.le_refl _) _
  have H1 := h.below h.low K1
  have HAS := thas_in _ base p ev nb fb l H1 n
  rw [inB_nat hnl] at HAS
  have R1 := made_row w #[.string ⟨#[]⟩, .slice none 0 0] 42
  have hs1 : (w.alloc (.cells #[.string ⟨#[]⟩, .slice none 0 0] 42)).heap.size = w.heap.size + 1 := by simp
  generalize hw1 : w.alloc (.cells #[.string ⟨#[]⟩, .slice none 0 0] 42) = w1 at *
  have c0 := H1.c0
  obtain ⟨g, cap, rfl, hgc⟩ := H1.at ht
  have g0 : w1.cell? ⟨g, n * 6, none⟩ = some (.string t.name) := hgc 0 _ rfl
  have g1 := hgc 1 _ rfl
  have g2 := hgc 2 _ rfl
  have g3 := hgc 3 _ rfl
  have g4 := hgc 4 _ rfl
  have g5 := hgc 5 _ rfl
  clear hgc
  have ha4 := hok.args
  go_enter Try.func23, Try.ntmps23
  go_wp2_with (go_at_call 72; refine HAS.mono ?_; rintro e w2 ⟨rfl, rfl⟩)
  clear HAS c0 g0 g1 g2 g3 g4 g5 hw1
  have bR := boxed_row w1 t
  have hEL : (entryL t).toArray = #[.string t.name, .int .i64 (t.args.length : Int), .int .i64 (t.arg 0 : Int), .int .i64 (t.arg 1 : Int), .int .i64 (t.arg 2 : Int), .int .i64 (t.arg 3 : Int)] := rfl
  have K2 : Kept0 w1 (w1.alloc (.cells (entryL t).toArray 124)) := Kept.alloc (Kept.refl _ w1) _
  rw [hEL] at bR K2
  generalize w1.alloc (Obj.cells #[.string t.name, .int .i64 (t.args.length : Int), .int .i64 (t.arg 0 : Int), .int .i64 (t.arg 1 : Int), .int .i64 (t.arg 2 : Int), .int .i64 (t.arg 3 : Int)] 124) = w2 at *
  have R2 := World.rowIs.of_block R1 (K2.block w.heap.size (World.rowIs.lt R1) (fun e => e))
  rw [hs1] at bR
  have hs2 := K2.size
  rw [hs1] at hs2
  have y0 := bR.c0
  have y1 := bR.c1
  have SL := slice4 (w.heap.size + 1) t.args.length ha4
  have NEWS : ∀ j u, (argC t.args)[j]? = some u → w2.drew.cell? ((⟨w.heap.size + 1, 2, none⟩ : Addr).add j) = some u := argC_cells (World.rowIs.of_block bR rfl : Boxed w2.drew (w.heap.size + 1) t) ha4
  obtain ⟨i0, hi0, hz0, hz1, hz2⟩ := info_parts infoI
  go_region_law (refine step_append_here rfl (.const (.slice none 0 0)) (.tmp 24) 40 rfl w.heap.size 3 i0 _ 1 8 Try.underlying40 hi0 hz0 hz1 hz2 rfl (by decide) (.slice none 0 0) 0 [] (by simp [Act.eval]) (by exact World.ownsRow_nil _ _ _ _) ⟨w.heap.size + 1, 2, none⟩ t.args.length 4 (argC t.args) (by simp [Act.eval, Act.put]) (by simp [argC_len]) (by exact NEWS) (argC_one _) (by unfold maxLen; omega) (by omega) (by exact (by omega : w.heap.size ≤ w2.heap.size)) ?_; intro v' w4 hown hgrow hloc; obtain ⟨va, vc, rfl⟩ := row_form hown; have R4 := World.rowIs.of_block (World.rowIs.of_block R2 rfl : w2.drew.rowIs w.heap.size 42 _ _) (hgrow.block w.heap.size (World.rowIs.lt R2) (by simp [Value.ownBlock])); have b4 : Boxed w4 (w.heap.size + 1) t := World.rowIs.of_block (World.rowIs.of_block bR rfl : Boxed w2.drew (w.heap.size + 1) t) (hgrow.block (w.heap.size + 1) (World.rowIs.lt bR) (by simp [Value.ownBlock])); have y04 := b4.c0; have q0 := World.rowIs.cell R4 (i := 0) (by simp); have q1 := World.rowIs.cell R4 (i := 1) (by simp); have p0 := World.rowIs.frozen R4 0; have p1 := World.rowIs.frozen R4 1)
  all_goals
    have KB : Below w.heap.size w w4 := (K1.trans (Kept.below K2 (by omega) (fun _ e => e.elim))).drew.grown hgrow (by exact (by omega : w.heap.size ≤ w2.heap.size)) (by simp [Value.ownBlock])
    have hvb : (Value.slice va (0 + t.args.length) vc).ownBlock ≠ some w.heap.size := by
      rcases hloc with e | e
      · rw [e]; simp [Value.ownBlock]
      · intro e2
        have h1 : w2.heap.size ≤ w.heap.size := e _ e2
        omega
    clear NEWS y0 y1 SL y04 hloc hgrow
    go_wp2_with fail
    rw [Nat.zero_add] at hown hvb
    have R5 := World.rowIs.set (World.rowIs.set R4 0 (.string t.name)) 1 (.slice va t.args.length vc)
    have O5 := ownsRow_setCell_other (a := ⟨w.heap.size, 1, none⟩) (ownsRow_setCell_other (a := ⟨w.heap.size, 0, none⟩) hown hvb (.string t.name)) hvb (.slice va t.args.length vc)
    have KC := (KB.setCell (p := ⟨w.heap.size, 0, none⟩) (Nat.le_refl _) (.string t.name)).setCell (p := ⟨w.heap.size, 1, none⟩) (Nat.le_refl _) (.slice va t.args.length vc)
    generalize (w4.setCell ⟨w.heap.size, 0, none⟩ (.string t.name)).setCell ⟨w.heap.size, 1, none⟩ (.slice va t.args.length vc) = w5 at *
    have z0 : w5.cell? ⟨w.heap.size, 0, none⟩ = some (.string t.name) := World.rowIs.cell R5 (i := 0) (by simp)
    have z1 : w5.cell? ⟨w.heap.size, 1, none⟩ = some (.slice va t.args.length vc) := World.rowIs.cell R5 (i := 1) (by simp)
    refine ⟨rfl, .tuple #[.agg #[.string t.name, .slice va t.args.length vc], .bool true], by simp [results, Try.results23, go_sem, z0, z1], _, rfl, ?_, KC⟩
    simpa using O5

end Go.Proofs.Ytinphcnknionmaa

namespace Go.Proofs.Ytinphcnknionmaa
open Go.RowKit

def lsC (l : List Tm) (vs : List Value) : List Value := (l.zip vs).flatMap fun x => [.string x.1.name, x.2]

/-- A term's args lie at v. -/
abbrev ArgsAt1 (w : World) (base : Nat) (xs : List Nat) (v : Value) : Prop := w.ownsRow base 3 1 v xs.length (argC xs)

/-- A list of the document's terms at av; their args at vs. -/
structure Ls (w : World) (base : Nat) (av : Value) (l : List Tm) (vs : List Value) : Prop where
  len : vs.length = l.length
  row : w.ownsRow base 114 2 av l.length (lsC l vs)
  args : ∀ (i : Nat) (t : Tm) (v : Value), l[i]? = some t → vs[i]? = some v → ArgsAt1 w base t.args v

theorem lsC_get (l : List Tm) (vs : List Value) (i j : Nat) (hj : j < 2) : (lsC l vs)[i * 2 + j]? = ((l.zip vs)[i]?).bind (fun x => ([.string x.1.name, x.2] : List Value)[j]?) := by
  unfold lsC
  generalize l.zip vs = z
  induction z generalizing i with
  | nil => simp
  | cons t z ih =>
    cases i with
    | zero => rcases (by omega : j = 0 ∨ j = 1) with rfl | rfl <;> simp
    | succ i =>
      have e : (i + 1) * 2 + j = 2 + (i * 2 + j) := by omega
      rw [List.flatMap_cons, e, List.getElem?_append_right (by simp), List.getElem?_cons_succ]
      have e2 : 2 + (i * 2 + j) - ([.string t.1.name, t.2] : List Value).length = i * 2 + j := by simp
      rw [e2]
      exact ih i

theorem Ls.at {w : World} {base : Nat} {av : Value} {l : List Tm} {vs : List Value} (h : Ls w base av l vs) {i : Nat} {t : Tm} (hi : l[i]? = some t) :
    ∃ g cap v, av = .slice (some ⟨g, 0, none⟩) l.length cap ∧ vs[i]? = some v ∧ w.cell? ⟨g, i * 2, none⟩ = some (.string t.name) ∧ w.cell? ⟨g, i * 2 + 1, none⟩ = some v ∧ ArgsAt1 w base t.args v := by
  have hlt : i < l.length := (List.getElem?_eq_some_iff.1 hi).1
  have hiv : i < vs.length := by rw [h.len]; exact hlt
  have hv : vs[i]? = some vs[i] := List.getElem?_eq_getElem hiv
  have hz : (l.zip vs)[i]? = some (t, vs[i]) := by
    rw [List.getElem?_zip_eq_some]
    exact ⟨hi, hv⟩
  rcases h.row.2 with ⟨e, h0⟩ | ⟨b, cap, cur, e, _⟩
  · omega
  · have cell : ∀ j u, j < 2 → ([.string t.name, vs[i]] : List Value)[j]? = some u → w.cell? ⟨b, i * 2 + j, none⟩ = some u := by
      intro j u hj hu
      have := h.row.cells (g := b) (by rw [e]; rfl) (i * 2 + j) u (by rw [lsC_get l vs i j hj, hz]; exact hu)
      simp [Addr.add] at this
      split at this
      · next e0 => rw [e0.1, e0.2]; exact this
      · exact this
    exact ⟨b, cap, vs[i], e, hv, cell 0 _ (by omega) rfl, cell 1 _ (by omega) rfl, h.args i t _ hi hv⟩

theorem Ls.form {w : World} {base : Nat} {av : Value} {l : List Tm} {vs : List Value} (h : Ls w base av l vs) : ∃ a c, av = .slice a l.length c := row_form h.row
theorem Ls.drewN {w : World} {base : Nat} {av : Value} {l : List Tm} {vs : List Value} (h : Ls w base av l vs) (m : Nat) : Ls (w.drewN m) base av l vs := ⟨h.len, h.row, h.args⟩
theorem Ls.kept0 {w w' : World} {base : Nat} {av : Value} {l : List Tm} {vs : List Value} (h : Ls w base av l vs) (K : Kept0 w w') : Ls w' base av l vs :=
  ⟨h.len, h.row.kept K.grownBy (Decidable.em _), fun i t v h1 h2 => (h.args i t v h1 h2).kept K.grownBy (Decidable.em _)⟩

/-- An arg's cell. -/
theorem arg_cell {w : World} {base : Nat} {xs : List Nat} {v : Value} (h : ArgsAt1 w base xs v) {j : Nat} (hj : j < xs.length) : ∃ g cap, v = .slice (some ⟨g, 0, none⟩) xs.length cap ∧ w.cell? ⟨g, j, none⟩ = some (.int .i64 (xs[j] : Int)) := by
  rcases h.2 with ⟨e, h0⟩ | ⟨b, cap, cur, e, _⟩
  · omega
  · refine ⟨b, cap, e, ?_⟩
    have := h.cells (g := b) (by rw [e]; rfl) j (.int .i64 (xs[j] : Int)) (by simp [argC, List.getElem?_eq_getElem hj])
    simp [Addr.add] at this
    split at this
    · next e0 => subst e0; exact this
    · exact this

theorem args_take {a b : List Nat} (hl : a.length = b.length) {k : Nat} (hk : k < a.length) (h : a.take k = b.take k) (he : a[k]'hk = b[k]'(hl ▸ hk)) : a.take (k + 1) = b.take (k + 1) := by
  rw [List.take_add_one, List.take_add_one, h, List.getElem?_eq_getElem hk, List.getElem?_eq_getElem (hl ▸ hk), he]

theorem toList_name {a b : ByteArray} (h : a.toList = b.toList) : a = b := by
  rw [ByteArray.toList_eq, ByteArray.toList_eq] at h
  exact WideShapes.bytes_inj h

set_option maxHeartbeats 1000000 in
theorem same1_in (w : World) (base : Nat) (t u : Tm) (vt vu : Value) (ht : ArgsAt1 w base t.args vt) (hu : ArgsAt1 w base u.args vu) (h4 : t.args.length ≤ 4) :
    Calls Try.prog 148 #[.agg #[.string t.name, vt], .agg #[.string u.name, vu]] w fun e w' => e = .returned (.bool (decide (t = u))) ∧ Kept0 w w' := by
  obtain ⟨ta, tc, rfl⟩ := row_form ht
  obtain ⟨ua, uc, rfl⟩ := row_form hu
  have K1 : Kept0 w (w.alloc (.cells #[.string t.name, .slice ta t.args.length tc] 114)) := Kept.alloc (Kept.refl _ w) _
  have R1 := made_row w #[.string t.name, .slice ta t.args.length tc] 114
  have s1 : (w.alloc (.cells #[.string t.name, .slice ta t.args.length tc] 114)).heap.size = w.heap.size + 1 := by simp
  generalize hw1 : w.alloc (.cells #[.string t.name, .slice ta t.args.length tc] 114) = w1 at *
  have K2 : Kept0 w1 (w1.alloc (.cells #[.string u.name, .slice ua u.args.length uc] 114)) := Kept.alloc (Kept.refl _ w1) _
  have R2 := made_row w1 #[.string u.name, .slice ua u.args.length uc] 114
  rw [s1] at R2
  generalize hw2 : w1.alloc (.cells #[.string u.name, .slice ua u.args.length uc] 114) = w2 at *
  have R1' := World.rowIs.of_block R1 (K2.block w.heap.size (World.rowIs.lt R1) (fun e => e))
  have K : Kept0 w w2 := Kept.trans K1 K2
  have ht2 := ht.kept K.grownBy (Decidable.em _)
  have hu2 := hu.kept K.grownBy (Decidable.em _)
  have a0 : w2.cell? ⟨w.heap.size, 0, none⟩ = some (.string t.name) := World.rowIs.cell R1' (i := 0) (by simp)
  have a1 : w2.cell? ⟨w.heap.size, 1, none⟩ = some (.slice ta t.args.length tc) := World.rowIs.cell R1' (i := 1) (by simp)
  have b0 : w2.cell? ⟨w.heap.size + 1, 0, none⟩ = some (.string u.name) := World.rowIs.cell R2 (i := 0) (by simp)
  have b1 : w2.cell? ⟨w.heap.size + 1, 1, none⟩ = some (.slice ua u.args.length uc) := World.rowIs.cell R2 (i := 1) (by simp)
  go_enter Try.func148, Try.ntmps148
  by_cases hn' : t.name = u.name
  · have hn : Hid (t.name = u.name) := hn'
    have dn : (t.name.toList == u.name.toList) = true := by rw [hn']; simp
    clear hn'
    by_cases hl' : t.args.length = u.args.length
    · have hl : Hid (t.args.length = u.args.length) := hl'
      have dl : ((t.args.length : Int) != (u.args.length : Int)) = false := by simp [hl']
      clear hl'
      go_wp2_with fail
      go_loopw [5] (fun t5 W => ∃ k : Nat, k ≤ t.args.length ∧ t5 = .int .i64 (k : Int) ∧ Hid (t.args.take k = u.args.take k) ∧ ∃ m, W = w2.drewN m) (fun t5 _ => t.args.length - (intOf t5).toNat)
      case atStart => exact ⟨0, by omega, rfl, by simp [Hid], 0, rfl⟩
      case round =>
        obtain ⟨k, hk, rfl, htk, m, rfl⟩ := hrel
        by_cases hk2 : k < t.args.length
        · have dk : decide ((k : Int) < (t.args.length : Int)) = true := decide_eq_true (by omega)
          have hk3 : k < u.args.length := by rw [← hl.out]; exact hk2
          obtain ⟨g, cap, hg1, hg2⟩ := arg_cell ht2 hk2
          obtain ⟨g', cap', hg3, hg4⟩ := arg_cell hu2 hk3
          injection hg1 with e1 _ e3
          injection hg3 with e4 _ e6
          subst e1 e3 e4 e6
          by_cases he : t.args[k] = u.args[k]
          · have hE : Hid (t.args.take (k + 1) = u.args.take (k + 1)) := args_take hl.out hk2 htk.out he
            have de : ((t.args[k] : Int) != (u.args[k] : Int)) = false := by simp [he]
            clear he
            go_wp2_with fail
            go_quiet (fail)
            go_wp2_with fail
            go_roundw
            case rel => exact ⟨k + 1, by omega, by go_num, hE, _, rfl⟩
            case measure => simp [intOf]; omega
          · have de : ((t.args[k] : Int) != (u.args[k] : Int)) = true := by simp; omega
            go_wp2_with fail
            go_quiet (fail)
            go_wp2_with fail
            go_ret
            refine ⟨ret_bool (decide_eq_false fun e => he ?_).symm, Kept.drewN (Kept.drewN K _) _⟩
            subst e; rfl
        · have dk : decide ((k : Int) < (t.args.length : Int)) = false := decide_eq_false (by omega)
          have hkl : k = t.args.length := by omega
          go_wp2_with fail
          go_ret
          refine ⟨ret_bool (decide_eq_true ?_).symm, Kept.drewN K _⟩
          have e1 : t.args = u.args := by
            have := htk.out
            rw [hkl, List.take_length] at this
            rw [hl.out, List.take_length] at this
            exact this
          have e2 := hn.out
          cases t; cases u; simp at e2 e1 ⊢; exact ⟨e2, e1⟩
    · have dl : ((t.args.length : Int) != (u.args.length : Int)) = true := by simp; omega
      go_wp2_with fail
      go_ret
      exact ⟨ret_bool (decide_eq_false fun e => hl' (by rw [e])).symm, K⟩
  · have dn : (t.name.toList == u.name.toList) = false := beq_eq_false_iff_ne.2 (fun e => hn' (toList_name e))
    go_wp2_with fail
    go_ret
    exact ⟨ret_bool (decide_eq_false fun e => hn' (by rw [e])).symm, K⟩

end Go.Proofs.Ytinphcnknionmaa

namespace Go.Proofs.Ytinphcnknionmaa
open Go.RowKit

def clashP (t u : Tm) : Bool := decide (u.name = t.name) && decide (u.args.length ≠ t.args.length)
def clashB (l : List Tm) (t : Tm) : Bool := l.any (clashP t)

theorem any_take {l : List Tm} {p : Tm → Bool} {k : Nat} (hk : k < l.length) (h : (l.take k).any p = false) (hp : p l[k] = false) : (l.take (k + 1)).any p = false := by
  rw [List.take_add_one, List.getElem?_eq_getElem hk]
  simp only [Option.toList_some, List.any_append, h, List.any_cons, hp, List.any_nil, Bool.or_false]

set_option maxHeartbeats 1000000 in
theorem clashes_in (w : World) (base : Nat) (av : Value) (l : List Tm) (vs : List Value) (h : Ls w base av l vs) (hl : l.length ≤ 1000) (t : Tm) (v : Value) (hv : ArgsAt1 w base t.args v) (_ht4 : t.args.length ≤ 5) (hu4 : ∀ u ∈ l, u.args.length ≤ 4) :
    Calls Try.prog 115 #[av, .agg #[.string t.name, v]] w fun e w' => e = .returned (.bool (clashB l t)) ∧ Kept0 w w' := by
  obtain ⟨ta, tc, rfl⟩ := row_form hv
  obtain ⟨aa, ac, rfl⟩ := h.form
  have K1 : Kept0 w (w.alloc (.cells #[.string t.name, .slice ta t.args.length tc] 114)) := Kept.alloc (Kept.refl _ w) _
  have R1 := made_row w #[.string t.name, .slice ta t.args.length tc] 114
  generalize hw1 : w.alloc (.cells #[.string t.name, .slice ta t.args.length tc] 114) = w1 at *
  have L1 := h.kept0 K1
  have a0 : w1.cell? ⟨w.heap.size, 0, none⟩ = some (.string t.name) := World.rowIs.cell R1 (i := 0) (by simp)
  have a1 : w1.cell? ⟨w.heap.size, 1, none⟩ = some (.slice ta t.args.length tc) := World.rowIs.cell R1 (i := 1) (by simp)
  go_enter Try.func115, Try.ntmps115
  go_wp2_with fail
  go_loopw [5] (fun t5 W => ∃ k : Nat, k ≤ l.length ∧ t5 = .int .i64 (k : Int) ∧ Hid ((l.take k).any (clashP t) = false) ∧ ∃ m, W = w1.drewN m) (fun t5 _ => l.length - (intOf t5).toNat)
  case atStart => exact ⟨0, by omega, rfl, by simp [Hid], 0, rfl⟩
  case round =>
    obtain ⟨k, hk, rfl, htk, m, rfl⟩ := hrel
    by_cases hk2 : k < l.length
    · have dk : decide ((k : Int) < (l.length : Int)) = true := decide_eq_true (by omega)
      have hu : l[k]? = some l[k] := List.getElem?_eq_getElem hk2
      have hu4' := hu4 _ (List.getElem_mem hk2)
      generalize hgu : l[k] = u at hu hu4'
      obtain ⟨g, cap, vu, hg, _, g0, g1, hvu⟩ := L1.at hu
      injection hg with e1 _ e3
      subst e1 e3
      obtain ⟨ua, uc, rfl⟩ := row_form hvu
      by_cases hn : u.name = t.name
      · have dn : (u.name.toList == t.name.toList) = true := by rw [hn]; simp
        by_cases hq : u.args.length = t.args.length
        · have dq : ((u.args.length : Int) != (t.args.length : Int)) = false := by simp [hq]
          have hc : Hid ((l.take (k + 1)).any (clashP t) = false) := any_take hk2 htk.out (by rw [hgu]; simp [clashP, hq])
          clear hn hq
          go_wp2_with fail
          go_quiet (fail)
          go_wp2_with fail
          go_roundw
          case rel => exact ⟨k + 1, by omega, by go_num, hc, _, rfl⟩
          case measure => simp [intOf]; omega
        · have dq : ((u.args.length : Int) != (t.args.length : Int)) = true := by simp; omega
          have hB : clashB l t = true := List.any_eq_true.2 ⟨u, List.mem_of_getElem? hu, by simp [clashP, hn, hq]⟩
          clear hn hq
          go_wp2_with fail
          go_quiet (fail)
          go_wp2_with fail
          go_ret
          exact ⟨ret_bool hB.symm, Kept.drewN (Kept.drewN K1 _) _⟩
      · have dn : (u.name.toList == t.name.toList) = false := beq_eq_false_iff_ne.2 (fun e => hn (toList_name e))
        have hc : Hid ((l.take (k + 1)).any (clashP t) = false) := any_take hk2 htk.out (by rw [hgu]; simp [clashP, hn])
        clear hn
        go_wp2_with fail
        go_quiet (fail)
        go_wp2_with fail
        go_roundw
        case rel => exact ⟨k + 1, by omega, by go_num, hc, _, rfl⟩
        case measure => simp [intOf]; omega
    · have dk : decide ((k : Int) < (l.length : Int)) = false := decide_eq_false (by omega)
      have hB : clashB l t = false := by
        have := htk.out
        rw [show k = l.length from by omega, List.take_length] at this
        exact this
      go_wp2_with fail
      go_ret
      exact ⟨ret_bool hB.symm, Kept.drewN K1 _⟩

end Go.Proofs.Ytinphcnknionmaa
