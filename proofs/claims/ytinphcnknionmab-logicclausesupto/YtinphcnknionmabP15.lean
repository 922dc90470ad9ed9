/- Package term: write, Show. Package term: Term. -/
import Derived.Test.YtinphcnknionmabP14
import Derived.Test.YtinphcnknionmabP02
namespace Go.Proofs.Ytinphcnknionmab
open Go.RowKit Go.Maps

theorem Bk.blocks {w w' : World} {base p : Nat} {ev : Value} {nb fb : Nat} {l : List Tm} (h : Bk w base p ev nb fb l) (hp : w'.heap[p]? = w.heap[p]?) (hn : w'.heap[nb]? = w.heap[nb]?) (hf : w'.heap[fb]? = w.heap[fb]?) (he : ∀ k, ev.ownBlock = some k → w'.heap[k]? = w.heap[k]?) : Bk w' base p ev nb fb l := by
  obtain ⟨Dn, ⟨es, ck, n1, n2, n3, n4⟩, n5, n6⟩ := h.nums
  obtain ⟨Df, ⟨es', ck', f1, f2, f3, f4⟩, f5, f6⟩ := h.fsts
  refine ⟨h.bank.of_block hp, ⟨h.rows.1, ?_⟩, ⟨Dn, ⟨es, ck, hn.trans n1, n2, n3, n4⟩, n5, n6⟩, ⟨Df, ⟨es', ck', hf.trans f1, f2, f3, f4⟩, f5, f6⟩, h.oks, h.nodup, h.pn, h.pf, h.nf, h.ep, h.en, h.ef, h.bp, h.bn, h.bf, h.small⟩
  rcases h.rows.2 with e | ⟨b, cap, cur, e, e1, e2, e3⟩
  · exact Or.inl e
  · exact Or.inr ⟨b, cap, cur, e, e1, (he b (by rw [e]; rfl)).trans e2, e3⟩

/-- The bank lies below B. -/
structure Low (B p : Nat) (ev : Value) (nb fb : Nat) : Prop where
  p : p < B
  n : nb < B
  f : fb < B
  e : ∀ k, ev.ownBlock = some k → k < B

theorem Bk.low {w : World} {base p : Nat} {ev : Value} {nb fb : Nat} {l : List Tm} (h : Bk w base p ev nb fb l) : Low w.heap.size p ev nb fb := by
  obtain ⟨Dn, n1, _, _⟩ := h.nums
  obtain ⟨Df, f1, _, _⟩ := h.fsts
  refine ⟨h.bank.lt, World.ownsMap.lt n1, World.ownsMap.lt f1, fun k e => ?_⟩
  rcases h.rows.2 with ⟨e2, h0⟩ | ⟨b, cap, cur, e2, hb, e2h⟩
  · rw [e2] at e; simp [Value.ownBlock] at e
  · rw [e2] at e
    simp [Value.ownBlock] at e
    have := right_lt e2h.1
    omega
theorem Bk.below {w w' : World} {B base p : Nat} {ev : Value} {nb fb : Nat} {l : List Tm} (h : Bk w base p ev nb fb l) (L : Low B p ev nb fb) (hb : Below B w w') : Bk w' base p ev nb fb l :=
  h.blocks (hb.block _ L.p) (hb.block _ L.n) (hb.block _ L.f) (fun k e => hb.block k (L.e k e))

theorem BKept.refl (B b : Nat) (w : World) : BKept B b w w := ⟨Below.refl B w, Lib.OthersKept.refl _ _ w⟩
theorem BKept.trans {B b : Nat} {a c d : World} (h : BKept B b a c) (k : BKept B b c d) : BKept B b a d := ⟨h.1.trans k.1, h.2.trans k.2⟩
theorem BKept.alloc {B b : Nat} {a w : World} (h : BKept B b a w) (hB : B ≤ a.heap.size) (o : Obj) : BKept B b a (w.alloc o) := ⟨h.1.alloc (by have := h.1.size; omega) o, h.2.alloc o⟩
/-- A row that is no bytes stays. -/
theorem BKept.row {B b x : Nat} {w w' : World} {t : Tm} (h : BKept B b w w') (hx : x ≠ b) (R : Boxed w x t) : Boxed w' x t := by
  obtain ⟨cur, h1, h2, h3⟩ := R
  exact ⟨cur, h.2 x _ h1 (fun e => hx (by injection e)) (fun c fz e => by injection e with _ e; exact absurd e (by decide)), h2, h3⟩

theorem bytesN (c : Nat) (h : c < 256) : Lib.byteCells [UInt8.ofNat c] = [.int .u8 (c : Int)] := by
  simp [Lib.byteCells, Nat.mod_eq_of_lt h]
theorem bytes_app (a b : List UInt8) : Lib.byteCells (a ++ b) = Lib.byteCells a ++ Lib.byteCells b := by simp [Lib.byteCells]

theorem slice4 (x k : Nat) (h : k ≤ 4) (w : World) : (Instr.sliceAt 126 (.pointer (some ⟨x, 2, none⟩)) none (some (.int .i64 (k : Int))) none).run Try.prog w = .ok (.slice (some ⟨x, 2, none⟩) k 4) w := by
  rcases (by omega : k = 0 ∨ k = 1 ∨ k = 2 ∨ k = 3 ∨ k = 4) with rfl | rfl | rfl | rfl | rfl <;> kernel_rfl

theorem Boxed.arg {w : World} {b : Nat} {t : Tm} (h : Boxed w b t) {k : Nat} (hk : k < 4) : w.cell? ⟨b, 2 + k, none⟩ = some (.int .i64 (t.arg k : Int)) := by
  rw [World.rowIs.cell h (i := 2 + k) (by omega)]
  rcases (by omega : k = 0 ∨ k = 1 ∨ k = 2 ∨ k = 3) with rfl | rfl | rfl | rfl <;> rfl

theorem accW_len {f : Nat → List UInt8} {M k : Nat} (h : ∀ j, j < k → (f j).length ≤ M) : (accW f k).length ≤ 1 + k * (M + 1) := by
  unfold accW
  split
  · simp
  · have := joinTo_len h
    rw [List.length_cons]
    omega

theorem wbyte_n (B b : Nat) (bs : List UInt8) (c : Nat) (hc : c < 256) (w : World) (h : Bld w B b (Lib.byteCells bs)) (hlen : bs.length + 1 ≤ 140737488355328) (hBw : B ≤ w.heap.size) :
    Calls Try.prog 61 #[.pointer (some ⟨b, 0, none⟩), .int .u8 (c : Int)] w fun e w' => e = .returned .nilIface ∧ Bld w' B b (Lib.byteCells (bs ++ [UInt8.ofNat c])) ∧ BKept B b w w' := by
  refine (wbyte_in B b (Lib.byteCells bs) c w h (by rw [Lib.byteCells_length]; exact hlen) hBw).mono ?_
  rintro e w' ⟨he, h1, h2⟩
  exact ⟨he, by rw [bytes_app, bytesN c hc]; exact h1, h2⟩

def WriteAt (f : Nat) : Prop := ∀ (w : World) (base p : Nat) (ev : Value) (nb fb : Nat) (l : List Tm) (B b n : Nat) (bs : List UInt8), Bk w base p ev nb fb l → Low B p ev nb fb → Hgt l f n → Bld w B b (Lib.byteCells bs) → B ≤ b → B ≤ w.heap.size → bs.length + 12 * 5 ^ f ≤ 140737488355328 →
  Calls Try.prog 55 #[.pointer (some ⟨p, 0, none⟩), .pointer (some ⟨b, 0, none⟩), .int .i64 (n : Int)] w fun e w' => e = .returned (.tuple #[]) ∧ Bld w' B b (Lib.byteCells (bs ++ shw l f n)) ∧ BKept B b w w'

set_option maxHeartbeats 2000000 in
set_option maxRecDepth 100000 in
theorem write_step (f : Nat) (IH : WriteAt f) : WriteAt (f + 1) := by
  intro w base p ev nb fb l B b n bs h L hg hb hBb hBw hlen
  obtain ⟨t, ht, hargs⟩ := hg
  have hnl : n < l.length := (List.getElem?_eq_some_iff.1 ht).1
  have hsm := h.small
  have hok := h.oks t (List.mem_of_getElem? ht)
  have c0 := h.c0
  obtain ⟨g, cap, rfl, hgc⟩ := h.at ht
  have g0 : w.cell? ⟨g, n * 6, none⟩ = some (.string t.name) := hgc 0 _ rfl
  have g1 := hgc 1 _ rfl
  have g2 := hgc 2 _ rfl
  have g3 := hgc 3 _ rfl
  have g4 := hgc 4 _ rfl
  have g5 := hgc 5 _ rfl
  clear hgc
  have bR := boxed_row w t
  have hEL : (entryL t).toArray = #[.string t.name, .int .i64 (t.args.length : Int), .int .i64 (t.arg 0 : Int), .int .i64 (t.arg 1 : Int), .int .i64 (t.arg 2 : Int), .int .i64 (t.arg 3 : Int)] := rfl
  have hlt : b < w.heap.size := by rcases hb with hb | hb <;> exact hb.lt
  have hb1 : Bld (w.alloc (.cells (entryL t).toArray 128)) B b (Lib.byteCells bs) := by
    rcases hb with hb | hb
    · exact Or.inl (hb.alloc _)
    · exact Or.inr (hb.alloc _)
  have K1 : BKept B b w (w.alloc (.cells (entryL t).toArray 128)) := (BKept.refl B b w).alloc hBw _
  rw [hEL] at bR hb1 K1
  have y0 := bR.c0
  have hs1 : B ≤ (w.alloc (Obj.cells #[.string t.name, .int .i64 (t.args.length : Int), .int .i64 (t.arg 0 : Int), .int .i64 (t.arg 1 : Int), .int .i64 (t.arg 2 : Int), .int .i64 (t.arg 3 : Int)] 128)).heap.size := by simp; omega
  have p5 : 1 ≤ 5 ^ f := Nat.one_le_pow _ _ (by omega)
  rw [Nat.pow_succ] at hlen
  have hnm := hok.name
  have ha4 := hok.args
  have WS := wstring_in B b (Lib.byteCells bs) t.name _ hb1 (by rw [Lib.byteCells_length]; omega) hs1
  have hshw : shw l (f + 1) n = t.name.data.toList ++ (if t.args.length = 0 then [] else 40 :: (joinTo (fun j => shw l f (t.arg j)) t.args.length ++ [41])) := by rw [shw, ht]
  go_enter Try.func55, Try.ntmps55
  go_wp2_with fail
  generalize w.alloc (Obj.cells #[.string t.name, .int .i64 (t.args.length : Int), .int .i64 (t.arg 0 : Int), .int .i64 (t.arg 1 : Int), .int .i64 (t.arg 2 : Int), .int .i64 (t.arg 3 : Int)] 128) = w1 at bR hb1 K1 y0 hs1 WS ⊢
  have hxb : w.heap.size ≠ b := by omega
  generalize w.heap.size = x at *
  clear g0 g1 g2 g3 g4 g5 c0
  have H1 := h.below L K1.1
  have HL : Hid (bs.length + 12 * (5 ^ f * 5) ≤ 140737488355328) := hlen
  clear hlen
  by_cases hz : t.args.length = 0
  · have d0 : (t.args.length : Int) = 0 := by omega
    rw [if_pos hz] at hshw
    go_wp2_with (go_at_call 38; refine WS.mono ?_; rintro e w2 ⟨rfl, B2, K2⟩; have y1 := (K2.row hxb bR).c1)
    refine ⟨rfl, .tuple #[], by simp [results, Try.results55], rfl, ?_, K1.trans K2⟩
    rw [hshw, bytes_app, List.append_nil]
    exact B2
  · have d0 : ((t.args.length : Int) == 0) = false := beq_eq_false_iff_ne.2 (by omega)
    have d4 : (t.args.length : Int) ≤ 4 := by omega
    have SL : ∀ w, (Instr.sliceAt 126 (.pointer (some ⟨x, 2, none⟩)) none (some (.int .i64 (t.args.length : Int))) none).run Try.prog w = .ok (.slice (some ⟨x, 2, none⟩) t.args.length 4) w := slice4 x t.args.length ha4
    rw [if_neg hz] at hshw
    go_wp2_with (go_at_call 38; refine WS.mono ?_; rintro e w2 ⟨rfl, B2, K2⟩; have y1 := (K2.row hxb bR).c1)
    have hK2 : BKept B b w1 w2 := K2
    have FL : ∀ k, k ≤ t.args.length → (accW (fun j => shw l f (t.arg j)) k).length ≤ 1 + k * (12 * 5 ^ f + 1) := fun k _ => accW_len (fun j _ => shw_len h.oks f (t.arg j))
    rw [Lib.strCells_eq, ← bytes_app] at B2
    clear y1 K2
    go_loopw [7, 29] (fun s7 t29 W => ∃ k : Nat, k ≤ t.args.length ∧ t29 = .int .i64 (k : Int) ∧ s7 = .int .u8 (signW k : Int) ∧ Bld W B b (Lib.byteCells ((bs ++ t.name.data.toList) ++ accW (fun j => shw l f (t.arg j)) k)) ∧ Hid (BKept B b w1 W)) (fun _ t29 _ => t.args.length - (intOf t29).toNat)
    case atStart => exact ⟨0, by omega, rfl, rfl, by simpa [accW] using B2, hK2⟩
    case round =>
      obtain ⟨k, hk, rfl, rfl, BK, KK⟩ := hrel
      have hsW : B ≤ wr.heap.size := Nat.le_trans hs1 KK.out.1.size
      have hFk := FL k hk
      by_cases hk2 : k < t.args.length
      · have dk : decide ((k : Int) < (t.args.length : Int)) = true := decide_eq_true (by omega)
        have yk := (KK.out.row hxb bR).arg (k := k) (by omega)
        have hm : k * (12 * 5 ^ f + 1) ≤ 3 * (12 * 5 ^ f + 1) := Nat.mul_le_mul_right _ (by omega)
        have hl1 := HL.out
        have hnl' : t.name.data.toList.length ≤ 6 := by simpa using hnm
        have hsg : signW k < 256 := by unfold signW; split <;> omega
        have WB := wbyte_n B b ((bs ++ t.name.data.toList) ++ accW (fun j => shw l f (t.arg j)) k) (signW k) hsg wr BK (by rw [List.length_append, List.length_append]; omega) hsW
        have hHg := hargs _ (arg_mem hk2)
        have hfin : ((bs ++ t.name.data.toList) ++ accW (fun j => shw l f (t.arg j)) k ++ [UInt8.ofNat (signW k)]) ++ shw l f (t.arg k) = (bs ++ t.name.data.toList) ++ accW (fun j => shw l f (t.arg j)) (k + 1) := by rw [accW_step]; simp
        have hlen2 : ((bs ++ t.name.data.toList) ++ accW (fun j => shw l f (t.arg j)) k ++ [UInt8.ofNat (signW k)]).length + 12 * 5 ^ f ≤ 140737488355328 := by
          rw [List.length_append, List.length_append, List.length_append, List.length_singleton]
          omega
        clear hl1 hm hFk
        generalize ((bs ++ t.name.data.toList) ++ accW (fun j => shw l f (t.arg j)) k ++ [UInt8.ofNat (signW k)]) = bs2 at WB hfin hlen2
        have hlen2' := Hid.out hlen2
        clear hlen2
        have HW : Hid (bs2.length + 12 * 5 ^ f ≤ 140737488355328) := hlen2'
        clear hlen2'
        go_wp2_with (first | (go_at_call 61; refine WB.mono ?_; rintro e w4 ⟨rfl, B4, K4⟩; have W4 := IH w4 base p _ nb fb l B b (t.arg k) bs2 ((h.below L K1.1).below L (KK.out.1.trans K4.1)) L hHg B4 hBb (Nat.le_trans hsW K4.1.size) HW.out) | (go_at_call 55; refine W4.mono ?_; rintro e w5 ⟨rfl, B5, K5⟩))
        go_roundw
        case rel =>
          refine ⟨k + 1, by omega, by go_num, ?_, ?_, (KK.out.trans K4).trans K5⟩
          · simp [signW]
          · rw [← hfin]; exact B5
        case measure => simp [intOf]; omega
      · have dk : decide ((k : Int) < (t.args.length : Int)) = false := decide_eq_false (by omega)
        have hkk : k = t.args.length := by omega
        have hm : k * (12 * 5 ^ f + 1) ≤ 4 * (12 * 5 ^ f + 1) := Nat.mul_le_mul_right _ (by omega)
        have hl1 := HL.out
        have hnl' : t.name.data.toList.length ≤ 6 := by simpa using hnm
        have WB := wbyte_n B b ((bs ++ t.name.data.toList) ++ accW (fun j => shw l f (t.arg j)) k) 41 (by omega) wr BK (by rw [List.length_append, List.length_append]; omega) hsW
        clear hl1 hm hFk
        go_wp2_with (first | (go_at_call 61; refine WB.mono ?_; rintro e w4 ⟨rfl, B4, K4⟩))
        go_end0
        refine ⟨rfl, ?_, (K1.trans KK.out).trans K4⟩
        rw [hshw]
        have hfin : ((bs ++ t.name.data.toList) ++ accW (fun j => shw l f (t.arg j)) k ++ [UInt8.ofNat 41]) = bs ++ (t.name.data.toList ++ 40 :: (joinTo (fun j => shw l f (t.arg j)) t.args.length ++ [41])) := by
          rw [hkk, accW, if_neg hz]
          simp
        rw [← hfin]
        exact B4

theorem write_all : ∀ f, WriteAt f
  | 0 => fun _ _ _ _ _ _ _ _ _ _ _ _ _ hg => hg.elim
  | f + 1 => write_step f (write_all f)

theorem made_builder (w : World) : Bld (w.alloc (.cells #[.pointer none, .slice none 0 0] 92)) w.heap.size w.heap.size [] :=
  Or.inl ⟨Nat.le_refl _, .slice none 0 0, by show (w.heap.push _)[w.heap.size]? = _; simp, ⟨by simp, Or.inl ⟨rfl, rfl⟩⟩, by simp [Value.ownBlock]⟩

/-- What Show answers. -/
def shwB (l : List Tm) (n : Int) : ByteArray := if inB l.length n then ⟨(shw l 13 n.toNat).toArray⟩ else ⟨#[]⟩

set_option maxHeartbeats 1000000 in
set_option maxRecDepth 100000 in
theorem show_in (w : World) (base p : Nat) (ev : Value) (nb fb : Nat) (l : List Tm) (h : Bk w base p ev nb fb l) (hs : Hs l) (n : Int) :
    Calls Try.prog 39 #[.pointer (some ⟨p, 0, none⟩), .int .i64 n] w fun e w' => e = .returned (.string (shwB l n)) ∧ Below w.heap.size w w' := by
  have HAS := thas_in w base p ev nb fb l h n
  cases hi : inB l.length n with
  | false =>
    rw [hi] at HAS
    have hsh : shwB l n = ⟨#[]⟩ := by simp [shwB, hi]
    go_enter Try.func39, Try.ntmps39
    go_wp2_with (go_at_call 54; refine HAS.mono ?_; rintro e w2 ⟨rfl, rfl⟩)
    go_ret
    exact ⟨by rw [hsh]; rfl, Below.refl _ _⟩
  | true =>
    rw [hi] at HAS
    obtain ⟨k, hk, rfl⟩ : ∃ k : Nat, k < l.length ∧ n = (k : Int) := ⟨n.toNat, by have := inB_true hi; omega, by have := inB_true hi; omega⟩
    have hsh : shwB l (k : Int) = ⟨(shw l 13 k).toArray⟩ := by simp [shwB, hi]
    have MB := made_builder w
    have K1 : Below w.heap.size w (w.alloc (.cells #[.pointer none, .slice none 0 0] 92)) := (Below.refl _ w).alloc (Nat.le_refl _) _
    have hs1 : w.heap.size ≤ (w.alloc (.cells #[.pointer none, .slice none 0 0] 92)).heap.size := K1.size
    have WR := write_all 13 _ base p ev nb fb l w.heap.size w.heap.size k [] (h.below h.low K1) h.low (hs k hk) MB (Nat.le_refl _) hs1 (by decide)
    go_enter Try.func39, Try.ntmps39
    go_wp2_with (first | (go_at_call 54; refine HAS.mono ?_; rintro e w2 ⟨rfl, rfl⟩) | (go_at_call 55; refine WR.mono ?_; rintro e w3 ⟨rfl, B3, K3⟩; have ST := Try.Builder_String_any_k w.heap.size w.heap.size _ w3 B3 (Nat.le_trans hs1 K3.1.size)) | (go_at_call 42; refine ST.mono ?_; rintro e w4 ⟨rfl, B4, K4, _⟩))
    go_ret
    exact ⟨by rw [hsh]; rfl, (K1.trans K3.1).trans K4⟩

end Go.Proofs.Ytinphcnknionmab

namespace Go.Proofs.Ytinphcnknionmab
open Go.RowKit Go.Maps

def argC (l : List Nat) : List Value := l.map fun x : Nat => Value.int .i64 (x : Int)
theorem argC_len (l : List Nat) : (argC l).length = l.length := by simp [argC]
theorem argC_one (l : List Nat) : ∀ u ∈ argC l, u.oneCell' = true := by
  intro u hu
  simp [argC] at hu
  obtain ⟨a, _, rfl⟩ := hu
  rfl
theorem infoI : (Try.prog.info? 3).map (fun i => (i.zero, i.size, i.bytes)) = some (some (.int .i64 0), 1, 8) := by kernel_rfl

theorem argC_cells {w : World} {x : Nat} {t : Tm} (h : Boxed w x t) (h4 : t.args.length ≤ 4) : ∀ j u, (argC t.args)[j]? = some u → w.cell? ((⟨x, 2, none⟩ : Addr).add j) = some u := by
  intro j u hj
  have hlt : j < t.args.length := by
    have := (List.getElem?_eq_some_iff.1 hj).1
    rwa [argC_len] at this
  have := h.arg (k := j) (by omega)
  have e : u = .int .i64 (t.arg j : Int) := by
    simp [argC, List.getElem?_eq_getElem hlt] at hj
    rw [← hj]
    unfold Tm.arg
    rw [List.getD_eq_getElem?_getD, List.getElem?_eq_getElem hlt]
    rfl
  rw [e]
  simp only [Addr.add]
  by_cases hj0 : j = 0
  · subst hj0; simpa using this
  · simpa [hj0] using this

theorem row_form {w : World} {base : Nat} {e : TypeId} {size : Nat} {v : Value} {n : Nat} {xs : List Value} (h : w.ownsRow base e size v n xs) : ∃ a c, v = .slice a n c := by
  rcases h.2 with ⟨rfl, h0⟩ | ⟨b, cap, cur, rfl, _⟩
  · rw [h0]; exact ⟨none, 0, rfl⟩
  · exact ⟨_, cap, rfl⟩

/-- What Term answers for a term of the bank. -/
def TermAns (w : World) (t : Tm) (e : Ending) (w' : World) : Prop := ∃ v, e = .returned (.tuple #[.agg #[.string t.name, v], .bool true]) ∧ w'.ownsRow w.heap.size 3 1 v t.args.length (argC t.args) ∧ Below w.heap.size w w'

end Go.Proofs.Ytinphcnknionmab
