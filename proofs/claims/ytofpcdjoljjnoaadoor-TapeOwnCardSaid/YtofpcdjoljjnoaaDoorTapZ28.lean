/-
  The texts TapOpen, TapLaid, one behind the other.
-/
import Derived.Test.YtofpcdjoljjnoaaDoorTapZ27
import Derived.Test.YtofpcdjoljjnoaaDoorTapZ20
import Derived.Deep.Strs
import Derived.Lib.SmallJoins
import Derived.Test.YtofpcdjoljjnoaaDoorTie
import Derived.Test.YtofpcdjoljjnoaaDoorTapZ19
import Derived.LaidMore
import Derived.Stop.Joined

namespace Go.Proofs.YtofpcdjoljjnoaaDoor
open Go.ChangeShapes Go.WideShapes Go.ChangeAt Go.RowKit Go.Deep Go.Joins

theorem list2 {α : Type} {l : List α} (h : l.length = 2) : ∃ a b, l = [a, b] := by
  match l, h with
  | [a, b], _ => exact ⟨a, b, rfl⟩
theorem list3 {α : Type} {l : List α} (h : l.length = 3) : ∃ a b c, l = [a, b, c] := by
  match l, h with
  | [a, b, c], _ => exact ⟨a, b, c, rfl⟩
theorem list4 {α : Type} {l : List α} (h : l.length = 4) : ∃ a b c d, l = [a, b, c, d] := by
  match l, h with
  | [a, b, c, d], _ => exact ⟨a, b, c, d, rfl⟩
theorem list6 {α : Type} {l : List α} (h : l.length = 6) : ∃ a b c d e f, l = [a, b, c, d, e, f] := by
  match l, h with
  | [a, b, c, d, e, f], _ => exact ⟨a, b, c, d, e, f, rfl⟩
theorem list7 {α : Type} {l : List α} (h : l.length = 7) : ∃ a b c d e f g, l = [a, b, c, d, e, f, g] := by
  match l, h with
  | [a, b, c, d, e, f, g], _ => exact ⟨a, b, c, d, e, f, g, rfl⟩
theorem trod_five {H : Type} {enc : TypeId × Value → H} {P : Program} {w : World} {base : Nat} {spare : Nat → Bool} {held : Bool} {t : TypeId} {f0 f1 f2 f3 f4 : Field} {fuel : Nat} {cs : List Value} {x : DataW H × List MemPlace}
    (ht : P.underlying t = some (.struct #[f0, f1, f2, f3, f4])) (h : DataW.trod enc P w base spare held fuel t cs = some x) :
    ∃ y0 y1 y2 y3 y4 n, cs.length = P.cellsOf t ∧ DataW.trod enc P w base spare held n f0.type ((cs.drop f0.offset).take (P.cellsOf f0.type)) = some y0 ∧
      DataW.trod enc P w base spare held n f1.type ((cs.drop f1.offset).take (P.cellsOf f1.type)) = some y1 ∧ DataW.trod enc P w base spare held n f2.type ((cs.drop f2.offset).take (P.cellsOf f2.type)) = some y2 ∧
      DataW.trod enc P w base spare held n f3.type ((cs.drop f3.offset).take (P.cellsOf f3.type)) = some y3 ∧ DataW.trod enc P w base spare held n f4.type ((cs.drop f4.offset).take (P.cellsOf f4.type)) = some y4 := by
  obtain ⟨xs, n, _, _, hl, hlen, hf⟩ := DataW.trod_struct ht h
  match xs, hlen with
  | [y0, y1, y2, y3, y4], _ => exact ⟨y0, y1, y2, y3, y4, n, hl, by simpa using hf 0 f0 rfl, by simpa using hf 1 f1 rfl, by simpa using hf 2 f2 rfl, by simpa using hf 3 f3 rfl, by simpa using hf 4 f4 rfl⟩
theorem cU8 : Tryd.prog.cellsOf 5 = 1 := by kernel_rfl
theorem cInt : Tryd.prog.cellsOf 3 = 1 := by kernel_rfl
theorem cBool : Tryd.prog.cellsOf 4 = 1 := by kernel_rfl
theorem cNat : Tryd.prog.cellsOf 29 = 1 := by kernel_rfl
theorem cZint : Tryd.prog.cellsOf 31 = 2 := by kernel_rfl
theorem cFrac : Tryd.prog.cellsOf 33 = 3 := by kernel_rfl

/-- A row of limbs in a cell. -/
theorem open_raw {H : Type} {enc : TypeId × Value → H} {W : World} {n : Nat} {cs : List Value} {y : DataW H × List MemPlace}
    (h : DataW.trod enc Tryd.prog W 0 (fun _ => true) true n 29 cs = some y) : ∃ v L, cs = [v] ∧ Raw W v L ∧ L.length ≤ 9223372036854775807 := by
  rcases open_ints (k := .u64) Tryd.underlying29 Tryd.underlying64 (by kernel_rfl) h with ⟨hcs, _⟩ | ⟨a, len, cap, zs, hcs, _, hl, hm, hz, _, hcell, hwz⟩
  · exact ⟨_, [], hcs, Raw.nil W, by simp⟩
  · unfold maxLen at hm
    have hzl : len ≤ zs.length := by simp at hz; omega
    have hwf : ∀ i, 0 ≤ zs.getD i 0 ∧ zs.getD i 0 < 18446744073709551616 := fun i => by
      rcases Nat.lt_or_ge i zs.length with h | h
      · rw [List.getD_eq_getElem?_getD, List.getElem?_eq_getElem h]
        obtain ⟨n, e, hn⟩ := nat_of_u64 (hwz _ (List.getElem_mem h))
        show 0 ≤ zs[i] ∧ zs[i] < 18446744073709551616
        omega
      · rw [List.getD_eq_getElem?_getD, List.getElem?_eq_none h]
        show (0 : Int) ≤ 0 ∧ (0 : Int) < 18446744073709551616
        omega
    have hLl : ((zs.take len).map Int.toNat).length = len := by rw [List.length_map, List.length_take]; omega
    have hget : ∀ i, i < len → ((((zs.take len).map Int.toNat).getD i 0 : Nat) : Int) = zs.getD i 0 := fun i hi => by
      have h1 := (hwf i).1
      rw [List.getD_eq_getElem?_getD, List.getElem?_map, List.getElem?_take, if_pos hi, List.getElem?_eq_getElem (show i < zs.length by omega)]
      rw [List.getD_eq_getElem?_getD, List.getElem?_eq_getElem (show i < zs.length by omega)] at h1 ⊢
      show ((zs[i].toNat : Nat) : Int) = zs[i]
      have h2 : 0 ≤ zs[i] := h1
      omega
    refine ⟨_, (zs.take len).map Int.toNat, hcs, ⟨some a, cap, by rw [hLl], by omega, fun e => (by cases e), fun x hx => ?_, fun i hi => ?_⟩, by omega⟩
    · obtain ⟨i, hi, rfl⟩ := List.getElem_of_mem hx
      have h2 := hget i (by omega)
      rw [List.getD_eq_getElem?_getD, List.getElem?_eq_getElem hi] at h2
      have h3 : ((((zs.take len).map Int.toNat)[i] : Nat) : Int) = zs.getD i 0 := h2
      have h4 := (hwf i).2
      omega
    · obtain ⟨b, off, rfl, hc⟩ := ints_at hcell (by omega)
      refine ⟨b, off, rfl, ?_⟩
      rw [hget i (by omega)]
      exact hc i (by omega)

/-- A number in three cells. -/
theorem open_frac {H : Type} {enc : TypeId × Value → H} {W : World} {n : Nat} {cs : List Value} {y : DataW H × List MemPlace}
    (h : DataW.trod enc Tryd.prog W 0 (fun _ => true) true n 33 cs = some y) :
    ∃ (x : Fr) (vn vd : Value), cs = [.bool x.s, vn, vd] ∧ Raw W vn x.m ∧ Raw W vd x.d ∧ x.m.length ≤ 9223372036854775807 ∧ x.d.length ≤ 9223372036854775807 := by
  obtain ⟨y0, y1, m, _, hl, t0, t1⟩ := trod_struct2 Tryd.underlying33 h
  rw [cFrac] at hl
  obtain ⟨c0, c1, c2, rfl⟩ := list3 hl
  simp only [cZint, cNat, List.drop_zero, List.take_succ_cons, List.take_zero, List.drop_succ_cons] at t0 t1
  obtain ⟨z0, z1, m2, _, _, s0, s1⟩ := trod_struct2 Tryd.underlying31 t0
  simp only [cBool, cNat, List.drop_zero, List.take_succ_cons, List.take_zero, List.drop_succ_cons] at s0 s1
  obtain ⟨b, e0, _⟩ := DataW.trod_bool Tryd.underlying4 s0
  obtain ⟨v1, L, e1, r1, l1⟩ := open_raw s1
  obtain ⟨v2, D, e2, r2, l2⟩ := open_raw t1
  simp only [List.cons.injEq, and_true] at e0 e1 e2
  subst e0 e1 e2
  exact ⟨⟨b, L, D⟩, _, _, rfl, r1, r2, l1, l2⟩

/-- A slice in a cell: its elements' cells, one behind the other, and each one's own reading. -/
theorem rows_of_trod {H : Type} {enc : TypeId × Value → H} {P : Program} {W : World} {T E K fuel : Nat} {cs : List Value} {y : DataW H × List MemPlace} (hT : P.underlying T = some (.slice E)) (hC : P.cellsOf E = K) (hK : 0 < K)
    (hf : DataW.trod enc P W 0 (fun _ => true) true fuel T cs = some y) :
    ∃ A len cap, cs = [.slice A len cap] ∧ len ≤ 9223372036854775807 ∧ ∀ i, i < len → ∃ (b off : Nat) (cs : List Value) (n : Nat) (x : DataW H × List MemPlace), A = some ⟨b, off, none⟩ ∧ b < W.heap.size ∧ cs.length = K ∧
      (∀ j, j < K → W.cell? ⟨b, off + i * K + j, none⟩ = cs[j]?) ∧ DataW.trod enc P W 0 (fun _ => true) true n E cs = some x := by
  rcases Go.Deep.open_slice hT hf with ⟨hcs, _⟩ | ⟨a, l, c, m, n, D, Pl, hcs, _, hl, hm, hmm, _, hel⟩
  · exact ⟨_, _, _, hcs, by omega, fun i hi => absurd hi (by omega)⟩
  · unfold maxLen at hm
    simp only [if_true] at hmm
    rw [hC] at hel
    refine ⟨_, _, _, hcs, by omega, fun i hi => ?_⟩
    have hsp : a.spot = none := by
      obtain ⟨cs, hc, _⟩ := hel 0 (by omega)
      obtain ⟨_, hlen, hat⟩ := World.cells?_some hc
      have h0 := hat 0 hK
      rw [Go.Deep.add_add] at h0
      have e : cs[0]? = some (cs[0]'(by omega)) := List.getElem?_eq_getElem (by omega)
      rw [e] at h0
      simpa [Addr.add] using World.cell?_spot h0
    obtain ⟨b, off, sp⟩ := a
    simp only at hsp
    subst hsp
    obtain ⟨cs, hc, ht⟩ := hel i (by omega)
    obtain ⟨_, hlen, hat⟩ := World.cells?_some hc
    have hcell : ∀ j, j < K → W.cell? ⟨b, off + i * K + j, none⟩ = cs[j]? := fun j hj => by
      rw [← hat j hj, Go.Deep.add_add]
      congr 1
      unfold Addr.add
      split
      · rename_i h0
        have h1 : i * K = 0 := by omega
        have h2 : j = 0 := by omega
        rw [h1, h2]; rfl
      · simp [Nat.add_assoc]
    have hb : b < W.heap.size := by
      have h0 := hcell 0 hK
      rw [List.getElem?_eq_getElem (by omega)] at h0
      exact World.block_lt_of_cell? W _ h0
    exact ⟨b, off, cs, n, _, rfl, hb, hlen, hcell, ht⟩

/-- A call. -/
structure Cl where
  what : Nat
  op : Nat
  a : Int
  b : Int
  x : Fr
/-- Its cells. -/
def clCells (c : Cl) (vn vd : Value) : List Value := [.int .u8 (c.what : Int), .int .u8 (c.op : Int), .int .i64 c.a, .int .i64 c.b, .bool c.x.s, vn, vd]
/-- It may be read. -/
def ClOK (W : World) (c : Cl) (vn vd : Value) : Prop := c.what < 256 ∧ c.op < 256 ∧ I64 c.a ∧ I64 c.b ∧ Raw W vn c.x.m ∧ Raw W vd c.x.d ∧ c.x.m.length ≤ 9223372036854775807 ∧ c.x.d.length ≤ 9223372036854775807
theorem ClOK.grow {W W' : World} {c : Cl} {vn vd : Value} (h : ClOK W c vn vd) (hg : Grow W W') : ClOK W' c vn vd := ⟨h.1, h.2.1, h.2.2.1, h.2.2.2.1, h.2.2.2.2.1.grow hg, h.2.2.2.2.2.1.grow hg, h.2.2.2.2.2.2⟩
theorem cCall : Tryd.prog.cellsOf 35 = 7 := by kernel_rfl
theorem open_cl {H : Type} {enc : TypeId × Value → H} {W : World} {n : Nat} {l : List Value} {y : DataW H × List MemPlace}
    (hf : DataW.trod enc Tryd.prog W 0 (fun _ => true) true n 35 l = some y) : ∃ c vn vd, l = clCells c vn vd ∧ ClOK W c vn vd := by
  obtain ⟨y0, y1, y2, y3, y4, n, hsz, g0, g1, g2, g3, g4⟩ := trod_five Tryd.underlying35 hf
  rw [cCall] at hsz
  obtain ⟨c0, c1, c2, c3, c4, c5, c6, rfl⟩ := list7 hsz
  simp only [cU8, cInt, cFrac, List.drop_zero, List.take_succ_cons, List.take_zero, List.drop_succ_cons] at g0 g1 g2 g3 g4
  obtain ⟨q, e0, _, w0⟩ := DataW.trod_int Tryd.underlying5 g0
  obtain ⟨o, e1, _, w1⟩ := DataW.trod_int Tryd.underlying5 g1
  obtain ⟨a, e2, _, w2⟩ := DataW.trod_int Tryd.underlying3 g2
  obtain ⟨b, e3, _, w3⟩ := DataW.trod_int Tryd.underlying3 g3
  obtain ⟨x, vn, vd, e4, r1, r2, l1, l2⟩ := open_frac g4
  simp only [List.cons.injEq, and_true] at e0 e1 e2 e3 e4
  obtain ⟨rfl, rfl, rfl⟩ := e4
  subst e0 e1 e2 e3
  obtain ⟨q, rfl, hq⟩ := nat_of_u8 w0
  obtain ⟨o, rfl, ho⟩ := nat_of_u8 w1
  exact ⟨⟨q, o, a, b, x⟩, _, _, rfl, hq, ho, range_of_i64 w2, range_of_i64 w3, r1, r2, l1, l2⟩
set_option maxRecDepth 100000 in
/-- A call that a law is handed. -/
theorem open_call {H : Type} {enc : TypeId × Value → H} {W : World} {b0 : Nat} {v : Value} {d : DataW H} {p : List MemPlace}
    (hv : Value.okWide Tryd.prog W .any b0 35 v) (h : DataW.Trod enc Tryd.prog W 0 (fun _ => true) true 35 v d p) :
    ∃ c vn vd, v = .agg (clCells c vn vd).toArray ∧ ClOK W c vn vd := by
  obtain ⟨cs, rfl, hsz⟩ := okWide_struct Tryd.underlying35 hv
  obtain ⟨fuel, hf⟩ := h
  obtain ⟨l⟩ := cs
  obtain ⟨c, vn, vd, e, hc⟩ := open_cl (l := l) hf
  exact ⟨c, vn, vd, by rw [e], hc⟩
/-- A list of calls that a law is handed. -/
def ClsAt (W : World) (A : Option Addr) (l : List Cl) : Prop :=
  ∀ i c, l[i]? = some c → ∃ b off vn vd, A = some ⟨b, off, none⟩ ∧ (∀ j v, (clCells c vn vd)[j]? = some v → W.cell? ⟨b, off + i * 7 + j, none⟩ = some v) ∧ ClOK W c vn vd
theorem ClsAt.grow {W W' : World} {A : Option Addr} {l : List Cl} (h : ClsAt W A l) (hg : Grow W W') : ClsAt W' A l := fun i c hc => by
  obtain ⟨b, off, vn, vd, h1, h2, h3⟩ := h i c hc
  refine ⟨b, off, vn, vd, h1, fun j v hv => ?_, h3.grow hg⟩
  have hb := World.block_lt_of_cell? W _ (h2 0 _ rfl)
  exact (hg.cell (p := ⟨b, off + i * 7 + j, none⟩) hb).trans (h2 j v hv)
theorem list_of {α : Type} {n : Nat} {p : Nat → α → Prop} (h : ∀ i, i < n → ∃ x, p i x) : ∃ l : List α, l.length = n ∧ ∀ i x, l[i]? = some x → p i x := by
  induction n with
  | zero => exact ⟨[], rfl, fun i x hx => by simp at hx⟩
  | succ n ih =>
    obtain ⟨l, hl, hp⟩ := ih (fun i hi => h i (by omega))
    obtain ⟨x, hx⟩ := h n (by omega)
    refine ⟨l ++ [x], by simp [hl], fun i y hy => ?_⟩
    rcases Nat.lt_or_ge i n with hi | hi
    · rw [List.getElem?_append_left (by omega)] at hy
      exact hp i y hy
    · rw [List.getElem?_append_right (by omega), hl] at hy
      have h0 : i - n = 0 := by
        rcases Nat.eq_zero_or_pos (i - n) with h | h
        · exact h
        · rw [List.getElem?_eq_none (by simp; omega)] at hy; cases hy
      rw [h0] at hy
      simp at hy
      obtain rfl : i = n := by omega
      rw [← hy]; exact hx
set_option maxRecDepth 100000 in
theorem open_calls {H : Type} {enc : TypeId × Value → H} {W : World} {b0 : Nat} {v : Value} {d : DataW H} {p : List MemPlace}
    (hv : Value.okWide Tryd.prog W .any b0 22 v) (h : DataW.Trod enc Tryd.prog W 0 (fun _ => true) true 22 v d p) :
    ∃ A cap l, v = .slice A l.length cap ∧ l.length ≤ 9223372036854775807 ∧ ClsAt W A l := by
  obtain ⟨A, len, cap, rfl, hlen, hel⟩ := open_rows Tryd.underlying22 cCall (by decide) hv h
  obtain ⟨l, hl, hp⟩ := list_of (n := len) (p := fun i c => ∃ b off vn vd, A = some ⟨b, off, none⟩ ∧ (∀ j v, (clCells c vn vd)[j]? = some v → W.cell? ⟨b, off + i * 7 + j, none⟩ = some v) ∧ ClOK W c vn vd) (fun i hi => by
    obtain ⟨b, off, cs, n, x, hA, _, hlc, hc, ht⟩ := hel i hi
    obtain ⟨c, vn, vd, rfl, hok⟩ := open_cl ht
    exact ⟨c, b, off, vn, vd, hA, fun j v hv => by rw [hc j (by have := (List.getElem?_eq_some_iff.1 hv).1; rw [hlc] at this; exact this), hv], hok⟩)
  exact ⟨A, cap, l, by rw [hl], by omega, hp⟩

/-- A step in its cells. -/
theorem cNode : Tryd.prog.cellsOf 56 = 6 := by kernel_rfl
theorem cTell : Tryd.prog.cellsOf 63 = 2 := by kernel_rfl
theorem cString : Tryd.prog.cellsOf 9 = 1 := by kernel_rfl
theorem cTape : Tryd.prog.cellsOf 46 = 4 := by kernel_rfl
theorem cNodes : Tryd.prog.cellsOf 43 = 1 := by kernel_rfl
theorem cTells : Tryd.prog.cellsOf 44 = 1 := by kernel_rfl
def NdRaw (W : World) (x : Nd) (vn vd : Value) : Prop := x.op < 256 ∧ I64 x.a ∧ I64 x.b ∧ Raw W vn x.c.m ∧ Raw W vd x.c.d ∧ x.c.m.length ≤ 9223372036854775807 ∧ x.c.d.length ≤ 9223372036854775807
theorem NdRaw.grow {W W' : World} {x : Nd} {vn vd : Value} (h : NdRaw W x vn vd) (hg : Grow W W') : NdRaw W' x vn vd := ⟨h.1, h.2.1, h.2.2.1, h.2.2.2.1.grow hg, h.2.2.2.2.1.grow hg, h.2.2.2.2.2⟩
theorem open_nd {H : Type} {enc : TypeId × Value → H} {W : World} {n : Nat} {l : List Value} {y : DataW H × List MemPlace}
    (hf : DataW.trod enc Tryd.prog W 0 (fun _ => true) true n 56 l = some y) : ∃ x vn vd, l = ndCells x vn vd ∧ NdRaw W x vn vd := by
  obtain ⟨y0, y1, y2, y3, n, _, hl, g0, g1, g2, g3⟩ := trod_struct4 Tryd.underlying56 hf
  rw [cNode] at hl
  obtain ⟨c0, c1, c2, c3, c4, c5, rfl⟩ := list6 hl
  simp only [cU8, cInt, cFrac, List.drop_zero, List.take_succ_cons, List.take_zero, List.drop_succ_cons] at g0 g1 g2 g3
  obtain ⟨o, e0, _, w0⟩ := DataW.trod_int Tryd.underlying5 g0
  obtain ⟨a, e1, _, w1⟩ := DataW.trod_int Tryd.underlying3 g1
  obtain ⟨b, e2, _, w2⟩ := DataW.trod_int Tryd.underlying3 g2
  obtain ⟨x, vn, vd, e3, r1, r2, l1, l2⟩ := open_frac g3
  simp only [List.cons.injEq, and_true] at e0 e1 e2 e3
  obtain ⟨rfl, rfl, rfl⟩ := e3
  subst e0 e1 e2
  obtain ⟨o, rfl, ho⟩ := nat_of_u8 w0
  exact ⟨⟨o, a, b, x⟩, _, _, rfl, ho, range_of_i64 w1, range_of_i64 w2, r1, r2, l1, l2⟩
/-- Steps that a law is handed. -/
def NdsRaw (W : World) (A : Option Addr) (L : List Nd) : Prop :=
  ∀ i x, L[i]? = some x → ∃ b off vn vd, A = some ⟨b, off, none⟩ ∧ (∀ j v, (ndCells x vn vd)[j]? = some v → W.cell? ⟨b, off + i * 6 + j, none⟩ = some v) ∧ NdRaw W x vn vd
theorem NdsRaw.at {W : World} {A : Option Addr} {L : List Nd} {K : Nat} (h : NdsRaw W A L) (hK : ∀ (i : Nat) (x : Nd), L[i]? = some x → x.c.m.length ≤ K ∧ x.c.d.length ≤ K) : NdsAt K W A L := fun i x hx => by
  obtain ⟨b, off, vn, vd, h1, h2, h3, h4, h5, h6, h7, _⟩ := h i x hx
  exact ⟨b, off, vn, vd, h1, h2, h3, h4, h5, h6, h7, hK i x hx⟩
set_option maxRecDepth 100000 in
/-- A tape that a law is handed. -/
theorem open_tape {H : Type} {enc : TypeId × Value → H} {W : World} {b0 : Nat} {v : Value} {d : DataW H} {p : List MemPlace}
    (hv : Value.okWide Tryd.prog W .any b0 46 v) (h : DataW.Trod enc Tryd.prog W 0 (fun _ => true) true 46 v d p) :
    ∃ (pars out : Int) (A B : Option Addr) (ca cb : Nat) (L : List Nd) (T : List (List UInt8 × Int)), v = .agg #[.int .i64 pars, .int .i64 out, .slice A L.length ca, .slice B T.length cb] ∧ I64 pars ∧ I64 out ∧
      L.length ≤ 9223372036854775807 ∧ T.length ≤ 9223372036854775807 ∧ NdsRaw W A L ∧ TlsAt W B T ∧ (∀ t ∈ T, t.1.length ≤ 9223372036854775807) := by
  obtain ⟨cs, rfl, hsz⟩ := okWide_struct Tryd.underlying46 hv
  obtain ⟨fuel, hf⟩ := h
  obtain ⟨l⟩ := cs
  obtain ⟨y0, y1, y2, y3, n, _, hl, g0, g1, g2, g3⟩ := trod_struct4 Tryd.underlying46 hf
  rw [cTape] at hl
  obtain ⟨c0, c1, c2, c3, e⟩ := list4 hl
  subst e
  simp only [Value.cells, cInt, cNodes, cTells, List.drop_zero, List.take_succ_cons, List.take_zero, List.drop_succ_cons] at g0 g1 g2 g3
  obtain ⟨pars, e0, _, w0⟩ := DataW.trod_int Tryd.underlying3 g0
  obtain ⟨out, e1, _, w1⟩ := DataW.trod_int Tryd.underlying3 g1
  obtain ⟨A, la, ca, e2, hla, ha⟩ := rows_of_trod Tryd.underlying43 cNode (by decide) g2
  obtain ⟨B, lb, cb, e3, hlb, hb⟩ := rows_of_trod Tryd.underlying44 cTell (by decide) g3
  simp only [List.cons.injEq, and_true] at e0 e1 e2 e3
  subst e0 e1 e2 e3
  obtain ⟨L, hL, hp⟩ := list_of (n := la) (p := fun i x => ∃ b off vn vd, A = some ⟨b, off, none⟩ ∧ (∀ j v, (ndCells x vn vd)[j]? = some v → W.cell? ⟨b, off + i * 6 + j, none⟩ = some v) ∧ NdRaw W x vn vd) (fun i hi => by
    obtain ⟨b, off, cs, n, x, hA, _, hlc, hc, ht⟩ := ha i hi
    obtain ⟨c, vn, vd, rfl, hok⟩ := open_nd ht
    exact ⟨c, b, off, vn, vd, hA, fun j v hv => by rw [hc j (by have := (List.getElem?_eq_some_iff.1 hv).1; rw [hlc] at this; exact this), hv], hok⟩)
  obtain ⟨T, hT, hq⟩ := list_of (n := lb) (p := fun i (x : List UInt8 × Int) => (I64 x.2 ∧ ∃ b off, B = some ⟨b, off, none⟩ ∧ W.cell? ⟨b, off + i * 2, none⟩ = some (.string (mk x.1)) ∧ W.cell? ⟨b, off + i * 2 + 1, none⟩ = some (.int .i64 x.2)) ∧ x.1.length ≤ 9223372036854775807) (fun i hi => by
    obtain ⟨b, off, cs, n, x, hB, _, hlc, hc, ht⟩ := hb i hi
    obtain ⟨z0, z1, m, _, _, t0, t1⟩ := trod_struct2 Tryd.underlying63 ht
    obtain ⟨d0, d1, rfl⟩ := list2 hlc
    simp only [cString, cInt, List.drop_zero, List.take_succ_cons, List.take_zero, List.drop_succ_cons] at t0 t1
    obtain ⟨s, e0, _, hs⟩ := DataW.trod_string Tryd.underlying9 t0
    obtain ⟨q, e1, _, w1⟩ := DataW.trod_int Tryd.underlying3 t1
    simp only [List.cons.injEq, and_true] at e0 e1
    subst e0 e1
    have k0 := hc 0 (by decide)
    have k1 := hc 1 (by decide)
    refine ⟨(s.data.toList, q), ⟨range_of_i64 w1, b, off, hB, ?_, ?_⟩, ?_⟩
    · rw [mk_of]; simpa using k0
    · simpa using k1
    · unfold maxLen at hs
      show s.data.toList.length ≤ _
      rw [Array.length_toList]
      exact hs)
  refine ⟨pars, out, A, B, ca, cb, L, T, by rw [hL, hT], range_of_i64 w0, range_of_i64 w1, by omega, by omega, hp, fun i x hx => (hq i x hx).1, fun t ht => ?_⟩
  obtain ⟨i, hi⟩ := List.mem_iff_getElem?.1 ht
  exact (hq i t hi).2
end Go.Proofs.YtofpcdjoljjnoaaDoor

namespace Go.Proofs.YtofpcdjoljjnoaaDoor
open Go.ChangeShapes Go.WideShapes Go.ChangeAt Go.RowKit Go.Deep

theorem three_of {α : Type} {l : List α} (h : l.length = 3) : ∃ a b c, l = [a, b, c] := by
  match l, h with
  | [a, b, c], _ => exact ⟨a, b, c, rfl⟩
theorem cons_of {α : Type} {l : List α} {n : Nat} (h : l.length = n + 1) : ∃ a m, l = a :: m ∧ m.length = n := by
  match l, h with
  | a :: m, h => exact ⟨a, m, rfl, by simpa using h⟩
theorem nil_of {α : Type} {l : List α} (h : l.length = 0) : l = [] := List.eq_nil_of_length_eq_zero h
theorem all_of {α : Type} {l : List α} (h : l.length = 36) : ∃ c0 c1 c2 c3 c4 c5 c6 c7 c8 c9 c10 c11 c12 c13 c14 c15 c16 c17 c18 c19 c20 c21 c22 c23 c24 c25 c26 c27 c28 c29 c30 c31 c32 c33 c34 c35, l = [c0, c1, c2, c3, c4, c5, c6, c7, c8, c9, c10, c11, c12, c13, c14, c15, c16, c17, c18, c19, c20, c21, c22, c23, c24, c25, c26, c27, c28, c29, c30, c31, c32, c33, c34, c35] := by
  obtain ⟨a0, m0, rfl, h0⟩ := cons_of h
  obtain ⟨a1, m1, rfl, h1⟩ := cons_of h0
  obtain ⟨a2, m2, rfl, h2⟩ := cons_of h1
  obtain ⟨a3, m3, rfl, h3⟩ := cons_of h2
  obtain ⟨a4, m4, rfl, h4⟩ := cons_of h3
  obtain ⟨a5, m5, rfl, h5⟩ := cons_of h4
  obtain ⟨a6, m6, rfl, h6⟩ := cons_of h5
  obtain ⟨a7, m7, rfl, h7⟩ := cons_of h6
  obtain ⟨a8, m8, rfl, h8⟩ := cons_of h7
  obtain ⟨a9, m9, rfl, h9⟩ := cons_of h8
  obtain ⟨a10, m10, rfl, h10⟩ := cons_of h9
  obtain ⟨a11, m11, rfl, h11⟩ := cons_of h10
  obtain ⟨a12, m12, rfl, h12⟩ := cons_of h11
  obtain ⟨a13, m13, rfl, h13⟩ := cons_of h12
  obtain ⟨a14, m14, rfl, h14⟩ := cons_of h13
  obtain ⟨a15, m15, rfl, h15⟩ := cons_of h14
  obtain ⟨a16, m16, rfl, h16⟩ := cons_of h15
  obtain ⟨a17, m17, rfl, h17⟩ := cons_of h16
  obtain ⟨a18, m18, rfl, h18⟩ := cons_of h17
  obtain ⟨a19, m19, rfl, h19⟩ := cons_of h18
  obtain ⟨a20, m20, rfl, h20⟩ := cons_of h19
  obtain ⟨a21, m21, rfl, h21⟩ := cons_of h20
  obtain ⟨a22, m22, rfl, h22⟩ := cons_of h21
  obtain ⟨a23, m23, rfl, h23⟩ := cons_of h22
  obtain ⟨a24, m24, rfl, h24⟩ := cons_of h23
  obtain ⟨a25, m25, rfl, h25⟩ := cons_of h24
  obtain ⟨a26, m26, rfl, h26⟩ := cons_of h25
  obtain ⟨a27, m27, rfl, h27⟩ := cons_of h26
  obtain ⟨a28, m28, rfl, h28⟩ := cons_of h27
  obtain ⟨a29, m29, rfl, h29⟩ := cons_of h28
  obtain ⟨a30, m30, rfl, h30⟩ := cons_of h29
  obtain ⟨a31, m31, rfl, h31⟩ := cons_of h30
  obtain ⟨a32, m32, rfl, h32⟩ := cons_of h31
  obtain ⟨a33, m33, rfl, h33⟩ := cons_of h32
  obtain ⟨a34, m34, rfl, h34⟩ := cons_of h33
  obtain ⟨a35, m35, rfl, h35⟩ := cons_of h34
  obtain rfl := nil_of h35
  exact ⟨a0, a1, a2, a3, a4, a5, a6, a7, a8, a9, a10, a11, a12, a13, a14, a15, a16, a17, a18, a19, a20, a21, a22, a23, a24, a25, a26, a27, a28, a29, a30, a31, a32, a33, a34, a35, rfl⟩

theorem gFields : Tryd.prog.globalNamed "stepstone/tape.fieldsByOp" = some 0 := by kernel_rfl
theorem tFields : (Tryd.prog.globals[0]?).map (·.type) = some 104 := by kernel_rfl
theorem cFields : Tryd.prog.cellsOf 104 = 36 := by kernel_rfl
theorem cField3 : Tryd.prog.cellsOf 77 = 3 := by kernel_rfl
theorem cField1 : Tryd.prog.cellsOf 75 = 1 := by kernel_rfl
theorem int_of_trod {H : Type} {enc : TypeId × Value → H} {P : Program} {w : World} {base : Nat} {sp : Nat → Bool} {held : Bool} {fuel : Nat} {t : TypeId} {k : IntKind} {c : Value} {y : DataW H × List MemPlace}
    (ht : P.underlying t = some (.int k)) (h : DataW.trod enc P w base sp held fuel t [c] = some y) : ∃ n, c = .int k n ∧ y = (.lit (.int k n), []) := by
  cases fuel with
  | zero => simp [DataW.trod] at h
  | succ fuel =>
    cases c <;> simp [DataW.trod, ht] at h
    rename_i k' n
    obtain ⟨⟨rfl, _⟩, rfl⟩ := h
    exact ⟨n, rfl, rfl⟩
theorem fields_of_trod {H : Type} {enc : TypeId × Value → H} {w : World} {base : Nat} {sp : Nat → Bool} {held : Bool} {n : Nat} {cs : List Value} {y : DataW H × List MemPlace}
    (h : DataW.trod enc Tryd.prog w base sp held n 77 cs = some y) : ∃ a b c, cs = [.int .u8 a, .int .u8 b, .int .u8 c] ∧ y = (.agg [.lit (.int .u8 a), .lit (.int .u8 b), .lit (.int .u8 c)], []) := by
  obtain ⟨y0, y1, y2, m, rfl, hl, t0, t1, t2⟩ := trod_struct3 Tryd.underlying77 h
  rw [cField3] at hl
  obtain ⟨c0, c1, c2, rfl⟩ := three_of hl
  simp only [cField1, List.drop_zero, List.take_succ_cons, List.take_zero, List.drop_succ_cons] at t0 t1 t2
  obtain ⟨a, rfl, rfl⟩ := int_of_trod Tryd.underlying75 t0
  obtain ⟨b, rfl, rfl⟩ := int_of_trod Tryd.underlying75 t1
  obtain ⟨c, rfl, rfl⟩ := int_of_trod Tryd.underlying75 t2
  exact ⟨a, b, c, rfl, rfl⟩

set_option maxRecDepth 100000 in
set_option maxHeartbeats 4000000 in
theorem cells_of_laid {W : World} (h : laidMet Tryd.prog [("stepstone/tape.fieldsByOp", Rows.laid_stepstone_tape_fieldsByOp)] W) : W.var? Tryd.prog "stepstone/tape.fieldsByOp" = some (fldL.map fun n : Nat => Value.int .u8 (n : Int)).toArray := by
  obtain ⟨ps, ⟨g, t, cs, fuel, p, q, hg, ht, hvar, hd, _, _⟩, _⟩ := h
  obtain rfl := Option.some.inj (gFields.symm.trans hg)
  obtain rfl := Option.some.inj (tFields.symm.trans ht)
  rw [hvar]
  congr 1
  obtain ⟨l⟩ := cs
  cases fuel with
  | zero => simp [DataW.trod] at hd
  | succ fuel =>
    simp only [DataW.trod, Tryd.underlying104, cFields, cField3] at hd
    split at hd
    · rename_i hl
      obtain ⟨c0, c1, c2, c3, c4, c5, c6, c7, c8, c9, c10, c11, c12, c13, c14, c15, c16, c17, c18, c19, c20, c21, c22, c23, c24, c25, c26, c27, c28, c29, c30, c31, c32, c33, c34, c35, rfl⟩ := all_of hl
      have e : List.range 12 = [0, 1, 2, 3, 4, 5, 6, 7, 8, 9, 10, 11] := rfl
      rw [e] at hd
      simp only [Option.map_eq_some_iff, List.mapM_cons, List.mapM_nil, Option.bind_eq_bind, Option.bind_eq_some_iff, Option.pure_def, Option.some.injEq, List.drop_zero, Nat.zero_mul, Nat.one_mul, Nat.reduceMul, List.take_succ_cons, List.take_zero, List.drop_succ_cons] at hd
      obtain ⟨xs, ⟨y0, h0, _, ⟨y1, h1, _, ⟨y2, h2, _, ⟨y3, h3, _, ⟨y4, h4, _, ⟨y5, h5, _, ⟨y6, h6, _, ⟨y7, h7, _, ⟨y8, h8, _, ⟨y9, h9, _, ⟨y10, h10, _, ⟨y11, h11, _, rfl, rfl⟩, rfl⟩, rfl⟩, rfl⟩, rfl⟩, rfl⟩, rfl⟩, rfl⟩, rfl⟩, rfl⟩, rfl⟩, rfl⟩, hx⟩ := hd
      obtain ⟨a0, b0, d0, e0, rfl⟩ := fields_of_trod h0
      simp only [List.cons.injEq, and_true] at e0
      obtain ⟨rfl, rfl, rfl⟩ := e0
      obtain ⟨a1, b1, d1, e1, rfl⟩ := fields_of_trod h1
      simp only [List.cons.injEq, and_true] at e1
      obtain ⟨rfl, rfl, rfl⟩ := e1
      obtain ⟨a2, b2, d2, e2, rfl⟩ := fields_of_trod h2
      simp only [List.cons.injEq, and_true] at e2
      obtain ⟨rfl, rfl, rfl⟩ := e2
      obtain ⟨a3, b3, d3, e3, rfl⟩ := fields_of_trod h3
      simp only [List.cons.injEq, and_true] at e3
      obtain ⟨rfl, rfl, rfl⟩ := e3
      obtain ⟨a4, b4, d4, e4, rfl⟩ := fields_of_trod h4
      simp only [List.cons.injEq, and_true] at e4
      obtain ⟨rfl, rfl, rfl⟩ := e4
      obtain ⟨a5, b5, d5, e5, rfl⟩ := fields_of_trod h5
      simp only [List.cons.injEq, and_true] at e5
      obtain ⟨rfl, rfl, rfl⟩ := e5
      obtain ⟨a6, b6, d6, e6, rfl⟩ := fields_of_trod h6
      simp only [List.cons.injEq, and_true] at e6
      obtain ⟨rfl, rfl, rfl⟩ := e6
      obtain ⟨a7, b7, d7, e7, rfl⟩ := fields_of_trod h7
      simp only [List.cons.injEq, and_true] at e7
      obtain ⟨rfl, rfl, rfl⟩ := e7
      obtain ⟨a8, b8, d8, e8, rfl⟩ := fields_of_trod h8
      simp only [List.cons.injEq, and_true] at e8
      obtain ⟨rfl, rfl, rfl⟩ := e8
      obtain ⟨a9, b9, d9, e9, rfl⟩ := fields_of_trod h9
      simp only [List.cons.injEq, and_true] at e9
      obtain ⟨rfl, rfl, rfl⟩ := e9
      obtain ⟨a10, b10, d10, e10, rfl⟩ := fields_of_trod h10
      simp only [List.cons.injEq, and_true] at e10
      obtain ⟨rfl, rfl, rfl⟩ := e10
      obtain ⟨a11, b11, d11, e11, rfl⟩ := fields_of_trod h11
      simp only [List.cons.injEq, and_true] at e11
      obtain ⟨rfl, rfl, rfl⟩ := e11
      simp [Rows.laid_stepstone_tape_fieldsByOp] at hx
      obtain ⟨hx, _⟩ := hx
      simp [hx, fldL]
    · cases hd

/-- What the condition gives the walks. -/
theorem tab_of_laid {W : World} (h : laidMetH Tryd.prog [("stepstone/tape.fieldsByOp", Rows.laid_stepstone_tape_fieldsByOp)] W) : Tab W := by
  rw [MakeChecks.laidMetH_plain _ _ _ (by kernel_rfl)] at h
  have hv := cells_of_laid h
  intro i hi
  rw [World.var?_cell gFields hv i]
  have hl : fldL.length = 36 := rfl
  simp [List.getD_eq_getElem?_getD, List.getElem?_eq_getElem (show i < fldL.length by omega)]

/-- The program's own start meets the condition. -/
theorem door_met (os : Os) (args : Array Value) : laidMetH Tryd.prog [("stepstone/tape.fieldsByOp", Rows.laid_stepstone_tape_fieldsByOp)] ((World.doorLaid Tryd.prog 400 os).forCall (fun _ _ => 0) ⟨#[], args, []⟩).memory :=
  laidMetH_of_parts3 (fuel := 8) (laidMet_of_run' 8 (by kernel_rfl) (by kernel_rfl)) (by kernel_rfl) (by kernel_rfl)
end Go.Proofs.YtofpcdjoljjnoaaDoor
