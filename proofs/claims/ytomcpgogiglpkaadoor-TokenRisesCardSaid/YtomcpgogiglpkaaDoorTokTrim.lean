/-
  LAYER 11: the program: the next line; blanks and comments; the token that bytes begin with.
-/
import Derived.Test.YtomcpgogiglpkaaDoorTokSign
import Derived.BigQuiet
import Derived.Lib.EndianMore
namespace Go.Proofs.YtomcpgogiglpkaaDoor
open Go.RowKit

/-- A call that answers a value, and draws at most. -/
def SaysD (v : Value) (w : World) (e : Ending) (w' : World) : Prop := e = .returned v ∧ ∃ n, w' = w.drewN n

def CutPost (l : List UInt8) (w : World) (e : Ending) (w' : World) : Prop := ∃ (p : ByteArray) (z : Bool), e = .returned (.tuple #[.string p, .string (mk (aft l)), .bool z]) ∧ ∃ n, w' = w.drewN n

set_option maxHeartbeats 1000000 in
theorem cut0_any (l : List UInt8) (w : World) (hl : l.length ≤ 1099511627776) :
    Calls Tryd.prog 52 #[.string (mk l), .string (mk [10])] w (CutPost l w) := by
  have HI : Hid (∀ w, Calls Tryd.prog 41 #[.string (mk l), .string (mk [10])] w fun e w' => e = .returned (.int .i64 (Lib.indexByte l 10)) ∧ w' = w) := Lib.hid fun w => by
    have := Tryd.stringslite_Index_one (mk l) 10 w
    rw [mk_toList] at this
    exact this
  have hs1 : (mk [10]).size = 1 := rfl
  have hs := mk_size l
  rcases aft_index l with ⟨e1, e2⟩ | ⟨k, hk, e1, e2⟩
  · rw [e1] at HI
    have HA := Lib.hid e2
    clear e1 e2
    go_enter Tryd.func52, Tryd.ntmps52
    go_wp2_with (go_at_call 41; refine (HI.out _).mono ?_; rintro e w' ⟨rfl, rfl⟩)
    go_ret3
    exact ⟨_, _, by rw [HA.out]; rfl, 0, rfl⟩
  · rw [e1] at HI
    have hk0 : (0 : Int) ≤ (k : Int) := by omega
    have hk1 : (k : Int) ≤ (l.length : Int) := by omega
    have hk2 : (k : Int) + 1 ≤ (l.length : Int) := by omega
    have HE : Hid ((mk l).extract (k + 1) l.length = mk (aft l)) := by
      rw [e2, mk_extract, List.take_length]; exact Lib.hid rfl
    clear e1 e2
    go_enter Tryd.func52, Tryd.ntmps52
    go_wp2_with (go_at_call 41; refine (HI.out _).mono ?_; rintro e w' ⟨rfl, rfl⟩)
    go_quiet (fail)
    go_wp2_with fail
    go_ret3
    exact ⟨_, _, by rw [← HE.out]; rfl, _, rfl⟩

set_option maxHeartbeats 1000000 in
theorem cut_any (l : List UInt8) (w : World) (hl : l.length ≤ 1099511627776) :
    Calls Tryd.prog 43 #[.string (mk l), .string (mk [10])] w (CutPost l w) := by
  go_enter Tryd.func43, Tryd.ntmps43
  go_wp2_with (go_at_call 52; refine (cut0_any l _ hl).mono ?_; rintro e w' ⟨p, z, rfl, n, rfl⟩)
  go_ret3
  exact ⟨_, _, rfl, _, rfl⟩

set_option maxHeartbeats 1000000 in
theorem nextLine_any (l : List UInt8) (w : World) (hl : l.length ≤ 1099511627776) :
    Calls Tryd.prog 36 #[.string (mk l)] w (SaysD (.string (mk (aft l))) w) := by
  have HC : Hid (∀ w, Calls Tryd.prog 43 #[.string (mk l), .string ⟨#[10]⟩] w (CutPost l w)) := Lib.hid fun w => cut_any l w hl
  go_enter Tryd.func36, Tryd.ntmps36
  go_wp2_with (go_at_call 43; refine (HC.out _).mono ?_; rintro e w' ⟨p, z, rfl, n, rfl⟩)
  go_ret
  exact ⟨rfl, _, rfl⟩

def strLen : Value → Nat
  | .string s => s.size
  | _ => 0

set_option maxHeartbeats 1000000 in
theorem trimmed_any (l : List UInt8) (w : World) (hl : l.length ≤ 1099511627776) :
    Calls Tryd.prog 23 #[.string (mk l)] w (SaysD (.string (mk (trm false l))) w) := by
  go_enter Tryd.func23, Tryd.ntmps23
  go_wp2_with fail
  go_loopw [0] (fun r wr => ∃ (l' : List UInt8) (n : Nat), r = .string (mk l') ∧ trm false l' = trm false l ∧ l'.length ≤ l.length ∧ wr = w.drewN n) (fun r _ => strLen r)
  case atStart => exact ⟨l, 0, rfl, rfl, Nat.le_refl _, rfl⟩
  case round =>
    obtain ⟨l', n, rfl, ht, hlen, rfl⟩ := hrel
    have HT := Lib.hid ht
    have HS := Lib.hid (mk_size l')
    clear ht
    cases hb : isB (bAt l' 0)
    · have HB := Lib.hid hb
      clear hb
      have hpf : Hid (∀ w, Calls Tryd.prog 35 #[.string (mk l'), .string ⟨#[47, 47]⟩] w fun e w' =>
        (e = .returned (.bool true) ∧ Hid (Go.Lib.hasPrefix l' [47, 47] = true) ∧ w = w') ∨ (e = .returned (.bool false) ∧ Hid (Go.Lib.hasPrefix l' [47, 47] = false) ∧ w = w')) := Lib.hid fun w => hasPrefix_two l' [47, 47] w
      go_wp2_with (first
        | (go_at_call 34; refine (byteAt_any l' 0 _ rfl _).mono ?_; rintro e w' ⟨rfl, rfl⟩)
        | (go_at_call 33; refine (says_blank HB.out _).mono ?_; rintro e w' ⟨rfl, rfl⟩)
        | (go_at_call 35; refine (hpf.out _).mono ?_; rintro e w' (⟨rfl, hz, rfl⟩ | ⟨rfl, hz, rfl⟩))
        | (go_at_call 36; refine (nextLine_any l' _ (by omega)).mono ?_; rintro e w' ⟨rfl, m, rfl⟩))
      · go_roundw
        case rel => exact ⟨aft l', _, rfl, by rw [← HT.out, trm_slash HB.out hz.out], Nat.le_trans (aft_len l') hlen, rfl⟩
        case measure =>
          have h1 : 2 ≤ l'.length := by
            have := prefix_le hz.out
            simpa using this
          show strLen (.string (mk (aft l'))) < strLen (.string (mk l'))
          simp only [strLen, mk_size]
          exact aft_lt (by omega)
      · go_ret
        exact ⟨by rw [← HT.out, trm_stop HB.out hz.out]; rfl, _, rfl⟩
    · have hlt := lt_of_holds isB_zero hb
      have HB := Lib.hid hb
      clear hb
      have hsz : 1 ≤ (mk l').size := by rw [mk_size]; omega
      have HE : Hid ((mk l').extract 1 (mk l').size = mk (l'.drop 1)) := by
        rw [mk_extract, mk_size, List.take_length]; exact Lib.hid rfl
      go_wp2_with (first
        | (go_at_call 34; refine (byteAt_any l' 0 _ rfl _).mono ?_; rintro e w' ⟨rfl, rfl⟩)
        | (go_at_call 33; refine (says_blank HB.out _).mono ?_; rintro e w' ⟨rfl, rfl⟩))
      go_roundw
      case rel =>
        refine ⟨l'.drop 1, _, by rw [HE.out], ?_, by rw [List.length_drop]; omega, rfl⟩
        rw [← HT.out, trm_drop HB.out]
      case measure =>
        rw [HE.out]
        simp only [strLen, mk_size, List.length_drop]
        omega

set_option maxHeartbeats 1000000 in
theorem clone_any (l : List UInt8) (w : World) (hl : l.length ≤ 1099511627776) :
    Calls Tryd.prog 25 #[.string (mk l)] w fun e w' => e = .returned (.string (mk l)) ∧ Below w.heap.size w w' := by
  have hsz : (mk l).size ≤ 281474976710656 := by rw [mk_size]; omega
  go_enter Tryd.func25, Tryd.ntmps25
  go_wp2_with (go_at_call 40; refine (Tryd.stringslite_Clone (mk l) _ hsz).mono ?_; rintro e w' ⟨rfl, hb⟩)
  go_ret
  exact ⟨rfl, hb⟩

/-- What the program tells of the token that bytes begin with; its three ways lie in a block of its own. -/
def TokPost (l : List UInt8) (w : World) (e : Ending) (w' : World) : Prop :=
  e = .returned (.tuple #[.int .u8 (((tok l).1 : Nat) : Int), .int .i64 (((tok l).2 : Nat) : Int)]) ∧ Below w.heap.size w w'

/-- The three ways, as a value. -/
def waysV : Array Value := #[.func (.func 37) #[] #[], .func (.func 38) #[] #[], .func (.func 39) #[] #[]]
theorem info_ways : (Tryd.prog.info? 61).map (·.size) = some waysV.size := by kernel_rfl
theorem cell_alloc_at {w : World} {cs : Array Value} {t : TypeId} (j : Nat) : (w.alloc (.cells cs t)).cell? ⟨w.heap.size, j, none⟩ = cs[j]? := by
  rw [cell_of_row _ _ j cs t (0, 0)]
  show (w.heap.push _)[w.heap.size]? = _
  simp
theorem wpList_store_ways {w : World} {cs : Array Value} (h3 : cs.size = 3) {ops : Array Oper} {rest : List Oper} {op : Oper} {a : Act} {Q : Exit → Act → World → Prop} (hgd : op.guard = none) (x y : Operand) (ho : op.op = .store 61 x y)
    (hx : a.eval x = .pointer (some ⟨w.heap.size, 0, none⟩)) (hy : a.eval y = .agg waysV)
    (h : ∀ w1 : World, w1.rangeAt w.heap.size 0 waysV.toList → Below w.heap.size w w1 → wpList Tryd.prog ops Q rest (a.put op.dst undef) w1) : wpList Tryd.prog ops Q (op :: rest) a (w.alloc (.cells cs 61)) := by
  have ht : (w.alloc (.cells cs 61)).there w.heap.size 0 waysV.size := by
    intro j hj
    have hj3 : j < cs.size := by rw [h3]; exact hj
    refine ⟨?_, ?_⟩
    · rw [cell_alloc_at, Nat.zero_add, Array.getElem?_eq_getElem hj3]; rfl
    · simp only [World.frozen?, heap_alloc_new]; simp
  refine wpList_store_mid hgd _ x y ho _ 0 waysV hx hy ht info_ways (by simp [waysV, Value.oneCell']) (h _ (World.rangeAt_setCells_same _ _ _ _ ht) ?_)
  exact ((Below.refl _ w).alloc (Nat.le_refl _) _).trans (Go.Lib.below_setCells_w (Nat.le_refl _) _ _ _)
theorem wpList_load_ways {w : World} {g : Nat} (h : w.rangeAt g 0 waysV.toList) {ops : Array Oper} {rest : List Oper} {op : Oper} {a : Act} {Q : Exit → Act → World → Prop} (hgd : op.guard = none) (x : Operand) (ho : op.op = .load 61 x) (hx : a.eval x = .pointer (some ⟨g, 0, none⟩))
    (hk : wpList Tryd.prog ops Q rest (a.put op.dst (.agg waysV)) w) : wpList Tryd.prog ops Q (op :: rest) a w :=
  wpList_load_mid hgd _ x ho g 0 hx waysV.toList _ h Tryd.underlying61 rfl info_ways (by simpa using hk)

theorem ways_0 (w : World) : (Instr.index 61 (.agg waysV) (.int .i64 0)).run Tryd.prog w = .ok (.func (.func 37) #[] #[]) w := by
  simp [Instr.index, asIntOf, run_underlying Tryd.underlying61, waysV, go_sem]
theorem ways_1 (w : World) : (Instr.index 61 (.agg waysV) (.int .i64 1)).run Tryd.prog w = .ok (.func (.func 38) #[] #[]) w := by
  simp [Instr.index, asIntOf, run_underlying Tryd.underlying61, waysV, go_sem]
theorem ways_2 (w : World) : (Instr.index 61 (.agg waysV) (.int .i64 2)).run Tryd.prog w = .ok (.func (.func 39) #[] #[]) w := by
  simp [Instr.index, asIntOf, run_underlying Tryd.underlying61, waysV, go_sem]

set_option maxHeartbeats 2000000 in
theorem token_any (l : List UInt8) (w : World) (hT : Tab w) (hl : l.length ≤ 1099511627776) :
    Calls Tryd.prog 24 #[.string (mk l)] w (TokPost l w) := by
  have HN : Hid (tok l = if 0 < nameL l then (1, nameL l) else if 0 < numL l then (2, numL l) else if 0 < signL l then (3, signL l) else (0, 0)) := rfl
  go_enter Tryd.func24, Tryd.ntmps24
  go_wp2_with (first
    | (refine wpList_store_ways rfl rfl _ _ rfl rfl rfl ?_; intro w1 hr hb)
    | (refine wpList_load_ways hr rfl _ rfl rfl ?_))
  have hT1 := hT.below hb
  have HB := Lib.hid hb
  clear hb
  obtain ⟨A, hA⟩ : ∃ A, A = nameL l := ⟨_, rfl⟩
  obtain ⟨B, hB⟩ : ∃ B, B = numL l := ⟨_, rfl⟩
  obtain ⟨C, hC⟩ : ∃ C, C = signL l := ⟨_, rfl⟩
  rw [← hA, ← hB, ← hC] at HN
  have HA : Hid (∀ w, Calls Tryd.prog 37 #[.string (mk l)] w (Says (.int .i64 (A : Int)) w)) := Lib.hid fun w => by rw [hA]; exact name_any l w hl
  have HBB : Hid (∀ w, Calls Tryd.prog 38 #[.string (mk l)] w (Says (.int .i64 (B : Int)) w)) := Lib.hid fun w => by rw [hB]; exact number_any l w hl
  have HC : Hid (∀ w, Tab w → Calls Tryd.prog 39 #[.string (mk l)] w (Says (.int .i64 (C : Int)) w)) := Lib.hid fun w hT => by rw [hC]; exact sign_any l w hT
  clear hA hB hC
  go_loop [10] (fun i => (i = .int .i64 0) ∨ (i = .int .i64 1 ∧ A = 0) ∨ (i = .int .i64 2 ∧ A = 0 ∧ B = 0) ∨ (i = .int .i64 3 ∧ A = 0 ∧ B = 0 ∧ C = 0)) (fun i => 3 - (intOf i).toNat)
  case atStart => exact .inl rfl
  case round =>
    rcases hrel with rfl | ⟨rfl, h1⟩ | ⟨rfl, h1, h2⟩ | ⟨rfl, h1, h2, h3⟩
    · have hidx := ways_0 w1
      go_wp2_with (go_at_call 37; refine (HA.out _).mono ?_; rintro e w' ⟨rfl, rfl⟩)
      · go_ret2
        refine ⟨?_, HB.out⟩
        rw [HN.out]
        simp [*]
      · go_round
        case rel => simp; omega
        case measure => simp [intOf]
    · have hidx := ways_1 w1
      go_wp2_with (go_at_call 38; refine (HBB.out _).mono ?_; rintro e w' ⟨rfl, rfl⟩)
      · go_ret2
        refine ⟨?_, HB.out⟩
        rw [HN.out]
        simp [*]
      · go_round
        case rel => simp; omega
        case measure => simp [intOf]
    · have hidx := ways_2 w1
      go_wp2_with (go_at_call 39; refine (HC.out _ hT1).mono ?_; rintro e w' ⟨rfl, rfl⟩)
      · go_ret2
        refine ⟨?_, HB.out⟩
        rw [HN.out]
        simp [*]
      · go_round
        case rel => simp; omega
        case measure => simp [intOf]
    · go_wp2_with fail
      go_ret2
      refine ⟨?_, HB.out⟩
      rw [HN.out]
      simp [*]
end Go.Proofs.YtomcpgogiglpkaaDoor
