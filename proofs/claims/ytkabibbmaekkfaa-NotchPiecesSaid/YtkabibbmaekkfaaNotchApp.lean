/-
  LAYER 1: the program's appendNum: behind a row of bytes of the call's own stand the number's bytes.
-/
import Derived.Test.YtkabibbmaekkfaaNotchPut
import Derived.Lib.BufferRead
namespace Go.Proofs.Ytkabibbmaekkfaa
open Go.RowKit

theorem info_u8 : (Try.prog.info? 5).map (fun i => (i.zero, i.size, i.bytes)) = some (some (.int .u8 0), 1, 1) := by kernel_rfl

/-- A row of bytes of the call's own, from block B on. -/
def ByteRow (B : Nat) (w : World) (v : Value) (l : List UInt8) : Prop := w.ownsRow B 5 1 v l.length (Lib.byteCells l)

theorem cells_snoc (l : List UInt8) (n : Nat) : Lib.byteCells l ++ [Value.int .u8 ((n % 256 : Nat) : Int)] = Lib.byteCells (l ++ [byt n]) := by
  simp [Lib.byteCells, byt_toNat]

theorem shr_digit (n i : Nat) : n / 2 ^ (8 * i) = n / 256 ^ i := by rw [Nat.pow_mul]

set_option maxHeartbeats 1000000 in
theorem appendNum_any (B n : Nat) (v : Value) (l : List UInt8) (w : World) (hn : n < 2 ^ 64) (hr : ByteRow B w v l) (hl : l.length ≤ 1099511627776) (hB : B ≤ w.heap.size) :
    Calls Try.prog 27 #[v, .int .u64 (n : Int)] w fun e w' => ∃ v', e = .returned v' ∧ ByteRow B w' v' (l ++ numB n) ∧ Below B w w' := by
  have hw8 := wid_le n
  obtain ⟨i0, hi, hz0, hz1, hz2⟩ := info_parts info_u8
  unfold ByteRow at hr
  go_enter Try.func27, Try.ntmps27
  go_wp2_with (first
    | (go_at_call 26; refine (width_any n _ hn).mono ?_; rintro e w' ⟨rfl, rfl⟩)
    | (at_builtin
       refine wpList_append_own _ rfl (.tmp 9) (.tmp 12) 53 rfl B 5 i0 _ 1 1 Try.underlying53 hi hz0 hz1 hz2 rfl (by omega) v l.length _ rfl (hr.alloc _) ⟨w.heap.size, 0, none⟩ 1 1 [.int .u8 (wid n : Nat)] rfl rfl ?c1 ?c2 ?c3 ?c4 ?c5 ?_
       case c1 => exact (cell_one_new _ _ _)
       case c2 => intro u hu; simp at hu; subst hu; rfl
       case c3 => unfold maxLen; omega
       case c4 => omega
       case c5 => simp; omega
       intro v1 w1 hown1 hg1 _
       have hb1 : Below B w w1 := ((Below.refl _ _).alloc hB _).grown hg1 (by simp; omega) (fun k hk => (hr.lt k hk).1)))
  have hr1 : ByteRow B w1 v1 (l ++ [byt (wid n)]) := by
    have e : Lib.byteCells l ++ [Value.int .u8 (wid n : Nat)] = Lib.byteCells (l ++ [byt (wid n)]) := by
      rw [← cells_snoc, Nat.mod_eq_of_lt (by omega)]
    unfold ByteRow; rw [List.length_append, ← e]; exact hown1
  clear hown1 hg1 hr
  go_loopw [0, 6] (fun v2 i wr => ∃ k : Nat, k ≤ wid n ∧ i = .int .i64 ((k : Int) - 1) ∧ Below B w wr ∧ ∃ m : List UInt8, m ++ digs k n = l ++ numB n ∧ ByteRow B wr v2 m) (fun _ i _ => (intOf i + 1).toNat)
  case atStart => exact ⟨wid n, Nat.le_refl _, rfl, hb1, l ++ [byt (wid n)], by simp [numB], hr1⟩
  case round =>
    obtain ⟨k, hk, rfl, hb, m, hm, hrm⟩ := hrel
    have HM := Lib.hid hm
    clear hm
    rcases k with _ | k
    · have e : m = l ++ numB n := by simpa [digs] using HM.out
      go_wp2
      go_ret
      exact ⟨_, rfl, by rw [← e]; exact hrm, hb⟩
    · have hlen : m.length ≤ 1099511627800 := by
        have := congrArg List.length HM.out
        rw [List.length_append, List.length_append, numB_length, digs_length] at this
        omega
      have hcell : Lib.byteCells m ++ [Value.int .u8 ((n : Int) / 2 ^ (8 * k) % 256)] = Lib.byteCells (m ++ [byt (n / 256 ^ k % 256)]) := by
        rw [← cells_snoc, ← shr_digit, Nat.mod_mod]
        simp
      have HC := Lib.hid hcell
      clear hcell
      have hnext : (m ++ [byt (n / 256 ^ k % 256)]) ++ digs k n = l ++ numB n := by
        rw [← HM.out, digs_head]; simp
      have HN := Lib.hid hnext
      clear hnext
      unfold ByteRow at hrm
      have hbs := hb.size
      go_wp2_with (
        (at_builtin
         refine wpList_append_own _ rfl (.tmp 20) (.tmp 26) 53 rfl B 5 i0 _ 1 1 Try.underlying53 hi hz0 hz1 hz2 rfl (by omega) u0 m.length _ rfl (hrm.alloc _) ⟨wr.heap.size, 0, none⟩ 1 1 [.int .u8 ((n : Int) / 2 ^ (8 * k) % 256)] rfl rfl ?d1 ?d2 ?d3 ?d4 ?d5 ?_
         case d1 => exact (cell_one_new _ _ _)
         case d2 => intro u hu; simp at hu; subst hu; rfl
         case d3 => unfold maxLen; omega
         case d4 => omega
         case d5 => simp; omega
         intro v3 w3 hown3 hg3 _
         have hb3 : Below B w w3 := (hb.alloc (by omega) _).grown hg3 (by simp; omega) (fun k hk => (hrm.lt k hk).1)))
      go_roundw
      case rel => exact ⟨k, by omega, by go_num, hb3, _, HN.out, by unfold ByteRow; rw [List.length_append, ← HC.out]; exact hown3⟩
      case measure => simp [intOf]

/-- A string of bytes. -/
def mk (l : List UInt8) : ByteArray := ⟨l.toArray⟩
theorem mk_toList (l : List UInt8) : (mk l).data.toList = l := by simp [mk]
theorem mk_of (s : ByteArray) : mk s.data.toList = s := by simp [mk]
theorem mk_size (l : List UInt8) : (mk l).size = l.length := by simp [mk, ByteArray.size]
theorem mk_inj {a b : List UInt8} (h : mk a = mk b) : a = b := by
  have := congrArg (fun s => s.data.toList) h
  simpa [mk_toList] using this

theorem conv_row {B : Nat} {w : World} {v : Value} {l : List UInt8} (h : ByteRow B w v l) :
    (convert 53 9 v).run Try.prog w = .ok (.string (mk l)) w := by
  rcases h.2 with ⟨rfl, hl⟩ | ⟨g, cap, cur, rfl, _, hg, _, _, _, htk⟩
  · have : l = [] := List.eq_nil_of_length_eq_zero hl
    subst this
    exact Lib.run_convert_nil_bytes w 53 9 5 0 Try.underlying53 Try.underlying5 Try.underlying9
  · refine run_convert_bytes_back w 53 9 5 ⟨g, 0, none⟩ cap l Try.underlying53 Try.underlying5 Try.underlying9 ?_
    intro j hj
    have hc := cell_of_row w g j cur 5 (0, 0) hg
    have e : (⟨g, 0, none⟩ : Addr).add j = ⟨g, j, none⟩ := by unfold Addr.add; split <;> simp_all
    rw [e, hc]
    have h1 : (cur.toList.take (l.length * 1))[j]? = some (.int .u8 (l[j].toNat : Int)) := by
      rw [htk]; simp [Lib.byteCells, hj]
    rw [List.getElem?_take] at h1
    split at h1
    · simpa using h1
    · cases h1
end Go.Proofs.Ytkabibbmaekkfaa
