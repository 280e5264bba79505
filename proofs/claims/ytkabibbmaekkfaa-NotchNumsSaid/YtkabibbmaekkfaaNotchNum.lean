/-
  LAYER 1: the program's Num and Text: the document's bytes, of whatever numbers.
-/
import Derived.Test.YtkabibbmaekkfaaNotchApp
namespace Go.Proofs.Ytkabibbmaekkfaa
open Go.RowKit

/-- Row of numbers in memory, as an argument slice shows them. -/
def NumCells (w : World) (b off : Nat) (L : List Nat) : Prop := ∀ i, i < L.length → w.cell? ⟨b, off + i, none⟩ = some (.int .u64 ((L.getD i 0 : Nat) : Int))

set_option maxHeartbeats 1000000 in
theorem num_any (b off cap : Nat) (L : List Nat) (w : World) (hL : L.length ≤ 4294967296) (h64 : ∀ n ∈ L, n < 2 ^ 64) (hb : b < w.heap.size) (hc : NumCells w b off L) :
    Calls Try.prog 13 #[.slice (some ⟨b, off, none⟩) L.length cap] w fun e w' => e = .returned (.string (mk (numsB L))) ∧ Below w.heap.size w w' := by
  unfold NumCells at hc
  have HC := Lib.hid hc
  clear hc
  have H64 := Lib.hid h64
  clear h64
  go_enter Try.func13, Try.ntmps13
  go_wp2
  go_loopw [3, 8] (fun v i wr => ∃ k : Nat, k ≤ L.length ∧ i = .int .i64 (k : Int) ∧ Below w.heap.size w wr ∧ ByteRow w.heap.size wr v (numsB (L.take k))) (fun _ i _ => L.length - (intOf i).toNat)
  case atStart => exact ⟨0, Nat.zero_le _, rfl, Below.refl _ _, by simp [ByteRow, numsB, Lib.byteCells]; exact World.ownsRow_nil _ _ _ _⟩
  case round =>
    obtain ⟨k, hk, rfl, hbel, hr⟩ := hrel
    have hbs := hbel.size
    by_cases hlt : k < L.length
    · have hcell : wr.cell? ⟨b, off + k, none⟩ = some (.int .u64 ((L.getD k 0 : Nat) : Int)) := (hbel.cell (p := ⟨b, off + k, none⟩) hb).trans (HC.out k hlt)
      obtain ⟨n, hn⟩ : ∃ n, n = L.getD k 0 := ⟨_, rfl⟩
      rw [← hn] at hcell
      have hn64 : n < 2 ^ 64 := by rw [hn, List.getD_eq_getElem?_getD, List.getElem?_eq_getElem hlt]; exact H64.out _ (List.getElem_mem _)
      have hsn : numsB (L.take (k + 1)) = numsB (L.take k) ++ numB n := by
        rw [List.take_succ_eq_append_getElem hlt, numsB_snoc, hn, List.getD_eq_getElem?_getD, List.getElem?_eq_getElem hlt]; rfl
      have HS := Lib.hid hsn
      clear hsn hn
      have hle := numsB_length_le (L.take k)
      have hlt2 : (L.take k).length ≤ k := List.length_take_le _ _
      go_wp2_with (go_at_call 27; refine (appendNum_any w.heap.size n u3 (numsB (L.take k)) _ hn64 hr (by omega) (by omega)).mono ?_; rintro e w1 ⟨v1, rfl, hr1, hb1⟩)
      go_roundw
      case rel => exact ⟨k + 1, by omega, by go_num, hbel.trans hb1, by rw [HS.out]; exact hr1⟩
      case measure => simp [intOf]; omega
    · have hcv := conv_row hr
      go_wp2
      go_ret
      exact ⟨by rw [List.take_of_length_le (by omega)]; rfl, hbel⟩

set_option maxHeartbeats 400000 in
/-- Of no numbers: a slice that is nil. -/
theorem num_nil (a : Option Addr) (cap : Nat) (w : World) :
    Calls Try.prog 13 #[.slice a 0 cap] w fun e w' => e = .returned (.string (mk [])) ∧ w = w' := by
  have hcv := conv_row (B := 0) (w := w) (v := .slice none 0 0) (l := []) (World.ownsRow_nil _ _ _ _)
  go_enter Try.func13, Try.ntmps13
  go_wp2
  refine wp_loop_rounds 1 ?_
  rw [rounds_succ]
  go_wp2
  go_ret
  exact ⟨rfl, rfl⟩

theorem mk_append (a b : List UInt8) : mk a ++ mk b = mk (a ++ b) := by
  apply ByteArray.ext
  simp [mk]

set_option maxHeartbeats 400000 in
theorem text_any (s : ByteArray) (w : World) (hs : s.size ≤ 140737488351232) :
    Calls Try.prog 15 #[.string s] w fun e w' => e = .returned (.string (mk (textB s.data.toList))) ∧ Below w.heap.size w w' := by
  obtain ⟨l, rfl⟩ : ∃ l, s = mk l := ⟨s.data.toList, (mk_of s).symm⟩
  rw [mk_toList]
  have HE := Lib.hid (show mk (numsB [l.length]) ++ mk l = mk (textB l) by rw [mk_append]; simp [numsB, textB])
  have HS := Lib.hid (mk_size l)
  have hs' : l.length ≤ 140737488351232 := by rw [mk_size] at hs; exact hs
  go_enter Try.func15, Try.ntmps15
  go_wp2_with fail
  refine (num_any w.heap.size 0 1 [(mk l).size] _ (by simp) ?ca (by simp) ?cb).mono ?_
  case ca => intro n hn; simp at hn; subst hn; rw [mk_size]; omega
  case cb =>
    intro i hi
    have hi0 : i = 0 := by simpa using hi
    subst hi0
    rw [World.cell?_alloc_at _ _ _ _ rfl]; rfl
  rintro e w1 ⟨rfl, hb⟩
  rw [HS.out]
  have hadd : (mk (numsB [l.length])).size + (mk l).size ≤ 9223372036854775807 := by
    have h1 := numsB_length_le [l.length]
    rw [List.length_singleton] at h1
    rw [mk_size, mk_size]; omega
  go_wp2
  go_ret
  exact ⟨by rw [← HE.out]; rfl, (((Below.refl _ _).alloc (Nat.le_refl _) _).trans (hb.mono (by simp)))⟩
end Go.Proofs.Ytkabibbmaekkfaa
