/-
  LAYER 2: the program's eight bytes, Seal.
-/
import Derived.Test.YtemekdoogocapaaDoorCastImplB
namespace Go.Proofs.YtemekdoogocapaaDoor
open Go.RowKit

/-- Block g shows these bytes, which may be written (a slice's row, or an array). -/
def TRow (w : World) (g : Nat) (l : List UInt8) : Prop := ∃ (T : TypeId) (cur : Array Value) (fr : Nat × Nat), w.heap[g]? = some (.cells cur T fr) ∧ l.length ≤ cur.size ∧ (l.length ≤ fr.1 ∨ fr.2 = 0) ∧ ∀ j (hj : j < l.length), cur[j]? = some (.int .u8 (l[j].toNat : Int))

theorem TRow.lt {w : World} {g : Nat} {l : List UInt8} (h : TRow w g l) : g < w.heap.size := by
  obtain ⟨T, cur, fr, h, _⟩ := h
  exact (Array.getElem?_eq_some_iff.1 h).1
theorem TRow.cell {w : World} {g : Nat} {l : List UInt8} (h : TRow w g l) {j : Nat} (hj : j < l.length) : w.cell? ⟨g, j, none⟩ = some (.int .u8 (l[j].toNat : Int)) := by
  obtain ⟨T, cur, fr, h, _, _, hc⟩ := h
  rw [cell_of_row w g j cur _ fr h]; exact hc j hj
theorem TRow.free {w : World} {g : Nat} {l : List UInt8} (h : TRow w g l) {j : Nat} (hj : j < l.length) : w.frozen? ⟨g, j, none⟩ = false := by
  obtain ⟨T, cur, ⟨lo, hi⟩, h, _, h2, _⟩ := h
  simp only at h2
  simp only [World.frozen?, h, Bool.and_eq_false_iff, decide_eq_false_iff_not]
  omega
theorem TRow.set_ {w : World} {g : Nat} {l : List UInt8} (h : TRow w g l) {j : Nat} (hj : j < l.length) (b : UInt8) : TRow (w.setCell ⟨g, j, none⟩ (.int .u8 (b.toNat : Int))) g (l.set j b) := by
  obtain ⟨T, cur, fr, h, h1, h2, hc⟩ := h
  refine ⟨T, cur.setIfInBounds j (.int .u8 (b.toNat : Int)), fr, ?_, by simpa using h1, by simpa using h2, fun i hi => ?_⟩
  · simp [World.setCell, Array.getElem?_modify, h]
  · have hi' : i < l.length := by simpa using hi
    rw [Array.getElem?_setIfInBounds, List.getElem_set]
    by_cases e : j = i
    · subst e
      simp; omega
    · rw [if_neg e, if_neg e]; exact hc i hi'
theorem TRow.text {w : World} {g c : Nat} {l : List UInt8} (h : TRow w g l) : (convert 33 9 (.slice (some ⟨g, 0, none⟩) l.length c)).run Tryd.prog w = .ok (.string (mk l)) w := by
  refine run_convert_bytes_back w 33 9 5 ⟨g, 0, none⟩ c l Tryd.underlying33 Tryd.underlying5 Tryd.underlying9 ?_
  intro j hj
  rw [show (⟨g, 0, none⟩ : Addr).add j = ⟨g, j, none⟩ from by unfold Addr.add; split <;> simp_all]
  exact h.cell hj
/-- The eight bytes 0 that an array begins with. -/
theorem TRow.zeros (w : World) (T : TypeId) : TRow (w.alloc (.cells #[.int .u8 0, .int .u8 0, .int .u8 0, .int .u8 0, .int .u8 0, .int .u8 0, .int .u8 0, .int .u8 0] T)) w.heap.size (List.replicate 8 0) := by
  refine ⟨T, _, _, heap_alloc_new w _, by simp, .inr rfl, fun j hj => ?_⟩
  have h : j = 0 ∨ j = 1 ∨ j = 2 ∨ j = 3 ∨ j = 4 ∨ j = 5 ∨ j = 6 ∨ j = 7 := by simp at hj; omega
  rcases h with rfl | rfl | rfl | rfl | rfl | rfl | rfl | rfl <;> rfl

def BytesRel (n g B : Nat) (w : World) (i : Value) (wr : World) : Prop := ∃ k : Nat, k ≤ 8 ∧ i = .int .i64 (k : Int) ∧ TRow wr g (List.replicate (8 - k) 0 ++ digs k n) ∧ Below B w wr

theorem set_mid (k : Nat) (hk : k < 8) (b : UInt8) (t : List UInt8) : (List.replicate (8 - k) 0 ++ t).set (7 - k) b = List.replicate (8 - (k + 1)) 0 ++ b :: t := by
  have h : k = 0 ∨ k = 1 ∨ k = 2 ∨ k = 3 ∨ k = 4 ∨ k = 5 ∨ k = 6 ∨ k = 7 := by omega
  rcases h with rfl | rfl | rfl | rfl | rfl | rfl | rfl | rfl <;> rfl

set_option maxHeartbeats 1000000 in
theorem bytesOf_any (n : Nat) (w : World) (h64 : n < 2 ^ 64) :
    Calls Tryd.prog 23 #[.int .u64 (n : Int)] w fun e w' => e = .returned (.string (mk (digs 8 n))) ∧ Below w.heap.size w w' := by
  have hn : (n : Int) < 18446744073709551616 := by omega
  clear h64
  go_enter Tryd.func23, Tryd.ntmps23
  go_wp2_with fail
  have HZ : TRow (w.alloc (.cells #[.int .u8 0, .int .u8 0, .int .u8 0, .int .u8 0, .int .u8 0, .int .u8 0, .int .u8 0, .int .u8 0] 47)) w.heap.size (List.replicate 8 0) := TRow.zeros w _
  obtain ⟨g, hg⟩ : ∃ g, g = w.heap.size := ⟨_, rfl⟩
  have hgw : w.heap.size ≤ g := by omega
  rw [← hg] at HZ ⊢
  clear hg
  go_loopw [5] (fun i wr => BytesRel n g w.heap.size w i wr) (fun i _ => 8 - (intOf i).toNat)
  case atStart => exact ⟨0, by omega, rfl, by rw [show digs 0 n = [] from rfl, List.append_nil]; exact HZ, (Below.refl _ _).alloc (Nat.le_refl _) _⟩
  case round =>
    obtain ⟨k, hk, rfl, hr, hbel⟩ := hrel
    have hbs := hbel.size
    have hk0 : (0 : Int) ≤ (k : Int) := by omega
    by_cases hlt : k < 8
    · have hkI : (k : Int) < 8 := by omega
      have hlen : (List.replicate (8 - k) (0 : UInt8) ++ digs k n).length = 8 := by rw [List.length_append, List.length_replicate, digs_length]; omega
      have hj : 7 - k < (List.replicate (8 - k) (0 : UInt8) ++ digs k n).length := by omega
      have hc := hr.cell hj
      have hf := hr.free hj
      have HS := Lib.hid (hr.set_ hj (byt (n / 256 ^ k % 256)))
      rw [set_mid k hlt, ← digs_head] at HS
      have HB : Hid (((byt (n / 256 ^ k % 256)).toNat : Int) = (n : Int) / 2 ^ (8 * k) % 256) := Lib.hid (by
        rw [byt_toNat, Nat.mod_mod, pow256]; simp)
      go_wp2_with fail
      rw [← HB.out]
      go_roundw
      case rel => exact ⟨k + 1, by omega, by go_num, HS.out, hbel.setCell (p := ⟨g, 7 - k, none⟩) hgw _⟩
      case measure => simp [intOf]; omega
    · obtain rfl : k = 8 := by omega
      have hcv := hr.text (c := 8)
      rw [show List.replicate (8 - 8) (0 : UInt8) ++ digs 8 n = digs 8 n from rfl, digs_length] at hcv
      have hg0 := hr.lt
      go_wp2_with fail
      go_ret
      exact ⟨rfl, hbel⟩

theorem seal_any (l : List UInt8) (w : World) (hT : Tab w) (hl : l.length ≤ 4294967296) :
    Calls Tryd.prog 17 #[.string (mk l)] w fun e w' => e = .returned (.string (mk (cseal l))) ∧ Below w.heap.size w w' := by
  have hlt := crest_lt l
  have h64 : crest l < 2 ^ 64 := by rw [PR_eq] at hlt; omega
  have HE := Lib.hid (show mk l ++ mk (digs 8 (crest l)) = mk (cseal l) by rw [mk_append]; rfl)
  have hadd : (mk l).size + (mk (digs 8 (crest l))).size ≤ 9223372036854775807 := by rw [mk_size, mk_size, digs_length]; omega
  have H := Lib.hid ((rest_any l w hT hl).mono fun _ _ h => h.num)
  clear hlt hT
  go_enter Tryd.func17, Tryd.ntmps17
  go_wp2_with fail
  refine H.out.mono ?_
  rintro e w1 ⟨z, hz, rfl, b1⟩
  unfold Res at hz
  subst hz
  go_wp2_with fail
  refine (bytesOf_any _ _ h64).mono ?_
  rintro e w2 ⟨rfl, b2⟩
  go_wp2_with fail
  go_ret
  exact ⟨by rw [← HE.out]; rfl, b1.trans (b2.mono b1.size)⟩
end Go.Proofs.YtemekdoogocapaaDoor
