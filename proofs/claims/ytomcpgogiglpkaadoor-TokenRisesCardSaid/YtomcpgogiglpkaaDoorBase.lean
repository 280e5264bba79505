/-
  STRINGS AS LISTS OF BYTES: what the walks of every layer share.
-/
import Derived.Test.YtomcpgogiglpkaaDoorRows
import Derived.Test.YtomcpgogiglpkaaDoorNotchMath
import Derived.WalkKit
import Derived.WalkSpells
import Derived.WalkLawsBesides
import Derived.Lib.UnsafeStr
import Derived.Lib.Hide
import Derived.Lib.BufferRead
namespace Go.Proofs.YtomcpgogiglpkaaDoor
open Go.RowKit

/-- A string of bytes. -/
def mk (l : List UInt8) : ByteArray := ⟨l.toArray⟩
theorem mk_toList (l : List UInt8) : (mk l).data.toList = l := by simp [mk]
theorem mk_toL (l : List UInt8) : (mk l).toList = l := ByteArray.toList_mk l
theorem mk_of (s : ByteArray) : mk s.data.toList = s := by simp [mk]
theorem mk_size (l : List UInt8) : (mk l).size = l.length := by simp [mk, ByteArray.size]
theorem mk_append (a b : List UInt8) : mk a ++ mk b = mk (a ++ b) := by
  apply ByteArray.ext
  simp [mk]
theorem mk_extract (l : List UInt8) (a b : Nat) : (mk l).extract a b = mk ((l.take b).drop a) := by
  apply ByteArray.ext
  simp [mk, ByteArray.data_extract, List.drop_take]
theorem mk_eq (a b : List UInt8) : ((mk a).toList == (mk b).toList) = (a == b) := by rw [mk_toL, mk_toL]

/-- A row of one byte, made a text. -/
theorem conv_one (w : World) (g : Nat) (hg : w.heap.size = g) (n : Nat) (hn : n < 256) :
    (convert 37 9 (.slice (some ⟨g, 0, none⟩) 1 1)).run Tryd.prog (w.alloc (.cells #[.int .u8 (n : Int)] 5)) = .ok (.string (mk [byt n])) (w.alloc (.cells #[.int .u8 (n : Int)] 5)) := by
  subst hg
  refine run_convert_bytes_back _ 37 9 5 ⟨w.heap.size, 0, none⟩ 1 [byt n] Tryd.underlying37 Tryd.underlying5 Tryd.underlying9 ?_
  intro j hj
  have hj0 : j = 0 := by simpa using hj
  subst hj0
  rw [show (⟨w.heap.size, 0, none⟩ : Addr).add 0 = ⟨w.heap.size, 0, none⟩ from rfl, World.cell?_alloc_at _ _ _ _ rfl]
  simp [byt_toNat, Nat.mod_eq_of_lt hn]

theorem info_u8 : (Tryd.prog.info? 5).map (fun i => (i.zero, i.size, i.bytes)) = some (some (.int .u8 0), 1, 1) := by kernel_rfl

/-- A row of bytes of the call's own, from block B on. -/
def ByteRow (B : Nat) (w : World) (v : Value) (l : List UInt8) : Prop := w.ownsRow B 5 1 v l.length (Lib.byteCells l)

theorem conv_row {B : Nat} {w : World} {v : Value} {l : List UInt8} (h : ByteRow B w v l) :
    (convert 37 9 v).run Tryd.prog w = .ok (.string (mk l)) w := by
  rcases h.2 with ⟨rfl, hl⟩ | ⟨g, cap, cur, rfl, _, hg, _, _, _, htk⟩
  · have : l = [] := List.eq_nil_of_length_eq_zero hl
    subst this
    exact Lib.run_convert_nil_bytes w 37 9 5 0 Tryd.underlying37 Tryd.underlying5 Tryd.underlying9
  · refine run_convert_bytes_back w 37 9 5 ⟨g, 0, none⟩ cap l Tryd.underlying37 Tryd.underlying5 Tryd.underlying9 ?_
    intro j hj
    have hc := cell_of_row w g j cur 5 (0, 0) hg
    have e : (⟨g, 0, none⟩ : Addr).add j = ⟨g, j, none⟩ := by unfold Addr.add; split <;> simp_all
    rw [e, hc]
    have h1 : (cur.toList.take (l.length * 1))[j]? = some (.int .u8 (l[j].toNat : Int)) := by
      rw [htk]; simp [Lib.byteCells, hj]
    rw [List.getElem?_take] at h1
    split at h1
    · simpa using h1
    · cases h1

/-- What 'make([]byte, n)' lays. -/
theorem made_row {w : World} {B n : Nat} {v : Value} (h : w.ownsRow B 5 1 v n (madeCells (Value.int .u8 0).cells (n * 1)).toList) : ByteRow B w v (List.replicate n 0) := by
  have e : (madeCells (Value.int .u8 0).cells (n * 1)).toList = Lib.byteCells (List.replicate n 0) := by
    rw [show (Value.int .u8 0).cells = #[.int .u8 0] from rfl]
    apply List.ext_getElem
    · simp [madeCells, Lib.byteCells]
    · intro i h1 h2
      simp [madeCells, Lib.byteCells, Nat.mod_one]
  unfold ByteRow
  rw [List.length_replicate, ← e]; exact h
end Go.Proofs.YtomcpgogiglpkaaDoor
