/-
  The texts TapMap, TapOf, TapText, TapMk, one behind the other.
-/
import Derived.Test.YtofpcdjoljjnoaaGreatDoorTapY15
import Derived.Maps.OwnOps
import Derived.Maps.OwnIn
import Derived.DeepKeys4
import Derived.ChangeMaps5
import Derived.Test.YtofpcdjoljjnoaaGreatDoorTapY14
import Derived.Maps.AppendAt

namespace Go.Proofs.YtofpcdjoljjnoaaGreatDoor
open Go.RowKit Go.Maps

/-- A key: what a step is. -/
structure Ky where
  op : Nat
  a : Int
  b : Int
  t : List UInt8
  deriving DecidableEq
def kyV (k : Ky) : Value := .agg #[.int .u8 (k.op : Int), .int .i64 k.a, .int .i64 k.b, .string (mk k.t)]
def KyOK (k : Ky) : Prop := k.op < 256 ∧ I64 k.a ∧ I64 k.b ∧ k.t.length ≤ 1048576

set_option maxRecDepth 100000
theorem laidOutK : laidOutB Tryz.prog = true := by kernel_rfl
theorem typesK : 2 ≤ Tryz.prog.types.size := of_decide_eq_true (by kernel_rfl)
theorem deepK : Tryz.prog.keyTypeAt 3 111 = true := by kernel_rfl
theorem deepK2 : Tryz.prog.keyType 111 = true := by kernel_rfl
theorem rowK : 111 < Tryz.prog.types.size := of_decide_eq_true (by kernel_rfl)
theorem wideK : (match Tryz.prog.underlying 111 with | some (.array _ _) | some (.struct _) => true | _ => false) = true := by kernel_rfl
theorem lawK : Go.WideMaps.KeyLaw Tryz.prog 111 := deep_law_laid laidOutK (m := 3) (by omega) rowK deepK wideK
theorem keyedK : Keyed Tryz.prog 111 := Keyed.of_law lawK
theorem cellsK : Tryz.prog.cellsOf 111 = 4 := by kernel_rfl
theorem cellsU : Tryz.prog.cellsOf 5 = 1 := by kernel_rfl
theorem cellsI : Tryz.prog.cellsOf 3 = 1 := by kernel_rfl
theorem cellsS : Tryz.prog.cellsOf 9 = 1 := by kernel_rfl

theorem keyOf_four {P : Program} {k a b c : TypeId} {f0 f1 f2 f3 : Field} {fs : Array Field} (hk : P.underlying k = some (.struct fs)) (hfs : fs.toList = [f0, f1, f2, f3]) (h0 : f0.type = a) (h1 : f1.type = b) (h2 : f2.type = b) (h3 : f3.type = c)
    (o0 : f0.offset = 0) (o1 : f1.offset = 1) (o2 : f2.offset = 2) (o3 : f3.offset = 3) (n0 : (f0.name != "_") = true) (n1 : (f1.name != "_") = true) (n2 : (f2.name != "_") = true) (n3 : (f3.name != "_") = true)
    (ha : P.underlying a = some (.int .u8)) (hb : P.underlying b = some (.int .i64)) (hc : P.underlying c = some .string) (ck : P.cellsOf k = 4) (ca : P.cellsOf a = 1) (cb : P.cellsOf b = 1) (cc : P.cellsOf c = 1) (hkt : P.keyType k = true) (hn : 2 ≤ P.types.size)
    {x : Ky} (hx : KyOK x) : ∃ l, keyOf P k (kyV x) = some l := by
  obtain ⟨n, hn⟩ : ∃ n, P.types.size = n + 2 := ⟨P.types.size - 2, by omega⟩
  obtain ⟨hop, ⟨a1, a2⟩, ⟨b1, b2⟩, ht⟩ := hx
  have w0 : (Lit.int .u8 (x.op : Int)).wf = true := by
    simp [Lit.wf, IntKind.min, IntKind.max, IntKind.signed, IntKind.bits]; omega
  have w1 : (Lit.int .i64 x.a).wf = true := by
    simp [Lit.wf, IntKind.min, IntKind.max, IntKind.signed, IntKind.bits]; omega
  have w2 : (Lit.int .i64 x.b).wf = true := by
    simp [Lit.wf, IntKind.min, IntKind.max, IntKind.signed, IntKind.bits]; omega
  have w3 : (mk x.t).size ≤ maxLen := by rw [mk_size]; unfold maxLen; omega
  have hall : fs.all (fun f => f.name != "_") = true := by
    rw [← Array.all_toList, hfs]; simp only [List.all_cons, List.all_nil, n0, n1, n2, n3, Bool.and_self]
  unfold keyOf
  rw [hk]
  have e0 : Value.formed P k (kyV x) = true := by simp [kyV, Value.formed, hk, ck]
  have e1 : P.keyLits (n + 2) a [.int .u8 (x.op : Int)] = some [.int .u8 (x.op : Int)] := by simp [Program.keyLits, ha, w0]
  have e2 : P.keyLits (n + 2) b [.int .i64 x.a] = some [.int .i64 x.a] := by simp [Program.keyLits, hb, w1]
  have e3 : P.keyLits (n + 2) b [.int .i64 x.b] = some [.int .i64 x.b] := by simp [Program.keyLits, hb, w2]
  have e4 : P.keyLits (n + 2) c [.string (mk x.t)] = some [.string (mk x.t).data.toList] := by simp [Program.keyLits, hc, w3]
  have e5 : P.keyLits (n + 2 + 1) k [.int .u8 (x.op : Int), .int .i64 x.a, .int .i64 x.b, .string (mk x.t)] = some [.int .u8 (x.op : Int), .int .i64 x.a, .int .i64 x.b, .string (mk x.t).data.toList] := by
    unfold Program.keyLits
    simp only [hk]
    simp [ck, hall, hfs, h0, h1, h2, h3, o0, o1, o2, o3, ca, cb, cc, e1, e2, e3, e4]
  rw [hn]
  unfold kyV at e0 ⊢
  simp [hkt, e0, Value.cells, e5]
theorem key_reads {x : Ky} (hx : KyOK x) : ∃ l, keyOf Tryz.prog 111 (kyV x) = some l :=
  keyOf_four Tryz.underlying111 rfl rfl rfl rfl rfl rfl rfl rfl rfl (by decide) (by decide) (by decide) (by decide) Tryz.underlying5 Tryz.underlying3 Tryz.underlying9 cellsK cellsU cellsI cellsS deepK2 typesK hx
theorem zeroI (w : World) : (zeroValue 3).run Tryz.prog w = .ok (.int .i64 0) w := by kernel_rfl
theorem kyV_inj {x y : Ky} (h : kyV x = kyV y) : x = y := by
  unfold kyV at h
  obtain ⟨op, a, b, t⟩ := x
  obtain ⟨op', a', b', t'⟩ := y
  simp only [Value.agg.injEq, Array.mk.injEq, List.cons.injEq, Value.int.injEq, true_and, Value.string.injEq, and_true] at h
  obtain ⟨h1, h2, h3, h4⟩ := h
  have h5 : t = t' := by
    have := congrArg ByteArray.toList h4
    rwa [mk_toL, mk_toL] at this
  have h6 : op = op' := by omega
  rw [h6, h2, h3, h5]

/-- A map's block: the keys of a row of steps, each with its place. -/
def MapIn (w : World) (b : Nat) (L : List Ky) : Prop :=
  ∃ es clock, w.heap[b]? = some (.map es clock) ∧ es.toList.map (fun e => (e.key, e.val)) = L.zipIdx.map (fun x => (kyV x.1, .int .i64 ((x.2 : Nat) : Int))) ∧ ∀ x ∈ L, KyOK x
theorem MapIn.made (w : World) : MapIn (w.alloc (.map #[] 0)) w.heap.size [] := ⟨#[], 0, World.alloc_heap_new w _, rfl, by simp⟩
theorem MapIn.lt {w : World} {b : Nat} {L : List Ky} (h : MapIn w b L) : b < w.heap.size := by
  obtain ⟨es, clock, hb, _⟩ := h
  exact (Array.getElem?_eq_some_iff.1 hb).1
theorem MapIn.of_block {w w' : World} {b : Nat} {L : List Ky} (h : MapIn w b L) (e : w'.heap[b]? = w.heap[b]?) : MapIn w' b L := by
  obtain ⟨es, clock, hb, h2⟩ := h
  exact ⟨es, clock, e.trans hb, h2⟩
theorem MapIn.keys {es : Array MapEntry} {L : List Ky} (h : es.toList.map (fun e => (e.key, e.val)) = L.zipIdx.map (fun x => (kyV x.1, .int .i64 ((x.2 : Nat) : Int)))) (hs : ∀ x ∈ L, KyOK x) :
    ∀ e ∈ es.toList, ∃ l, keyOf Tryz.prog 111 e.key = some l := by
  intro e he
  have : (e.key, e.val) ∈ L.zipIdx.map (fun x => (kyV x.1, Value.int .i64 ((x.2 : Nat) : Int))) := by rw [← h]; exact List.mem_map.2 ⟨e, he, rfl⟩
  obtain ⟨x, hx, hxe⟩ := List.mem_map.1 this
  have e9 := congrArg Prod.fst hxe
  dsimp only at e9
  rw [← e9]
  exact key_reads (hs x.1 (List.fst_mem_of_mem_zipIdx hx))

/-- Where a key is. -/
def kyAt (L : List Ky) (k : Ky) : Option Nat := L.findIdx? (· == k)

/-- What is found. -/
theorem MapIn.look {w : World} {b : Nat} {L : List Ky} (h : MapIn w b L) (hd : L.Nodup) {k : Ky} (hk : KyOK k) :
    (Instr.lookup 84 (.map (some b)) (kyV k) true).run Tryz.prog w = .ok (match kyAt L k with | some i => .tuple #[.int .i64 ((i : Nat) : Int), .bool true] | none => .tuple #[.int .i64 0, .bool false]) w := by
  obtain ⟨es, clock, hb, hL, hs⟩ := h
  obtain ⟨l, hkey⟩ := key_reads hk
  have hz := zeroI w
  rcases keyedK.find w hkey es.toList (MapIn.keys hL hs) with ⟨h1, h2⟩ | ⟨j, e0, h1, h2, h3⟩
  · have hf : kyAt L k = none := by
      unfold kyAt
      rw [List.findIdx?_eq_none_iff]
      intro x hx
      obtain ⟨i, hi⟩ := List.mem_iff_getElem?.1 hx
      have hm : (x, i) ∈ L.zipIdx := by
        rw [List.mem_iff_getElem?]
        exact ⟨i, by simp [List.getElem?_zipIdx, hi]⟩
      have : (kyV x, Value.int .i64 ((i : Nat) : Int)) ∈ es.toList.map (fun e => (e.key, e.val)) := by rw [hL]; exact List.mem_map.2 ⟨_, hm, rfl⟩
      obtain ⟨e, he, hee⟩ := List.mem_map.1 this
      have e9 := congrArg Prod.fst hee
      dsimp only at e9
      have hne := h2 e he
      rw [e9] at hne
      simp only [beq_eq_false_iff_ne, ne_eq]
      exact fun hxk => hne (by rw [hxk])
    rw [hf]
    simp [Instr.lookup, run_underlying Tryz.underlying84, MapKept.run_getObj_map hb, keyedK.check w _ hkey, h1, hz, Result.andThen]
  · have hf : ∃ i, kyAt L k = some i ∧ e0.val = .int .i64 ((i : Nat) : Int) := by
      have h9 : (es.toList.map (fun e => (e.key, e.val)))[j]? = some (e0.key, e0.val) := by rw [List.getElem?_map, h2]; rfl
      rw [hL, List.getElem?_map, List.getElem?_zipIdx] at h9
      cases hx : L[j]? with
      | none => rw [hx] at h9; simp at h9
      | some x =>
        rw [hx] at h9
        simp at h9
        have hxk : x = k := kyV_inj (h9.1.trans h3)
        refine ⟨j, ?_, h9.2.symm⟩
        unfold kyAt
        rw [List.findIdx?_eq_some_iff_getElem]
        have hj := (List.getElem?_eq_some_iff.1 hx).1
        have hj2 := (List.getElem?_eq_some_iff.1 hx).2
        refine ⟨hj, by rw [hj2, hxk]; simp, fun i hi => ?_⟩
        simp only [beq_eq_false_iff_ne, ne_eq, Bool.not_eq_true]
        intro hc
        have hcj : L[i] = L[j] := by rw [hj2, hxk]; simpa using hc
        have hd' := hd
        unfold List.Nodup at hd'
        rw [List.pairwise_iff_getElem] at hd'
        exact hd' i j (by omega) hj hi hcj
    obtain ⟨i, hi, hv⟩ := hf
    rw [hi]
    simp [Instr.lookup, run_underlying Tryz.underlying84, MapKept.run_getObj_map hb, keyedK.check w _ hkey, h1, hv, Result.andThen]

/-- What is put. -/
theorem MapIn.put {w : World} {b : Nat} {L : List Ky} (h : MapIn w b L) {k : Ky} (hk : KyOK k) (hn : k ∉ L) :
    ∃ w', (Instr.mapUpdate 84 (.map (some b)) (kyV k) (.int .i64 (L.length : Int))).run Tryz.prog w = .ok () w' ∧ MapIn w' b (L ++ [k]) ∧ w.grownBy w' (some b) ∧ w'.heap.size = w.heap.size := by
  obtain ⟨es, clock, hb, hL, hs⟩ := h
  obtain ⟨l, hkey⟩ := key_reads hk
  rcases keyedK.find w hkey es.toList (MapIn.keys hL hs) with ⟨h1, h2⟩ | ⟨j, e0, h1, h2, h3⟩
  · refine ⟨ChangeMaps.setBlock w b (.map (es.push ⟨kyV k, .int .i64 (L.length : Int), clock⟩) (clock + 1)), ?_, ⟨es.push ⟨kyV k, .int .i64 (L.length : Int), clock⟩, clock + 1, ChangeMaps.heap_setBlock_same hb _, ?_, ?_⟩, ⟨rfl, rfl, rfl, by simp [ChangeMaps.setBlock], fun i _ hi => ChangeMaps.heap_setBlock_other hb _ (fun e => hi (by rw [e]))⟩, by simp [ChangeMaps.setBlock]⟩
    · simp [Instr.mapUpdate, run_underlying Tryz.underlying84, MapKept.run_getObj_map hb, keyedK.check w false hkey, h1, MapKept.run_setObj_map _ hb, Result.andThen, ChangeMaps.setBlock]
    · rw [Array.toList_push, List.map_append, hL, List.zipIdx_append, List.map_append]
      simp
    · intro x hx
      rcases List.mem_append.1 hx with h | h
      · exact hs x h
      · rw [List.mem_singleton.1 h]; exact hk
  · exfalso
    have hm : e0 ∈ es.toList := List.mem_of_getElem? h2
    have : (e0.key, e0.val) ∈ L.zipIdx.map (fun x => (kyV x.1, Value.int .i64 ((x.2 : Nat) : Int))) := by rw [← hL]; exact List.mem_map.2 ⟨e0, hm, rfl⟩
    obtain ⟨x, hx, hxe⟩ := List.mem_map.1 this
    have e9 := congrArg Prod.fst hxe
    dsimp only at e9
    have e1 : kyV x.1 = kyV k := e9.trans h3
    exact hn (by rw [← kyV_inj e1]; exact List.fst_mem_of_mem_zipIdx hx)
end Go.Proofs.YtofpcdjoljjnoaaGreatDoor

namespace Go.Proofs.YtofpcdjoljjnoaaGreatDoor
open Go.RowKit

theorem NRow.by_form {B : Nat} {w : World} {v : Value} {L : List Nat} {G : Prop} (h : NRow B w v L) (k : ∀ A cap, v = .slice A L.length cap → NRow B w (.slice A L.length cap) L → G) : G := by
  obtain ⟨A, cap, rfl, _, _, _⟩ := h.at_
  exact k A cap rfl h

section
variable {w : World}

set_option maxRecDepth 100000 in
set_option maxHeartbeats 2000000 in
theorem zof_any (n : Nat) (w : World) (hn : n ≤ 9223372036854775807) :
    Calls Tryz.prog 49 #[.int .i64 (n : Int)] w (fun e w' => ∃ x c, e = .returned (.agg #[.bool false, .slice x (nrow n).length c]) ∧ NRow w.heap.size w' (.slice x (nrow n).length c) (nrow n) ∧ Below w.heap.size w w') := by
  obtain ⟨W1, hW1⟩ : ∃ W1, W1 = w.alloc (.cells #[.bool false, .slice none 0 0] 44) := ⟨_, rfl⟩
  have b0 : BlkOf W1 w.heap.size #[.bool false, .slice none 0 0] 44 := by rw [hW1]; exact BlkOf.new w _ _
  have hbw : Below w.heap.size w W1 := by rw [hW1]; exact (Below.refl _ w).alloc (Nat.le_refl _) _
  have hsz : W1.heap.size = w.heap.size + 1 := by rw [hW1]; simp
  have HO := Lib.hid (of_any n W1 (by omega))
  have HB := Lib.hid b0
  have HBW := Lib.hid hbw
  have HSZ := Lib.hid hsz
  have h0 : ¬ ((n : Int) < 0) := by omega
  subst hW1
  clear b0 hbw hsz
  go_enter Tryz.func49, Tryz.ntmps49
  go_wp2_with (first | (go_at_call 50; refine HO.out.mono ?_) | fail)
  have hsz1 := HSZ.out
  rintro e w1 ⟨v, rfl, hr, hb1⟩
  refine NRow.by_form hr fun x c ev hr => ?_
  rw [ev]
  rw [hsz1] at hr
  have hbw1 : Below w.heap.size w w1 := HBW.out.trans (hb1.mono HBW.out.size)
  have b1 := HB.out.below hb1 (by rw [hsz1]; omega)
  have hz1 : w.heap.size + 1 ≤ w1.heap.size := by have := hb1.size; omega
  have c10 := b1.at 0 rfl
  have c11 := b1.at 1 rfl
  have z10 := b1.free
  have Q1 := Lib.hid ((b1.set 0 (.bool false)).set 1 (.slice x (nrow n).length c))
  have HX := Lib.hid (NRow.more (ownsRow_setCell_below (a := ⟨w.heap.size, 1, none⟩) (ownsRow_setCell_below (a := ⟨w.heap.size, 0, none⟩) hr (by show w.heap.size < _; omega) (.bool false)) (by show w.heap.size < _; omega) (.slice x (nrow n).length c)) (Nat.le_succ _))
  have HBF := Lib.hid ((hbw1.setCell (p := ⟨w.heap.size, 0, none⟩) (Nat.le_refl _) (.bool false)).setCell (p := ⟨w.heap.size, 1, none⟩) (Nat.le_refl _) (.slice x (nrow n).length c))
  clear hr ev
  go_wp2_with fail
  refine post_cell rfl (g := w.heap.size) rfl Q1.out Tryz.underlying44 rfl (by kernel_rfl) ?_
  exact ⟨x, c, rfl, HX.out, HBF.out⟩

set_option maxRecDepth 100000 in
set_option maxHeartbeats 2000000 in
theorem fof_any (n : Nat) (w : World) (hn : n ≤ 9223372036854775807) :
    Calls Tryz.prog 27 #[.int .i64 (n : Int)] w (fun e w' => ∃ v, e = .returned v ∧ FrRow w.heap.size w' v false n 1 ∧ Below w.heap.size w w') := by
  obtain ⟨W1, hW1⟩ : ∃ W1, W1 = w.alloc (.cells #[.bool false, .slice none 0 0, .slice none 0 0] 46) := ⟨_, rfl⟩
  have b0 : BlkOf W1 w.heap.size #[.bool false, .slice none 0 0, .slice none 0 0] 46 := by rw [hW1]; exact BlkOf.new w _ _
  have hbw : Below w.heap.size w W1 := by rw [hW1]; exact (Below.refl _ w).alloc (Nat.le_refl _) _
  have hsz : W1.heap.size = w.heap.size + 1 := by rw [hW1]; simp
  have HO := Lib.hid (zof_any n W1 hn)
  have HB := Lib.hid b0
  have HBW := Lib.hid hbw
  have HSZ := Lib.hid hsz
  subst hW1
  clear b0 hbw hsz
  go_enter Tryz.func27, Tryz.ntmps27
  go_wp2_with (first | (go_at_call 49; refine HO.out.mono ?_) | fail)
  have hsz1 := HSZ.out
  rintro e w1 ⟨x, c, rfl, hr, hb1⟩
  rw [hsz1] at hr
  have hbw1 : Below w.heap.size w w1 := HBW.out.trans (hb1.mono HBW.out.size)
  have b1 := HB.out.below hb1 (by rw [hsz1]; omega)
  have hz1 : w.heap.size + 1 ≤ w1.heap.size := by have := hb1.size; omega
  have HO2 := Lib.hid (of_any 1 w1 (by omega))
  go_wp2_with (first | (go_at_call 50; refine HO2.out.mono ?_) | fail)
  rintro e w2 ⟨v, rfl, hr2, hb2⟩
  have hr' := hr.below hb2 (Nat.le_refl _)
  have hr2' := hr2.more hz1
  refine NRow.by_form hr2' fun y c2 ev hr2 => ?_
  rw [ev]
  have hbw2 : Below w.heap.size w w2 := hbw1.trans (hb2.mono hbw1.size)
  have b2 := b1.below hb2 (by omega)
  have hz2 : w.heap.size + 1 ≤ w2.heap.size := by have := hb2.size; omega
  have c10 := b2.at 0 rfl
  have c11 := b2.at 1 rfl
  have c12 := b2.at 2 rfl
  have z10 := b2.free
  have Q1 := Lib.hid (((b2.set 0 (.bool false)).set 1 (.slice x (nrow n).length c)).set 2 (.slice y (nrow 1).length c2))
  have hrow : ∀ {v : Value} {l : List Nat}, NRow (w.heap.size + 1) w2 v l → NRow w.heap.size (((w2.setCell ⟨w.heap.size, 0, none⟩ (.bool false)).setCell ⟨w.heap.size, 1, none⟩ (.slice x (nrow n).length c)).setCell ⟨w.heap.size, 2, none⟩ (.slice y (nrow 1).length c2)) v l := fun hx =>
    NRow.more (ownsRow_setCell_below (a := ⟨w.heap.size, 2, none⟩) (ownsRow_setCell_below (a := ⟨w.heap.size, 1, none⟩) (ownsRow_setCell_below (a := ⟨w.heap.size, 0, none⟩) hx (by show w.heap.size < _; omega) _) (by show w.heap.size < _; omega) _) (by show w.heap.size < _; omega) _) (Nat.le_succ _)
  have HX := Lib.hid (hrow hr')
  have HY := Lib.hid (hrow hr2)
  have HBF := Lib.hid (((hbw2.setCell (p := ⟨w.heap.size, 0, none⟩) (Nat.le_refl _) (.bool false)).setCell (p := ⟨w.heap.size, 1, none⟩) (Nat.le_refl _) (.slice x (nrow n).length c)).setCell (p := ⟨w.heap.size, 2, none⟩) (Nat.le_refl _) (.slice y (nrow 1).length c2))
  clear hr hr' hr2 hr2' ev hrow
  go_wp2_with fail
  refine post_cell rfl (g := w.heap.size) rfl Q1.out Tryz.underlying46 rfl (by kernel_rfl) ?_
  exact ⟨_, rfl, ⟨_, _, _, _, rfl, HX.out, HY.out⟩, HBF.out⟩
end
end Go.Proofs.YtofpcdjoljjnoaaGreatDoor

namespace Go.Proofs.YtofpcdjoljjnoaaGreatDoor
open Go.RowKit

/-- The text of a normal number. -/
def fT (s : Bool) (n d : Nat) : List UInt8 := if d = 1 then zT s n else zT s n ++ 47 :: decT d

theorem one_row : nrow 1 = [1] := by decide +kernel
theorem short_one : Short 1 := by unfold Short; rw [one_row]; decide
theorem zT_len {s : Bool} {n : Nat} (h : Short n) : (zT s n).length ≤ 131073 := by
  have := decT_short h
  unfold zT
  split
  · simp; omega
  · omega

section
variable {K : Nat} {w : World} {n d : Nat}

set_option maxRecDepth 100000 in
set_option maxHeartbeats 2000000 in
theorem ftext_any {vn vd : Value} (s : Bool) (h : FrNum K w vn vd n d) (hK : K ≤ 137438953472) (hok : okF n d = true) (hsN : Short (rdN n d)) (hsD : Short (rdD n d)) :
    Calls Tryz.prog 40 #[.agg #[.bool s, vn, vd]] w (StrPost (fT (rdS s n) (rdN n d) (rdD n d)) w) := by
  obtain ⟨W1, hW1⟩ : ∃ W1, W1 = w.alloc (.cells #[.bool s, vn, vd] 46) := ⟨_, rfl⟩
  have b0 : BlkOf W1 w.heap.size #[.bool s, vn, vd] 46 := by rw [hW1]; exact BlkOf.new w _ _
  have hbw : Below w.heap.size w W1 := by rw [hW1]; exact (Below.refl _ w).alloc (Nat.le_refl _) _
  have hsz : W1.heap.size = w.heap.size + 1 := by rw [hW1]; simp
  have HN := Lib.hid (fnorm_any s (h.grow hbw) hK)
  have HB := Lib.hid b0
  have HBW := Lib.hid hbw
  have HSZ := Lib.hid hsz
  obtain ⟨⟨a, ca, A, rfl, _, _, _, _, _, _⟩, ⟨b, cb, B, rfl, _, _, _, _, _, _⟩⟩ := h
  subst hW1
  clear b0 hbw hsz
  go_enter Tryz.func40, Tryz.ntmps40
  go_wp2_with (first | (go_at_call 38; refine HN.out.mono ?_) | fail)
  have hsz1 := HSZ.out
  rintro e w1 (⟨_, v, rfl, ⟨x, c, y, e', rfl, hx, hy⟩, hb1⟩ | ⟨hno, _⟩)
  · unfold frV
    generalize rdN n d = N at *
    generalize rdD n d = D at *
    generalize rdS s n = S at *
    have hbw1 : Below w.heap.size w w1 := HBW.out.trans (hb1.mono HBW.out.size)
    have b1 := HB.out.below hb1 (by rw [hsz1]; omega)
    have hz1 : w.heap.size + 1 ≤ w1.heap.size := by have := hb1.size; omega
    rw [hsz1] at hx hy
    have c10 := b1.at 0 rfl
    have c11 := b1.at 1 rfl
    have c12 := b1.at 2 rfl
    have z10 := b1.free
    -- the world behind the store
    obtain ⟨W2, hW2⟩ : ∃ W2, W2 = ((w1.setCell ⟨w.heap.size, 0, none⟩ (.bool S)).setCell ⟨w.heap.size, 1, none⟩ (.slice x (nrow N).length c)).setCell ⟨w.heap.size, 2, none⟩ (.slice y (nrow D).length e') := ⟨_, rfl⟩
    have q1 : BlkOf W2 w.heap.size #[.bool S, .slice x (nrow N).length c, .slice y (nrow D).length e'] 46 := by rw [hW2]; exact ((b1.set 0 (.bool S)).set 1 (.slice x (nrow N).length c)).set 2 (.slice y (nrow D).length e')
    have hrow : ∀ {v : Value} {l : List Nat}, NRow (w.heap.size + 1) w1 v l → NRow (w.heap.size + 1) W2 v l := fun hx => by
      rw [hW2]
      exact ownsRow_setCell_below (a := ⟨w.heap.size, 2, none⟩) (ownsRow_setCell_below (a := ⟨w.heap.size, 1, none⟩) (ownsRow_setCell_below (a := ⟨w.heap.size, 0, none⟩) hx (by show w.heap.size < _; omega) _) (by show w.heap.size < _; omega) _) (by show w.heap.size < _; omega) _
    have HX := Lib.hid ((hrow hx).short hsN)
    have HY := Lib.hid ((hrow hy).short hsD)
    have HB2 : Hid (Below w.heap.size w W2) := Lib.hid (by rw [hW2]; exact ((hbw1.setCell (p := ⟨w.heap.size, 0, none⟩) (Nat.le_refl _) _).setCell (p := ⟨w.heap.size, 1, none⟩) (Nat.le_refl _) _).setCell (p := ⟨w.heap.size, 2, none⟩) (Nat.le_refl _) _)
    have HZ2 : Hid (w.heap.size + 1 ≤ W2.heap.size) := Lib.hid (by rw [hW2]; simpa [World.setCell] using hz1)
    have HW2 := Lib.hid hW2
    clear hrow hx hy hW2
    go_wp2_with fail
    rw [← HW2.out]
    have KC : Hid (∀ W, Grow W2 W → W.cell? ⟨w.heap.size, 0, none⟩ = some (.bool S) ∧ W.cell? ⟨w.heap.size, 1, none⟩ = some (.slice x (nrow N).length c) ∧ W.cell? ⟨w.heap.size, 2, none⟩ = some (.slice y (nrow D).length e')) := Lib.hid fun W hW => by
      have q := q1.below hW q1.lt
      exact ⟨q.at 0 rfl, q.at 1 rfl, q.at 2 rfl⟩
    have HCm := Lib.hid (fun W (hW : Grow W2 W) (v : Value) (hv : NRow W2.heap.size W v (nrow 1)) => cmp_p (HY.out.below hW) (hv.short short_one) (by omega) (by omega))
    have hce : ((cmpV D 1 : Int) == 0) = decide (D = 1) := by
      rcases Nat.lt_trichotomy D 1 with h | h | h
      · rw [cmpV_lt h]; simp; omega
      · rw [h, cmpV_eq rfl]; rfl
      · rw [cmpV_gt h]; simp; omega
    obtain ⟨cv, hcv⟩ : ∃ cv, cv = cmpV D 1 := ⟨_, rfl⟩
    unfold CmpAnd at HCm
    rw [← hcv] at hce
    have HCV := Lib.hid hcv
    clear hcv
    rename_i K0 hK0
    refine wp_region_list [fun v _ => v = .pointer (some ⟨w.heap.size, 2, none⟩), fun v _ => v = .slice y (nrow D).length e', fun v W => ∃ q c, v = .slice q (nrow 1).length c ∧ NRow W2.heap.size W (.slice q (nrow 1).length c) (nrow 1), fun v _ => v = .int .i64 cv, fun v _ => v = .bool (decide (D = 1))]
      [(1, .pointer (some ⟨w.heap.size, 0, none⟩))] 5 (by kernel_rfl) ?stay rfl (by kernel_rfl) rfl ?base (by kernel_rfl) ⟨?_, ?_, ?_, ?_, ?_, trivial⟩ ?last
    case stay =>
      refine ⟨stays_pure _, stays_pure _, ?_, stays_pure _, stays_pure _, trivial⟩
      exact fun v W W' hg ⟨x, c, h1, h2⟩ => ⟨x, c, h1, h2.below hg (Nat.le_refl _)⟩
    case base => simp
    case last =>
      intro vs W hW hv
      simp only [FactsL, Nat.zero_add, Nat.reduceAdd] at hv
      obtain ⟨v0, v1, v2, v3, v4, _⟩ := hv
      refine ⟨rfl, ?_⟩
      simp only [List.take_succ_cons, List.take_zero, putF, Act.put, List.setIfInBounds_toArray, List.set_cons_zero, List.set_cons_succ, Nat.reduceAdd, v4]
      unfold Oper.wp
      simp [execOp, go_sem]
      refine hK0 _ _ ?_
      have hbW := HB2.out.trans (hW.mono HB2.out.size)
      have q2 := q1.below hW q1.lt
      have HBW2 := Lib.hid hbW
      have HX2 := Lib.hid (HX.out.below hW)
      have HY2 := Lib.hid (HY.out.below hW)
      have Q2 := Lib.hid q2
      obtain ⟨T, hT⟩ : ∃ T, T = zT S N := ⟨_, rfl⟩
      have hzt := fun W' (hW' : Grow W W') => ztext_any S (HX2.out.below hW') (by omega) hsN
      rw [← hT] at hzt
      have HZT := Lib.hid hzt
      by_cases hD : D = 1
      · have hfT : fT S N D = T := by unfold fT; rw [if_pos hD, hT]
        rw [hfT]
        have c0 := q2.at 0 rfl
        have c1 := q2.at 1 rfl
        have hd : decide (D = 1) = true := by simp [hD]
        rw [hd]
        clear hD hd hfT hT hzt hbW q2 v0 v1 v2 v3 v4
        go_wp2_with (first | (go_at_call 62; refine (HZT.out _ (Grow.refl _)).mono ?_; rintro e W' ⟨rfl, hb2⟩) | fail)
        go_ret
        rename_i W' hb2
        exact ⟨rfl, HBW2.out.trans (hb2.mono HBW2.out.size)⟩
      · obtain ⟨U, hU⟩ : ∃ U, U = decT D := ⟨_, rfl⟩
        have hfT : fT S N D = T ++ [47] ++ U := by unfold fT; rw [if_neg hD, hT, hU]; simp
        rw [hfT]
        have hd : decide (D = 1) = false := by simp [hD]
        rw [hd]
        have htx := fun W' (hW' : Grow W W') => text_p (HY2.out.below hW') (by omega) hsD
        rw [← hU] at htx
        have HTX := Lib.hid htx
        have happ1 : mk T ++ (⟨#[47]⟩ : ByteArray) = mk (T ++ [47]) := mk_append T [47]
        have happ2 : mk (T ++ [47]) ++ mk U = mk (T ++ [47] ++ U) := mk_append _ _
        have s1 : (mk T).size ≤ 131073 := by rw [mk_size, hT]; exact zT_len hsN
        have s2 : (mk (T ++ [47])).size ≤ 131074 := by rw [mk_size, List.length_append, hT]; have := zT_len (s := S) hsN; simp; omega
        have s3 : (mk U).size ≤ 131072 := by rw [mk_size, hU]; exact decT_short hsD
        clear hD hd hfT hT hU hzt htx hbW q2 v0 v1 v2 v3 v4
        go_wp2_with fail
        have KC2 : Hid (∀ W', Grow W W' → W'.cell? ⟨w.heap.size, 0, none⟩ = some (.bool S) ∧ W'.cell? ⟨w.heap.size, 1, none⟩ = some (.slice x (nrow N).length c) ∧ W'.cell? ⟨w.heap.size, 2, none⟩ = some (.slice y (nrow D).length e')) := Lib.hid fun W' hW' => by
          have q := Q2.out.below hW' Q2.out.lt
          exact ⟨q.at 0 rfl, q.at 1 rfl, q.at 2 rfl⟩
        rename_i K1 hK1
        refine wp_region_list [fun v _ => v = .pointer (some ⟨w.heap.size, 0, none⟩), fun v _ => v = .agg #[.bool S, .slice x (nrow N).length c], fun v _ => v = .string (mk T), fun v _ => v = .string (mk (T ++ [47])), fun v _ => v = .pointer (some ⟨w.heap.size, 2, none⟩), fun v _ => v = .slice y (nrow D).length e', fun v _ => v = .string (mk U), fun v _ => v = .string (mk (T ++ [47] ++ U))]
          [(1, .pointer (some ⟨w.heap.size, 0, none⟩))] 8 (by kernel_rfl) ⟨stays_pure _, stays_pure _, stays_pure _, stays_pure _, stays_pure _, stays_pure _, stays_pure _, stays_pure _, trivial⟩ rfl (by kernel_rfl) rfl ?base (by kernel_rfl) ⟨?_, ?_, ?_, ?_, ?_, ?_, ?_, ?_, trivial⟩ ?last
        case base => simp
        case last =>
          intro vs W3 hW3 hv
          simp only [FactsL, Nat.zero_add, Nat.reduceAdd] at hv
          obtain ⟨v0, v1, v2, v3, v4, v5, v6, v7, _⟩ := hv
          refine ⟨rfl, ?_⟩
          simp only [List.take_succ_cons, List.take_zero, putF, Act.put, List.setIfInBounds_toArray, List.set_cons_zero, List.set_cons_succ, Nat.reduceAdd, v7]
          unfold Oper.wp
          simp [execOp, go_sem]
          refine hK1 _ _ ?_
          have HB3 := Lib.hid (HBW2.out.trans (hW3.mono HBW2.out.size))
          go_wp2_with fail
          go_ret
          exact ⟨by simp, HB3.out⟩
        all_goals
          intro a' W' hW' hb hf
          obtain ⟨q00, q01, q10⟩ := KC2.out W' hW'
          simp only [List.forall_mem_cons, List.not_mem_nil, false_imp_iff, implies_true, and_true] at hb
          simp [FactsOf, FactAt, Region.binds, factsL] at hf
          refine ⟨rfl, fun K hK => ?_⟩
          unfold Oper.wp
        · simp [execOp, go_sem, *]
          exact hK _ _ (Grow.refl _) rfl
        · simp [execOp, go_sem, *]
          exact hK _ _ (Grow.refl _) rfl
        · simp [go_sem, *]
          refine (HZT.out W' hW').mono ?_
          rintro e W4 ⟨rfl, hg⟩
          exact hK _ _ hg rfl
        · simp [execOp, go_sem, hf, happ1]
          rw [if_neg (by have : (⟨#[47]⟩ : ByteArray).size = 1 := rfl; omega)]
          exact hK _ _ (Grow.refl _) rfl
        · simp [execOp, go_sem, *]
          exact hK _ _ (Grow.refl _) rfl
        · simp [execOp, go_sem, *]
          exact hK _ _ (Grow.refl _) rfl
        · simp [go_sem, *]
          refine (HTX.out W' hW').mono ?_
          rintro e W4 ⟨rfl, hg⟩
          exact hK _ _ hg rfl
        · simp [execOp, go_sem, hf, happ2]
          rw [if_neg (by omega)]
          exact hK _ _ (Grow.refl _) (by simp)
    all_goals
      intro a' W hW hb hf
      obtain ⟨q00, q01, q10⟩ := KC.out W hW
      simp only [List.forall_mem_cons, List.not_mem_nil, false_imp_iff, implies_true, and_true] at hb
      simp [FactsOf, FactAt, Region.binds, factsL] at hf
      refine ⟨rfl, fun K hK => ?_⟩
      unfold Oper.wp
    · simp [execOp, go_sem, *]
      exact hK _ _ (Grow.refl _) rfl
    · simp [execOp, go_sem, *]
      exact hK _ _ (Grow.refl _) rfl
    · simp [go_sem, *]
      refine (of_any 1 W (by omega)).mono ?_
      rintro e W' ⟨v, rfl, hr, hg⟩
      refine NRow.by_form hr fun q c ev hr => ?_
      rw [ev]
      exact hK _ _ hg ⟨q, c, rfl, hr.more hW.size⟩
    · obtain ⟨q, c, ev, hr⟩ := hf.2
      have hf1 := hf.1
      clear hf
      simp [go_sem, hf1, ev]
      refine (HCm.out W hW _ hr).mono ?_
      rintro e W' ⟨rfl, hg⟩
      exact hK _ _ hg (by rw [HCV.out])
    · simp [execOp, go_sem, *]
      exact hK _ _ (Grow.refl _) rfl
  · rw [hok] at hno; cases hno
end
end Go.Proofs.YtofpcdjoljjnoaaGreatDoor

namespace Go.Proofs.YtofpcdjoljjnoaaGreatDoor
open Go.RowKit Go.Maps

/-- A slice's block is among P. -/
def OwnIn (P : Nat → Prop) (v : Value) : Prop := ∀ g, v.ownBlock = some g → P g
/-- The blocks of P are as they were. -/
def Kept (P : Nat → Prop) (w w' : World) : Prop := ∀ k, P k → w'.heap[k]? = w.heap[k]?
theorem ownsRow_kept {P : Nat → Prop} {w w' : World} {B e K : Nat} {v : Value} {n : Nat} {xs : List Value} (h : w.ownsRow B e K v n xs) (ho : OwnIn P v) (hk : Kept P w w') : w'.ownsRow B e K v n xs := by
  refine ⟨h.1, ?_⟩
  rcases h.2 with h2 | ⟨g, cap, cur, e1, hB, hg, hr⟩
  · exact .inl h2
  · exact .inr ⟨g, cap, cur, e1, hB, (hk g (ho g (by rw [e1]; rfl))).trans hg, hr⟩
theorem ownsRow_own {w : World} {B e K : Nat} {v : Value} {n : Nat} {xs : List Value} (h : w.ownsRow B e K v n xs) {g : Nat} (hg : v.ownBlock = some g) : B ≤ g ∧ g < w.heap.size ∧ ∃ cur, BlkOf w g cur e := by
  rcases h.2 with ⟨h2, _⟩ | ⟨g', cap, cur, e1, hB, hh, hr⟩
  · rw [h2] at hg; cases hg
  · rw [e1] at hg
    cases hg
    exact ⟨hB, (Array.getElem?_eq_some_iff.1 hh).1, cur, hh⟩

/-- A row of limbs among P. -/
def RawIn (P : Nat → Prop) (w : World) (v : Value) (L : List Nat) : Prop := NRow 0 w v L ∧ Fits L ∧ OwnIn P v
theorem RawIn.kept {P : Nat → Prop} {w w' : World} {v : Value} {L : List Nat} (h : RawIn P w v L) (hk : Kept P w w') : RawIn P w' v L := ⟨ownsRow_kept h.1 h.2.2 hk, h.2⟩
theorem RawIn.mono {P P' : Nat → Prop} {w : World} {v : Value} {L : List Nat} (h : RawIn P w v L) (hp : ∀ k, P k → P' k) : RawIn P' w v L := ⟨h.1, h.2.1, fun g hg => hp g (h.2.2 g hg)⟩
theorem RawIn.nil (P : Nat → Prop) (w : World) : RawIn P w (.slice none 0 0) [] := ⟨NRow.nil _ _, fun _ h => by simp at h, fun _ h => by cases h⟩
theorem raw_of_row {B : Nat} {w : World} {v : Value} {L : List Nat} (h : NRow B w v L) (hf : Fits L) : Raw w v L := by
  have h2 := h.2
  obtain ⟨A, cap, rfl, h1, _, h3⟩ := h.at_
  refine ⟨A, cap, rfl, h1, fun hA => ?_, hf, h3⟩
  rcases h2 with ⟨e, _⟩ | ⟨g, cap', cur, e, _⟩
  · injection e
  · injection e with e1
    rw [hA] at e1; cases e1
theorem RawIn.raw {P : Nat → Prop} {w : World} {v : Value} {L : List Nat} (h : RawIn P w v L) : Raw w v L := raw_of_row h.1 h.2.1

/-- A step among P. -/
def NdIn (P : Nat → Prop) (w : World) (x : Nd) (vn vd : Value) : Prop := x.op < 256 ∧ I64 x.a ∧ I64 x.b ∧ RawIn P w vn x.c.m ∧ RawIn P w vd x.c.d ∧ x.c.m.length ≤ 2048 ∧ x.c.d.length ≤ 2048
theorem NdIn.kept {P : Nat → Prop} {w w' : World} {x : Nd} {vn vd : Value} (h : NdIn P w x vn vd) (hk : Kept P w w') : NdIn P w' x vn vd := ⟨h.1, h.2.1, h.2.2.1, h.2.2.2.1.kept hk, h.2.2.2.2.1.kept hk, h.2.2.2.2.2⟩
theorem NdIn.mono {P P' : Nat → Prop} {w : World} {x : Nd} {vn vd : Value} (h : NdIn P w x vn vd) (hp : ∀ k, P k → P' k) : NdIn P' w x vn vd := ⟨h.1, h.2.1, h.2.2.1, h.2.2.2.1.mono hp, h.2.2.2.2.1.mono hp, h.2.2.2.2.2⟩
theorem NdIn.ok {P : Nat → Prop} {w : World} {x : Nd} {vn vd : Value} (h : NdIn P w x vn vd) : NdOK 2048 w x vn vd := ⟨h.1, h.2.1, h.2.2.1, h.2.2.2.1.raw, h.2.2.2.2.1.raw, h.2.2.2.2.2⟩

/-- The cells of a row of steps. -/
def rowCells : List Nd → List (Value × Value) → List Value
  | x :: L, p :: vs => ndCells x p.1 p.2 ++ rowCells L vs
  | _, _ => []
theorem ndCells_length (x : Nd) (vn vd : Value) : (ndCells x vn vd).length = 6 := rfl
theorem rowCells_snoc : ∀ {L : List Nd} {vs : List (Value × Value)} (x : Nd) (p : Value × Value), vs.length = L.length → rowCells (L ++ [x]) (vs ++ [p]) = rowCells L vs ++ ndCells x p.1 p.2
  | [], [], x, p, _ => by simp [rowCells]
  | [], _ :: _, _, _, h => by simp at h
  | _ :: _, [], _, _, h => by simp at h
  | y :: L, q :: vs, x, p, h => by
    rw [List.cons_append, List.cons_append, rowCells, rowCells_snoc x p (by simpa using h), rowCells, List.append_assoc]
theorem rowCells_get : ∀ {L : List Nd} {vs : List (Value × Value)} {i j : Nat} {x : Nd} {p : Value × Value}, L[i]? = some x → vs[i]? = some p → j < 6 → (rowCells L vs)[i * 6 + j]? = (ndCells x p.1 p.2)[j]?
  | [], _, _, _, _, _, h, _, _ => by simp at h
  | _ :: _, [], _, _, _, _, _, h, _ => by simp at h
  | y :: L, q :: vs, 0, j, x, p, h, k, hj => by
    simp at h k
    subst h k
    rw [rowCells, Nat.zero_mul, Nat.zero_add, List.getElem?_append_left (by rw [ndCells_length]; exact hj)]
  | y :: L, q :: vs, i + 1, j, x, p, h, k, hj => by
    rw [rowCells, List.getElem?_append_right (by rw [ndCells_length]; omega), ndCells_length, show (i + 1) * 6 + j - 6 = i * 6 + j by omega]
    exact rowCells_get (by simpa using h) (by simpa using k) hj

/-- A row of steps among P. -/
def NdsIn (P : Nat → Prop) (w : World) (v : Value) (L : List Nd) : Prop :=
  ∃ vs : List (Value × Value), vs.length = L.length ∧ w.ownsRow 0 71 6 v L.length (rowCells L vs) ∧ OwnIn P v ∧ ∀ (i : Nat) (x : Nd) (p : Value × Value), L[i]? = some x → vs[i]? = some p → NdIn P w x p.1 p.2
theorem NdsIn.kept {P : Nat → Prop} {w w' : World} {v : Value} {L : List Nd} (h : NdsIn P w v L) (hk : Kept P w w') : NdsIn P w' v L := by
  obtain ⟨vs, h1, h2, h3, h4⟩ := h
  exact ⟨vs, h1, ownsRow_kept h2 h3 hk, h3, fun i x p hx hp => (h4 i x p hx hp).kept hk⟩
theorem NdsIn.mono {P P' : Nat → Prop} {w : World} {v : Value} {L : List Nd} (h : NdsIn P w v L) (hp : ∀ k, P k → P' k) : NdsIn P' w v L := by
  obtain ⟨vs, h1, h2, h3, h4⟩ := h
  exact ⟨vs, h1, h2, fun g hg => hp g (h3 g hg), fun i x p hx hp' => (h4 i x p hx hp').mono hp⟩
theorem NdsIn.nil (P : Nat → Prop) (w : World) : NdsIn P w (.slice none 0 0) [] := ⟨[], rfl, World.ownsRow_nil w 0 _ 6, fun _ h => (by cases h), fun _ _ _ h => by simp at h⟩
theorem NdsIn.form {P : Nat → Prop} {w : World} {v : Value} {L : List Nd} (h : NdsIn P w v L) : ∃ A cap, v = .slice A L.length cap ∧ NdsAt 2048 w A L := by
  obtain ⟨vs, h1, h2, h3, h4⟩ := h
  rcases h2.2 with ⟨e, he⟩ | ⟨g, cap, cur, e, _, hg, hn, hm, hs, htk⟩
  · have : L = [] := List.eq_nil_of_length_eq_zero he
    subst this
    exact ⟨none, 0, e, fun i x hx => by simp at hx⟩
  · refine ⟨some ⟨g, 0, none⟩, cap, e, fun i x hx => ?_⟩
    have hi := (List.getElem?_eq_some_iff.1 hx).1
    obtain ⟨p, hp⟩ : ∃ p, vs[i]? = some p := ⟨_, List.getElem?_eq_getElem (by omega)⟩
    refine ⟨g, 0, p.1, p.2, rfl, fun j u hu => ?_, (h4 i x p hx hp).ok⟩
    have hj : j < 6 := by have := (List.getElem?_eq_some_iff.1 hu).1; rwa [ndCells_length] at this
    have h5 := rowCells_get hx hp hj
    rw [hu, ← htk, List.getElem?_take, if_pos (by omega)] at h5
    rw [cell_of_row w g (0 + i * 6 + j) cur _ (0, 0) hg, Nat.zero_add]
    simpa using h5

/-- What a maker has. -/
structure MkS where
  budget : Nat
  pars : Nat
  l : List Nd
/-- A step's key. -/
def keyN (x : Nd) : Ky := ⟨x.op, x.a, x.b, if x.op = 1 then fT x.c.s (lv x.c.m) (lv x.c.d) else []⟩
/-- What holds of it always. -/
def Good (S : MkS) : Prop := 1 ≤ S.budget ∧ S.budget ≤ 20000 ∧ S.pars ≤ 200 ∧ S.l.length ≤ S.budget ∧ stepsB (S.pars : Int) 0 S.l = true ∧ (S.l.map keyN).Nodup
/-- The row of a maker in memory. -/
def RowAt (P : Nat → Prop) (w : World) (pr : Nat) (S : MkS) : Prop :=
  ∃ mb vN, P pr ∧ P mb ∧ BlkOf w pr #[.int .i64 (S.budget : Int), .int .i64 (S.pars : Int), vN, .map (some mb)] 86 ∧ NdsIn P w vN S.l ∧ MapIn w mb (S.l.map keyN) ∧ (∀ k, P k → k < w.heap.size)
theorem RowAt.kept {P : Nat → Prop} {w w' : World} {pr : Nat} {S : MkS} (h : RowAt P w pr S) (hk : Kept P w w') (hs : w.heap.size ≤ w'.heap.size) : RowAt P w' pr S := by
  obtain ⟨mb, vN, h1, h2, h3, h4, h5, h6⟩ := h
  exact ⟨mb, vN, h1, h2, (hk pr h1).trans h3, h4.kept hk, h5.of_block (hk mb h2), fun k h => Nat.lt_of_lt_of_le (h6 k h) hs⟩
theorem RowAt.grow {P : Nat → Prop} {w w' : World} {pr : Nat} {S : MkS} (h : RowAt P w pr S) (hg : Grow w w') : RowAt P w' pr S := by
  have h6 := h
  obtain ⟨_, _, _, _, _, _, _, h7⟩ := h6
  exact h.kept (fun k hk => hg.block k (h7 k hk)) (Below.size hg)
end Go.Proofs.YtofpcdjoljjnoaaGreatDoor
