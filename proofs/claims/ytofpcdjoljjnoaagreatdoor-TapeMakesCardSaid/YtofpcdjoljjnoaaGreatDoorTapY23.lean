/-
  The texts TapRPutA, TapRPut, TapRMkr, TapRPar, one behind the other.
-/
import Derived.Test.YtofpcdjoljjnoaaGreatDoorTapY22
import Derived.Test.YtofpcdjoljjnoaaGreatDoorTapY21
import Derived.Test.YtofpcdjoljjnoaaGreatDoorTapY20
import Derived.Test.YtofpcdjoljjnoaaGreatDoorTapY18

namespace Go.Proofs.YtofpcdjoljjnoaaGreatDoor
open Go.RowKit Go.Maps

/-- All blocks stay but the row's own one, which keeps its first places; what is a row X there stays one. -/
def putRel (G : Option Nat) (n6 : Nat) (X : List Value) : Rel where
  to w w' := Below 0 w w' ∧ (∀ k, k < w.heap.size → G ≠ some k → w'.heap[k]? = w.heap[k]?) ∧ ∀ g cur, G = some g → BlkOf w g cur 71 → ∃ cur', BlkOf w' g cur' 71 ∧ cur'.size = cur.size ∧ cur'.toList.take n6 = cur.toList.take n6 ∧ (cur.toList.take X.length = X → cur'.toList.take X.length = X)
  refl w := ⟨Below.refl _ w, fun _ _ _ => rfl, fun g cur _ h => ⟨cur, h, rfl, rfl, fun h => h⟩⟩
  trans := fun h k => ⟨Below.trans h.1 k.1, fun i hi hG => (k.2.1 i (Nat.lt_of_lt_of_le hi h.1.size) hG).trans (h.2.1 i hi hG), fun g cur hg hc => by
    obtain ⟨c1, h1, h2, h3, h4⟩ := h.2.2 g cur hg hc
    obtain ⟨c2, k1, k2, k3, k4⟩ := k.2.2 g c1 hg h1
    exact ⟨c2, k1, k2.trans h2, k3.trans h3, fun hx => k4 (h4 hx)⟩⟩
  drew w := ⟨⟨rfl, rfl, rfl, Nat.le_refl _, fun _ _ => rfl⟩, fun _ _ _ => rfl, fun g cur _ h => ⟨cur, h, rfl, rfl, fun h => h⟩⟩
section
variable {G : Option Nat} {n6 : Nat} {X : List Value} {w w' : World}
theorem put_grow (h : Grow w w') : (putRel G n6 X).to w w' := ⟨h.mono (Nat.zero_le _), fun k hk _ => h.block k hk, fun _ cur _ hc => ⟨cur, hc.below h hc.lt, rfl, rfl, fun h => h⟩⟩
theorem put_blk {g : Nat} {cs : Array Value} {t : TypeId} (h : (putRel G n6 X).to w w') (hb : BlkOf w g cs t) (hg : G ≠ some g) : BlkOf w' g cs t := (h.2.1 g hb.lt hg).trans hb
theorem stays_put {k : Nat} {xs : List Value} (hk : k * 6 ≤ n6 ∨ xs = X) : StaysR (putRel G n6 X) (fun v W => W.ownsRow 0 71 6 v k xs) := by
  rintro v w w' hr ⟨hl, h⟩
  refine ⟨hl, ?_⟩
  rcases h with h | ⟨g, cap, cur, e, hB, hg, hn, hm, hs, ht⟩
  · exact .inl h
  · by_cases hG : G = some g
    · obtain ⟨cur', h1, h2, h3, h4⟩ := hr.2.2 g cur hG hg
      refine .inr ⟨g, cap, cur', e, hB, h1, hn, hm, h2.trans hs, ?_⟩
      rcases hk with hk | hk
      · have h5 : (cur'.toList.take n6).take (k * 6) = (cur.toList.take n6).take (k * 6) := by rw [h3]
        rwa [List.take_take, List.take_take, Nat.min_eq_left hk, ht] at h5
      · subst hk
        rw [← hl] at ht ⊢
        exact h4 ht
    · exact .inr ⟨g, cap, cur, e, hB, put_blk hr hg hG, hn, hm, hs, ht⟩
end
section
variable {P : Program} {w : World}
theorem run_append_put (t ty : TypeId) (i : TypeInfo) (z : Value) (bytes : Nat) (ht : P.underlying t = some (.slice 71)) (hi : P.info? 71 = some i) (hz : i.zero = some z)
    (hsize : i.size = 6) (hby : i.bytes = bytes) (hzs : z.cells.size = 6)
    (v : Value) (n : Nat) (xs : List Value) (hown : w.ownsRow 0 71 6 v n xs)
    (a : Addr) (m c : Nat) (news : List Value) (hl : news.length = m * 6) (hnews : ∀ j u, news[j]? = some u → w.cell? (a.add j) = some u) (h1 : ∀ u ∈ news, u.oneCell' = true)
    (h63 : n + m ≤ maxLen) (hbytes : (n + m) * bytes ≤ 140737488355328) :
    ∃ v' w', (Builtin.append_ #[t, t] ty #[v, .slice (some a) m c]).run P w = .ok v' w' ∧ w'.ownsRow 0 71 6 v' (n + m) (xs ++ news) ∧ (putRel v.ownBlock (n * 6) (xs ++ news)).to w w' ∧ (v'.ownBlock = v.ownBlock ∨ v'.ownBlock = some w.heap.size) := by
  by_cases hv : v = .slice none 0 0
  · obtain ⟨v', w', hr, ho, hgb, _, hb⟩ := run_append_own_at (P := P) (w := w) 0 t ty 71 i z 6 bytes ht hi hz hsize hby hzs (by omega) v n xs hown a m c news hl hnews h1 h63 hbytes (Nat.zero_le _)
    refine ⟨v', w', hr, ho, put_grow ⟨hgb.os, hgb.tape, hgb.output, hgb.size, fun k hk => hgb.block k hk (by rw [hv]; intro e; cases e)⟩, hb⟩
  · have hsmall : n + m ≤ 9223372036854775807 := by simp only [maxLen] at h63; omega
    have hlen : (xs ++ news).length = (n + m) * 6 := by rw [List.length_append, hown.1, hl, Nat.add_mul]
    have hown0 := hown
    rcases hown.2 with ⟨rfl, rfl⟩ | ⟨g, cap, cur, rfl, hbg, hg, hnc, hcm, hcs, htake⟩
    · exact absurd rfl hv
    · by_cases hroom : n + m ≤ cap
      · have hfit : n * 6 + news.length ≤ cur.size := by rw [hl, hcs, ← Nat.add_mul]; exact Nat.mul_le_mul_right _ hroom
        have hr := run_append_room (P := P) w t ty 71 i ht hi g n cap cur hg a m c news (by rw [hsize]; exact hl) hnews h1 hroom (by rw [hsize]; exact hfit)
        rw [hsize] at hr
        have hnx : xs.length = n * 6 := hown.1
        have hT : (cur.toList.take (n * 6) ++ news ++ cur.toList.drop (n * 6 + news.length)).take (n * 6) = cur.toList.take (n * 6) := by
          rw [htake, List.append_assoc, ← hnx]
          exact List.take_left
        have hX : (cur.toList.take (n * 6) ++ news ++ cur.toList.drop (n * 6 + news.length)).take (xs ++ news).length = xs ++ news := by
          rw [htake]
          exact List.take_left
        have hS : (cur.toList.take (n * 6) ++ news ++ cur.toList.drop (n * 6 + news.length)).toArray.size = cur.size := by
          simp only [List.size_toArray, List.length_append, List.length_take, List.length_drop, Array.length_toList]
          omega
        have hH := setRow_heap w g cur (cur.toList.take (n * 6) ++ news ++ cur.toList.drop (n * 6 + news.length)).toArray 71 (0, 0) hg
        refine ⟨_, _, hr, ⟨hlen, .inr ⟨g, cap, _, rfl, Nat.zero_le _, hH, hroom, hcm, by rw [hS]; exact hcs, by rw [← hlen]; exact hX⟩⟩, ⟨⟨rfl, rfl, rfl, by simp, fun k hk => absurd hk (by omega)⟩, fun k _ hk => setRow_other w g k _ (fun e => hk (by rw [e]; rfl)), fun g' cur' hg' hc => ?_⟩, .inl rfl⟩
        have e1 : g = g' := by simpa [Value.ownBlock] using hg'
        subst e1
        obtain rfl : cur = cur' := by
          have h1 : some (Obj.cells cur 71 (0, 0)) = some (Obj.cells cur' 71 (0, 0)) := hg.symm.trans hc
          injection h1 with h2
          injection h2
        exact ⟨_, hH, hS, hT, fun _ => hX⟩
      · have holds : ∀ j u, xs[j]? = some u → w.cell? ((⟨g, 0, none⟩ : Addr).add j) = some u := hown0.cells (g := g) rfl
        have hr := run_append_grow (P := P) w t ty 71 i z ht hi hz ⟨g, 0, none⟩ n cap xs (by rw [hsize]; exact hown0.1) holds a m c news (by rw [hsize]; exact hl) hnews (by omega) (by omega) (growslice_fits (by omega) (by rw [hby]; exact hbytes))
        have hge := grownCap_ge w (n + m) cap 71
        have hcm : grownCap w (n + m) cap 71 ≤ maxLen := grownCap_le_maxLen w (n + m) cap 71 h63
        refine ⟨_, _, hr, ⟨hlen, .inr ⟨w.heap.size, _, _, rfl, Nat.zero_le _, World.alloc_heap_new w.drew _, hge, hcm, ?_, ?_⟩⟩, put_grow (Grow.trans (Grow.drew w) (Grow.alloc _ _)), .inr rfl⟩
        · simp only [Array.size_append, List.size_toArray, size_zeroCells, hzs, hown0.1, hl, ← Nat.add_mul]
          omega
        · simp only [Array.toList_append, List.append_assoc]
          rw [← List.append_assoc, ← hlen]
          exact List.take_left
theorem wp_append_put {o : Oper} {a : Act} {K : Act → World → Prop} {Q : Exit → Act → World → Prop} (w : World) (s x : Operand) (t : TypeId) (ho : o.op = .call { callee := .builtin .append, args := #[s, x], argTypes := #[t, t] })
    (i : TypeInfo) (z : Value) (bytes : Nat) (ht : P.underlying t = some (.slice 71)) (hi : P.info? 71 = some i) (hz : i.zero = some z)
    (hsize : i.size = 6) (hby : i.bytes = bytes) (hzs : z.cells.size = 6)
    (v : Value) (n : Nat) (xs : List Value) (hs : a.eval s = v) (hown : w.ownsRow 0 71 6 v n xs)
    (ad : Addr) (m c : Nat) (news : List Value) (hx : a.eval x = .slice (some ad) m c) (hl : news.length = m * 6) (hnews : ∀ j u, news[j]? = some u → w.cell? (ad.add j) = some u) (h1 : ∀ u ∈ news, u.oneCell' = true)
    (h63 : n + m ≤ maxLen) (hbytes : (n + m) * bytes ≤ 140737488355328)
    (h : ∀ v' w', w'.ownsRow 0 71 6 v' (n + m) (xs ++ news) → (putRel v.ownBlock (n * 6) (xs ++ news)).to w w' → (v'.ownBlock = v.ownBlock ∨ v'.ownBlock = some w.heap.size) → K (a.put o.dst v') w') : Oper.wp P o a w K Q := by
  obtain ⟨v', w', hr, h2, h3, h4⟩ := run_append_put (P := P) (w := w) t o.type i z bytes ht hi hz hsize hby hzs v n xs hown ad m c news hl hnews h1 h63 hbytes
  unfold Oper.wp execOp
  simp only [ho, resolve, invoke, builtin, Sem.run_bind, Sem.run_pure, Result.andThen_ok, List.map_toArray, List.map_cons, List.map_nil, hs, hx, hr]
  exact h v' w' h2 h3 h4
end
end Go.Proofs.YtofpcdjoljjnoaaGreatDoor

namespace Go.Proofs.YtofpcdjoljjnoaaGreatDoor
open Go.RowKit Go.Maps

/-- Numbers of steps are short. -/
def Low (L : List Nd) : Prop := ∀ x ∈ L, x.c.m.length ≤ 3 ∧ x.c.d.length ≤ 3
/-- The document's maker in memory. -/
def RMkAt (P : Nat → Prop) (w : World) (m : Value) (S : MkS) : Prop :=
  ∃ pm vN, m = .pointer (some ⟨pm, 0, none⟩) ∧ P pm ∧ BlkOf w pm #[.int .i64 (S.budget : Int), .int .i64 (S.pars : Int), vN] 68 ∧ NdsIn P w vN S.l ∧ Low S.l ∧ (∀ k, P k → k < w.heap.size) ∧ S.l.length ≤ S.budget ∧ S.budget ≤ 20000
theorem RMkAt.kept {P : Nat → Prop} {w w' : World} {m : Value} {S : MkS} (h : RMkAt P w m S) (hk : Kept P w w') (hs : w.heap.size ≤ w'.heap.size) : RMkAt P w' m S := by
  obtain ⟨pm, vN, h1, h2, h3, h4, h5, h6, h7⟩ := h
  exact ⟨pm, vN, h1, h2, (hk pm h2).trans h3, h4.kept hk, h5, fun k h => Nat.lt_of_lt_of_le (h6 k h) hs, h7⟩
theorem RMkAt.lt {P : Nat → Prop} {w : World} {m : Value} {S : MkS} (h : RMkAt P w m S) : ∀ k, P k → k < w.heap.size := by
  obtain ⟨_, _, _, _, _, _, _, h6, _⟩ := h
  exact h6
theorem RMkAt.grow {P : Nat → Prop} {w w' : World} {m : Value} {S : MkS} (h : RMkAt P w m S) (hg : Grow w w') : RMkAt P w' m S := h.kept (fun k hk => hg.block k (h.lt k hk)) (Below.size hg)
/-- What a call on such a maker leaves as it was. -/
structure RSpare (P : Nat → Prop) (w w' : World) : Prop where
  os : w'.os = w.os
  tape : w'.tape = w.tape
  output : w'.output = w.output
  size : w.heap.size ≤ w'.heap.size
  other : ∀ k, k < w.heap.size → ¬ P k → w'.heap[k]? = w.heap[k]?
  kinds : ∀ b cs t, BlkOf w b cs t → t ≠ 68 → t ≠ 71 → BlkOf w' b cs t
theorem RSpare.of_grow {P : Nat → Prop} {w w' : World} (h : Grow w w') : RSpare P w w' := ⟨h.os, h.tape, h.output, Below.size h, fun k hk _ => h.block k hk, fun _ _ _ hb _ _ => hb.below h hb.lt⟩
theorem RMkAt.spare {P Q : Nat → Prop} {w w' : World} {m : Value} {S : MkS} (h : RMkAt P w m S) (hs : Sparing Q w w') (hd : ∀ k, P k → ¬ Q k) : RMkAt P w' m S :=
  h.kept (fun k hk => hs.other k (h.lt k hk) (hd k hk)) hs.size
theorem MkAt.rspare {P Q : Nat → Prop} {w w' : World} {m : Value} {S : MkS} (h : MkAt P w m S) (hs : RSpare Q w w') (hd : ∀ k, P k → ¬ Q k) : MkAt P w' m S :=
  h.kept (fun k hk => hs.other k (h.lt k hk) (hd k hk)) hs.size
/-- Behind a call on such a maker. -/
def RMkPost (P : Nat → Prop) (m : Value) (w : World) (r : Int × Int × MkS) (e : Ending) (w' : World) : Prop :=
  e = .returned (.tuple #[.int .i64 r.1, .int .i64 r.2.1]) ∧ RSpare P w w' ∧ ∃ P', (∀ k, P k → P' k) ∧ (∀ k, P' k → P k ∨ w.heap.size ≤ k) ∧ RMkAt P' w' m r.2.2
/-- A place that is the first with the same step. -/
theorem sameAt_first {L : List Nd} {x y : Nd} {k : Nat} (h : ∀ j z, j < k → L[j]? = some z → sameNd z x = false) (hy : L[k]? = some y) (hs : sameNd y x = true) : sameAt L x = some k := by
  unfold sameAt
  obtain ⟨hk, e⟩ := List.getElem?_eq_some_iff.1 hy
  rw [List.findIdx?_eq_some_iff_getElem]
  refine ⟨hk, by rw [e]; exact hs, fun j hj => ?_⟩
  rw [h j _ hj (List.getElem?_eq_getElem (by omega))]
  decide
theorem sameAt_never {L : List Nd} {x : Nd} (h : ∀ j z, j < L.length → L[j]? = some z → sameNd z x = false) : sameAt L x = none := by
  unfold sameAt
  rw [List.findIdx?_eq_none_iff]
  intro z hz
  obtain ⟨j, hj⟩ := List.mem_iff_getElem?.1 hz
  exact h j z (List.getElem?_eq_some_iff.1 hj).1 hj
def PutRel (L : List Nd) (x : Nd) (z : Nat) (cs : Array Value) (w : World) (i : Value) (wr : World) : Prop :=
  ∃ k : Nat, k ≤ L.length ∧ i = .int .i64 (k : Int) ∧ (∀ j y, j < k → L[j]? = some y → sameNd y x = false) ∧ BlkOf wr z cs 71 ∧ Grow w wr

set_option maxRecDepth 100000 in
set_option maxHeartbeats 64000000 in
theorem rput_any {P : Nat → Prop} {w : World} {m : Value} {S : MkS} {x : Nd} {vn vd : Value} (h : RMkAt P w m S) (hx : NdIn P w x vn vd) (hxl : x.c.m.length ≤ 3 ∧ x.c.d.length ≤ 3) :
    Calls Tryz.prog 42 #[m, ndV x vn vd] w (RMkPost P m w (rputS S x)) := by
  have h' := h
  obtain ⟨pm, vN, rfl, hPm, hb, hnds, hlow, hlt, hgood⟩ := h'
  obtain ⟨A, cap, rfl, hat⟩ := hnds.form
  have hxok : NdOK 3 w x vn vd := ⟨hx.ok.1, hx.ok.2.1, hx.ok.2.2.1, hx.ok.2.2.2.1, hx.ok.2.2.2.2.1, hxl⟩
  have hat3 : NdsAt 3 w A S.l := fun i y hy => by
    obtain ⟨b, off, un, ud, h1, h2, h3⟩ := hat i y hy
    exact ⟨b, off, un, ud, h1, h2, h3.1, h3.2.1, h3.2.2.1, h3.2.2.2.1, h3.2.2.2.2.1, hlow y (List.mem_of_getElem? hy)⟩
  obtain ⟨an, cn, rfl, _⟩ := hx.2.2.2.1.raw
  obtain ⟨ad, cd, rfl, _⟩ := hx.2.2.2.2.1.raw
  unfold ndV
  obtain ⟨L, hLe⟩ : ∃ L, L = S.l := ⟨_, rfl⟩
  obtain ⟨N, hN⟩ : ∃ N, N = S.l.length := ⟨_, rfl⟩
  obtain ⟨bud, hbud⟩ : ∃ bud, bud = S.budget := ⟨_, rfl⟩
  have HG1 := Lib.hid (Grow.alloc w (.cells #[.int .u8 (x.op : Int), .int .i64 x.a, .int .i64 x.b, .bool x.c.s, .slice an x.c.m.length cn, .slice ad x.c.d.length cd] 71))
  have HBX := Lib.hid (BlkOf.new w #[.int .u8 (x.op : Int), .int .i64 x.a, .int .i64 x.b, .bool x.c.s, .slice an x.c.m.length cn, .slice ad x.c.d.length cd] 71)
  have hNI : (N : Int) ≤ 20000 := by have := hgood.1; have := hgood.2; omega
  have hBI : (bud : Int) ≤ 20000 := by have := hgood.2; omega
  rw [← hN, ← hbud] at hb
  have HH := Lib.hid h
  have HX := Lib.hid hx
  have HXL := Lib.hid hxl
  have HXOK := Lib.hid hxok
  have HPM := Lib.hid hPm
  have HB := Lib.hid hb
  have HN := Lib.hid (show N = L.length by rw [hN, hLe])
  have HLE := Lib.hid hLe
  have HBUD := Lib.hid hbud
  rw [← hLe] at hat3
  have HAT := Lib.hid hat3
  have HGOOD := Lib.hid hgood
  have HNDS := Lib.hid hnds
  have HLT := Lib.hid hlt
  have HLOW := Lib.hid hlow
  have c2 := (hb.alloc (.cells #[.int .u8 (x.op : Int), .int .i64 x.a, .int .i64 x.b, .bool x.c.s, .slice an x.c.m.length cn, .slice ad x.c.d.length cd] 71)).at 2 rfl
  clear h hb hnds hlow hlt hgood hat hat3 hx hxl hxok hPm hLe hN hbud
  go_enter Tryz.func42, Tryz.ntmps42
  go_wp2_with fail
  clear c2
  go_loopw [6] (fun i wr => PutRel L x w.heap.size #[.int .u8 (x.op : Int), .int .i64 x.a, .int .i64 x.b, .bool x.c.s, .slice an x.c.m.length cn, .slice ad x.c.d.length cd] w i wr) (fun i _ => N - (intOf i).toNat)
  case atStart => exact ⟨0, by omega, rfl, fun j y hj => absurd hj (by omega), HBX.out, HG1.out⟩
  case round =>
    obtain ⟨k, hk, rfl, hno, hbx, hgr⟩ := hrel
    have hkN : k ≤ N := by rw [HN.out]; exact hk
    have HNO := Lib.hid hno
    have HBX1 := Lib.hid hbx
    have HGR := Lib.hid hgr
    have hbm := HB.out.below hgr HB.out.lt
    have HBM := Lib.hid hbm
    have t2 := hbm.at 2 rfl
    clear hk hno hbx hgr
    by_cases hlt : k < N
    · have hltI : (k : Int) < (N : Int) := by omega
      obtain ⟨y, hy⟩ : ∃ y, L[k]? = some y := ⟨_, List.getElem?_eq_getElem (by have := HN.out; omega)⟩
      obtain ⟨b1, o1, vy, wy, rfl, hcy, hoky⟩ := HAT.out.grow HGR.out k y hy
      have HOKY := Lib.hid hoky
      have HY := Lib.hid hy
      have hsn := fun W (hW : Grow wr W) => rsamenode_any (show NdOK 3 W y vy wy from ⟨HOKY.out.1, HOKY.out.2.1, HOKY.out.2.2.1, HOKY.out.2.2.2.grow hW⟩) (show NdOK 3 W x _ _ from ⟨HXOK.out.1, HXOK.out.2.1, HXOK.out.2.2.1, HXOK.out.2.2.2.grow (Grow.trans HGR.out hW)⟩)
      obtain ⟨r, hr⟩ : ∃ r, r = sameNd y x := ⟨_, rfl⟩
      rw [← hr] at hsn
      have HR := Lib.hid hr
      obtain ⟨⟨an', cn', rfl, _⟩, ⟨ad', cd', rfl, _⟩, _⟩ := hoky.2.2.2
      unfold ndV at hsn
      have HRT := Lib.hid hsn
      have HCY := Lib.hid hcy
      have KC : Hid (∀ W, Grow wr W → W.cell? ⟨pm, 2, none⟩ = some (.slice (some ⟨b1, o1, none⟩) N cap) ∧ W.cell? ⟨w.heap.size, 0, none⟩ = some (.int .u8 (x.op : Int)) ∧ W.cell? ⟨w.heap.size, 1, none⟩ = some (.int .i64 x.a) ∧ W.cell? ⟨w.heap.size, 2, none⟩ = some (.int .i64 x.b) ∧ W.cell? ⟨w.heap.size, 3, none⟩ = some (.bool x.c.s) ∧ W.cell? ⟨w.heap.size, 4, none⟩ = some (.slice an x.c.m.length cn) ∧ W.cell? ⟨w.heap.size, 5, none⟩ = some (.slice ad x.c.d.length cd) ∧ W.cell? ⟨b1, o1 + k * 6, none⟩ = some (.int .u8 (y.op : Int)) ∧ W.cell? ⟨b1, o1 + k * 6 + 1, none⟩ = some (.int .i64 y.a) ∧ W.cell? ⟨b1, o1 + k * 6 + 2, none⟩ = some (.int .i64 y.b) ∧ W.cell? ⟨b1, o1 + k * 6 + 3, none⟩ = some (.bool y.c.s) ∧ W.cell? ⟨b1, o1 + k * 6 + 4, none⟩ = some (.slice an' y.c.m.length cn') ∧ W.cell? ⟨b1, o1 + k * 6 + 5, none⟩ = some (.slice ad' y.c.d.length cd')) := Lib.hid fun W hW => by
        have q1 := HBM.out.below hW HBM.out.lt
        have q2 := HBX1.out.below hW HBX1.out.lt
        have l2 := World.block_lt_of_cell? wr _ (HCY.out 0 _ rfl)
        have h2 : ∀ j v, (ndCells y (.slice an' y.c.m.length cn') (.slice ad' y.c.d.length cd'))[j]? = some v → W.cell? ⟨b1, o1 + k * 6 + j, none⟩ = some v := fun j v hv => (Below.cell hW (p := ⟨b1, o1 + k * 6 + j, none⟩) l2).trans (HCY.out j v hv)
        exact ⟨q1.at 2 rfl, q2.at 0 rfl, q2.at 1 rfl, q2.at 2 rfl, q2.at 3 rfl, q2.at 4 rfl, q2.at 5 rfl, h2 0 _ rfl, h2 1 _ rfl, h2 2 _ rfl, h2 3 _ rfl, h2 4 _ rfl, h2 5 _ rfl⟩
      clear hy hcy hoky hsn hr hbm
      go_wp2_with fail
      clear t2
      rename_i K0 hK0
      refine wp_region_listG [fun v _ => v = .pointer (some ⟨pm, 0, none⟩), fun v _ => v = .pointer (some ⟨pm, 0, none⟩), fun v _ => v = .pointer (some ⟨pm, 2, none⟩), fun v _ => v = .slice (some ⟨b1, o1, none⟩) N cap, fun v _ => v = .int .i64 (k : Int), fun v _ => v = .pointer (some ⟨b1, o1 + k * 6, none⟩), fun v _ => v = .agg #[.int .u8 (y.op : Int), .int .i64 y.a, .int .i64 y.b, .bool y.c.s, .slice an' y.c.m.length cn', .slice ad' y.c.d.length cd'], fun v _ => v = .agg #[.int .u8 (x.op : Int), .int .i64 x.a, .int .i64 x.b, .bool x.c.s, .slice an x.c.m.length cn, .slice ad x.c.d.length cd]]
        [(0, .pointer (some ⟨pm, 0, none⟩)), (3, .pointer (some ⟨w.heap.size, 0, none⟩)), (6, .int .i64 (k : Int))] 8 (by kernel_rfl) ⟨stays_pure _, stays_pure _, stays_pure _, stays_pure _, stays_pure _, stays_pure _, stays_pure _, stays_pure _, trivial⟩ rfl (by kernel_rfl) rfl ?base (by kernel_rfl) ⟨?_, ?_, ?_, ?_, ?_, ?_, ?_, ?_, trivial⟩ ?last
      case base => simp
      case last =>
        intro vs W hW hv
        simp only [FactsL, Nat.zero_add, Nat.reduceAdd] at hv
        have v6 := hv.2.2.2.2.2.2.1
        have v7 := hv.2.2.2.2.2.2.2.1
        clear hv
        refine ⟨rfl, ?_⟩
        simp only [List.take_succ_cons, List.take_zero, putF, Act.put, List.setIfInBounds_toArray, List.set_cons_zero, List.set_cons_succ, Nat.reduceAdd, v6, v7]
        unfold Oper.wp
        simp [go_sem]
        refine (HRT.out W hW).mono ?_
        rintro e W2 ⟨rfl, hg2⟩
        have HGW := Lib.hid (Grow.trans HGR.out (Grow.trans hW hg2))
        have HBXW := Lib.hid (HBX1.out.below (Grow.trans hW hg2) HBX1.out.lt)
        clear v6 v7
        cases r with
        | true =>
          have HPS : Hid (rputS S x = ((k : Int), 0, S)) := Lib.hid (by unfold rputS; rw [← HLE.out, sameAt_first HNO.out HY.out HR.out.symm])
          refine hK0 _ _ ?_
          go_wp2_with fail
          go_ret2
          rw [HPS.out]
          exact ⟨rfl, RSpare.of_grow HGW.out, P, fun _ h => h, fun _ h => .inl h, HH.out.grow HGW.out⟩
        | false =>
          refine hK0 _ _ ?_
          go_wp2_with fail
          exact ⟨⟨k + 1, by have := HN.out; omega, by go_num, (fun j z hj hz => by
            rcases Nat.lt_or_ge j k with h1 | h1
            · exact HNO.out j z h1 hz
            · obtain rfl : j = k := by omega
              have e := HY.out.symm.trans hz
              cases e
              exact HR.out.symm), HBXW.out, HGW.out⟩, by simp [intOf]; omega⟩
      all_goals
        intro a' W hW hb hf
        obtain ⟨t2, x0, x1, x2, x3, x4, x5, y0, y1, y2, y3, y4, y5⟩ := KC.out W hW
        simp only [List.forall_mem_cons, List.not_mem_nil, false_imp_iff, implies_true, and_true] at hb
        obtain ⟨m0, m3, m6⟩ := hb
        simp [FactsOf, FactAt, Region.binds, factsL] at hf
      · refine .inl ⟨rfl, fun K hK => ?_⟩
        unfold Oper.wp
        simp [execOp, go_sem, *]
        exact hK _ _ (Grow.refl _) rfl
      · refine .inl ⟨rfl, fun K hK => ?_⟩
        unfold Oper.wp
        simp [execOp, go_sem, *]
        exact hK _ _ (Grow.refl _) rfl
      · refine .inl ⟨rfl, fun K hK => ?_⟩
        unfold Oper.wp
        simp [execOp, go_sem, *]
        exact hK _ _ (Grow.refl _) rfl
      · refine .inl ⟨rfl, fun K hK => ?_⟩
        unfold Oper.wp
        simp [execOp, go_sem, *]
        exact hK _ _ (Grow.refl _) rfl
      · refine .inl ⟨rfl, fun K hK => ?_⟩
        unfold Oper.wp
        simp [execOp, go_sem, *]
        exact hK _ _ (Grow.refl _) rfl
      · refine .inl ⟨rfl, fun K hK => ?_⟩
        unfold Oper.wp
        simp [execOp, go_sem, *]
        exact hK _ _ (Grow.refl _) rfl
      · refine .inl ⟨rfl, fun K hK => ?_⟩
        unfold Oper.wp
        simp [execOp, go_sem, *]
        exact hK _ _ (Grow.refl _) rfl
      · refine .inl ⟨rfl, fun K hK => ?_⟩
        unfold Oper.wp
        simp [execOp, go_sem, *]
        exact hK _ _ (Grow.refl _) rfl
    · obtain rfl : k = N := by omega
      have HNONE : Hid (sameAt L x = none) := Lib.hid (sameAt_never (fun j z hj hz => HNO.out j z (by have := HN.out; omega) hz))
      have t0 := hbm.at 0 rfl
      clear hbm
      by_cases hfull : k = bud
      · have HPS : Hid (rputS S x = (0, 171, S)) := Lib.hid (by unfold rputS; rw [← HLE.out, HNONE.out]; simp only; rw [if_pos (by have := HN.out; have := HBUD.out; omega)])
        have hfi : (k : Int) = (bud : Int) := by omega
        go_wp2_with fail
        go_quiet (fail)
        go_wp2_with fail
        go_ret2
        rw [HPS.out]
        exact ⟨rfl, RSpare.of_grow (Grow.trans HGR.out (Grow.drewN wr nq)), P, fun _ h => h, fun _ h => .inl h, HH.out.grow (Grow.trans HGR.out (Grow.drewN wr nq))⟩
      · have HPS : Hid (rputS S x = ((k : Int), 0, { S with l := L ++ [x] })) := Lib.hid (by unfold rputS; rw [← HLE.out, HNONE.out]; simp only; rw [if_neg (by have := HN.out; have := HBUD.out; omega), ← HN.out])
        have hfi : ¬ (k : Int) = (bud : Int) := by omega
        have hfb : ((k : Int) == (bud : Int)) = false := by simp; omega
        go_wp2_with fail
        go_quiet (fail)
        go_wp2_with fail
        obtain ⟨wq, hwq⟩ : ∃ wq, wq = wr.drewN nq := ⟨_, rfl⟩
        have hgq : Grow w wq := by rw [hwq]; exact Grow.trans HGR.out (Grow.drewN wr nq)
        have HBXQ : Hid (BlkOf wq w.heap.size #[.int .u8 (x.op : Int), .int .i64 x.a, .int .i64 x.b, .bool x.c.s, .slice an x.c.m.length cn, .slice ad x.c.d.length cd] 71) := Lib.hid (by rw [hwq]; exact HBX1.out)
        have HBQ := Lib.hid (HB.out.below hgq HB.out.lt)
        have HGQ := Lib.hid hgq
        rw [← hwq]
        obtain ⟨ps, hps, hown0, hoin, hndin⟩ := HNDS.out
        have hLk : S.l.length = k := by rw [← HLE.out]; exact HN.out.symm
        rw [hLk] at hown0 hoin
        obtain ⟨cL, hcL⟩ : ∃ cL, cL = rowCells S.l ps := ⟨_, rfl⟩
        rw [← hcL] at hown0
        obtain ⟨cN, hcN⟩ : ∃ cN, cN = ndCells x (.slice an x.c.m.length cn) (.slice ad x.c.d.length cd) := ⟨_, rfl⟩
        obtain ⟨G, hG⟩ : ∃ G, G = (Value.slice A k cap).ownBlock := ⟨_, rfl⟩
        have hGlt : ∀ g, G = some g → P g ∧ g < w.heap.size ∧ ∃ cur, BlkOf w g cur 71 := fun g hg => by
          rw [hG] at hg
          obtain ⟨_, h2, h3⟩ := ownsRow_own hown0 hg
          exact ⟨hoin g hg, h2, h3⟩
        have HGPM : Hid (G ≠ some pm) := Lib.hid (fun e => by
          obtain ⟨_, _, cur, hc⟩ := hGlt pm e
          have hb := HB.out
          unfold BlkOf at hc hb
          rw [hb] at hc
          injection hc with hc
          injection hc with _ hT
          exact absurd hT (by decide))
        have HGZ : Hid (∀ h, w.heap.size ≤ h → G ≠ some h) := Lib.hid (fun h hh e => by have := (hGlt h e).2.1; omega)
        have HOWN := Lib.hid (ownsRow_kept (P := fun g => g < w.heap.size) (w' := wq) hown0 (fun g hg => (ownsRow_own hown0 hg).2.1) (fun g hg => hgq.block g hg))
        have HGLT := Lib.hid hGlt
        have HGE := Lib.hid hG
        have HCL := Lib.hid (And.intro hcL (And.intro hps hndin))
        have HCN := Lib.hid hcN
        have HCNL : Hid (cN.length = 1 * 6) := Lib.hid (by rw [hcN]; rfl)
        have HOIN := Lib.hid hoin
        have HLK := Lib.hid hLk
        have HONE : Hid (∀ u ∈ cN, u.oneCell' = true) := Lib.hid (by
          rw [hcN]
          unfold ndCells
          intro u hu
          simp only [List.mem_cons, List.not_mem_nil, or_false] at hu
          rcases hu with rfl | rfl | rfl | rfl | rfl | rfl <;> rfl)
        have HCB : Hid (∀ (W : World) (h : Nat), BlkOf W h #[.int .u8 (x.op : Int), .int .i64 x.a, .int .i64 x.b, .bool x.c.s, .slice an x.c.m.length cn, .slice ad x.c.d.length cd] 71 → ∀ j u, cN[j]? = some u → W.cell? ((⟨h, 0, none⟩ : Addr).add j) = some u) := Lib.hid (fun W h hb j u hu => by
          rw [hcN] at hu
          rw [Addr.add_mid, Nat.zero_add, hb.cell j]
          have : (ndCells x (.slice an x.c.m.length cn) (.slice ad x.c.d.length cd))[j]? = (#[.int .u8 (x.op : Int), .int .i64 x.a, .int .i64 x.b, .bool x.c.s, .slice an x.c.m.length cn, .slice ad x.c.d.length cd] : Array Value)[j]? := by simp [ndCells]
          rw [← this]; exact hu)
        have KC : Hid (∀ W, (putRel G (k * 6) (cL ++ cN)).to wq W → W.cell? ⟨pm, 2, none⟩ = some (.slice A k cap) ∧ W.cell? ⟨w.heap.size, 0, none⟩ = some (.int .u8 (x.op : Int)) ∧ W.cell? ⟨w.heap.size, 1, none⟩ = some (.int .i64 x.a) ∧ W.cell? ⟨w.heap.size, 2, none⟩ = some (.int .i64 x.b) ∧ W.cell? ⟨w.heap.size, 3, none⟩ = some (.bool x.c.s) ∧ W.cell? ⟨w.heap.size, 4, none⟩ = some (.slice an x.c.m.length cn) ∧ W.cell? ⟨w.heap.size, 5, none⟩ = some (.slice ad x.c.d.length cd)) := Lib.hid fun W hW => by
          have q1 := put_blk hW HBQ.out HGPM.out
          have q2 := put_blk hW HBXQ.out (HGZ.out _ (Nat.le_refl _))
          exact ⟨q1.at 2 rfl, q2.at 0 rfl, q2.at 1 rfl, q2.at 2 rfl, q2.at 3 rfl, q2.at 4 rfl, q2.at 5 rfl⟩
        clear t0 t2 hwq hgq hps hown0 hoin hndin hcL hcN hG hGlt hLk
        obtain ⟨i5, hi5, hi50, hi51, hi52⟩ := info_parts info_node
        refine wp_region_listR (putRel G (k * 6) (cL ++ cN)) [fun v _ => v = .pointer (some ⟨pm, 0, none⟩), fun v _ => v = .pointer (some ⟨pm, 0, none⟩), fun v _ => v = .pointer (some ⟨pm, 0, none⟩), fun v _ => v = .pointer (some ⟨pm, 2, none⟩), fun v _ => v = .slice A k cap, fun v _ => v = .agg #[.int .u8 (x.op : Int), .int .i64 x.a, .int .i64 x.b, .bool x.c.s, .slice an x.c.m.length cn, .slice ad x.c.d.length cd], fun v W => ∃ h, v = .slice (some ⟨h, 0, none⟩) 1 1 ∧ BlkOf W h #[.int .u8 (x.op : Int), .int .i64 x.a, .int .i64 x.b, .bool x.c.s, .slice an x.c.m.length cn, .slice ad x.c.d.length cd] 71 ∧ G ≠ some h, fun v W => W.ownsRow 0 71 6 v (k + 1) (cL ++ cN) ∧ (v.ownBlock = G ∨ ∃ h, v.ownBlock = some h ∧ w.heap.size ≤ h), fun v _ => v = .pointer (some ⟨pm, 0, none⟩), fun v _ => v = .pointer (some ⟨pm, 2, none⟩)]
          [(0, .pointer (some ⟨pm, 0, none⟩)), (3, .pointer (some ⟨w.heap.size, 0, none⟩))] 10 (by kernel_rfl) ⟨stays_pureR _ _, stays_pureR _ _, stays_pureR _ _, stays_pureR _ _, stays_pureR _ _, stays_pureR _ _, fun v w w' hr h => h.imp fun h1 q => ⟨q.1, put_blk hr q.2.1 q.2.2, q.2.2⟩, fun v w w' hr h => ⟨stays_put (.inr rfl) v w w' hr h.1, h.2⟩, stays_pureR _ _, stays_pureR _ _, trivial⟩ rfl (by kernel_rfl) rfl ?base (by kernel_rfl) ⟨?_, ?_, ?_, ?_, ?_, ?_, ?_, ?_, ?_, ?_, trivial⟩ ?last
        case base => simp
        case last =>
          intro vs W hW hv
          simp only [FactsL, Nat.zero_add, Nat.reduceAdd] at hv
          have v7 := hv.2.2.2.2.2.2.2.1
          have v9 := hv.2.2.2.2.2.2.2.2.2.1
          clear hv
          refine ⟨rfl, ?_⟩
          simp only [List.take_succ_cons, List.take_zero, putF, Act.put, List.setIfInBounds_toArray, List.set_cons_zero, List.set_cons_succ, Nat.reduceAdd, v9]
          obtain ⟨A', c', eV⟩ : ∃ A' c', vs 7 = .slice A' (k + 1) c' := by
            rcases v7.1.2 with ⟨_, h⟩ | ⟨g1, cap1, cur1, e1, _⟩
            · omega
            · exact ⟨_, _, e1⟩
          rw [eV] at v7
          have hbm := put_blk hW HBQ.out HGPM.out
          have u2 := hbm.at 2 rfl
          have z2 := hbm.free 2
          simp only [eV]
          unfold Oper.wp
          simp [execOp, go_sem, u2, z2]
          obtain ⟨W2, hW2⟩ : ∃ W2, W2 = W.setCell ⟨pm, 2, none⟩ (.slice A' (k + 1) c') := ⟨_, rfl⟩
          have hbm2 : BlkOf W2 pm #[.int .i64 (bud : Int), .int .i64 (S.pars : Int), .slice A' (k + 1) c'] 68 := by rw [hW2]; exact hbm.set 2 _
          have q2 := hbm2.at 2 rfl
          have HBM2 := Lib.hid hbm2
          have HW2 := Lib.hid hW2
          have HW := Lib.hid hW
          have HV7 := Lib.hid v7
          rw [← hW2]
          clear hW hW2 v7 v9 u2 z2 hbm hbm2 eV
          go_wp2_with fail
          go_ret2
          rw [HPS.out]
          obtain rfl := HLE.out
          have hLk := HLK.out
          have hsz : W2.heap.size = W.heap.size := by rw [HW2.out, size_set]
          have hs1 := Below.size HGQ.out
          have hs2 := HW.out.1.size
          obtain ⟨hcL, hps, hndin⟩ := HCL.out
          have hstep : ∀ g, g < w.heap.size → g ≠ pm → G ≠ some g → W2.heap[g]? = w.heap[g]? := fun g h1 h2 h3 => by
            rw [HW2.out, Below.heap_setCell _ _ _ _ h2, HW.out.2.1 g (by omega) h3, HGQ.out.block g h1]
          have hsp : RSpare P w W2 := by
            refine ⟨?_, ?_, ?_, by omega, ?_, ?_⟩
            · rw [HW2.out]; show W.os = w.os
              rw [HW.out.1.os, HGQ.out.os]
            · rw [HW2.out]; show W.tape = w.tape
              rw [HW.out.1.tape, HGQ.out.tape]
            · rw [HW2.out]; show W.output = w.output
              rw [HW.out.1.output, HGQ.out.output]
            · intro g hg hn
              exact hstep g hg (fun e => hn (by rw [e]; exact HPM.out)) (fun e => hn (HGLT.out g e).1)
            · intro b cs t hb h1 h2
              refine (hstep b hb.lt (fun e => ?_) (fun e => ?_)).trans hb
              · have hc := HB.out
                unfold BlkOf at hb hc
                rw [e, hc] at hb
                injection hb with hb
                injection hb with _ hT
                exact h1 hT.symm
              · obtain ⟨_, _, cur, hc⟩ := HGLT.out b e
                unfold BlkOf at hb hc
                rw [hc] at hb
                injection hb with hb
                injection hb with _ hT
                exact h2 hT.symm
          have hraw : ∀ {v : Value} {l : List Nat}, RawIn P w v l → RawIn (fun g => P g ∨ (w.heap.size ≤ g ∧ g < W2.heap.size)) W2 v l := fun {v l} hr => by
            refine ⟨?_, hr.2.1, fun g hg => .inl (hr.2.2 g hg)⟩
            refine ownsRow_kept (P := fun g => v.ownBlock = some g) hr.1 (fun g hg => hg) (fun g hg => ?_)
            obtain ⟨_, _, cur, hc⟩ := ownsRow_own hr.1 hg
            exact (hsp.kinds g cur 100 hc (by decide) (by decide)).trans hc.symm
          have hgood : (S.l ++ [x]).length ≤ S.budget ∧ S.budget ≤ 20000 := ⟨by rw [List.length_append, List.length_singleton]; have := HGOOD.out.1; have := HBUD.out; omega, HGOOD.out.2⟩
          refine ⟨by first | rfl | (simp), hsp, fun g => P g ∨ (w.heap.size ≤ g ∧ g < W2.heap.size), fun g h => .inl h, fun g h => h.imp id (·.1), pm, .slice A' (k + 1) c', rfl, .inl HPM.out, by have h1 := HBM2.out; rw [HBUD.out] at h1; exact h1, ?_, ?_, ?_, hgood⟩
          · refine ⟨ps ++ [(.slice an x.c.m.length cn, .slice ad x.c.d.length cd)], by simp [hps], ?_, ?_, ?_⟩
            · rw [rowCells_snoc _ _ hps, ← hcL, ← HCN.out]
              show W2.ownsRow 0 _ 6 _ (S.l ++ [x]).length _
              rw [List.length_append, List.length_singleton, hLk]
              refine ownsRow_kept (P := fun g => g ≠ pm) HV7.out.1 (fun g hg => ?_) (fun g hg => by rw [HW2.out]; exact Below.heap_setCell _ _ _ _ hg)
              rcases HV7.out.2 with h1 | ⟨h, h1, h2⟩
              · rw [h1] at hg; exact fun e => HGPM.out (by rw [← e]; exact hg)
              · rw [h1] at hg
                injection hg with hg
                have := HB.out.lt
                omega
            · intro g hg
              rcases HV7.out.2 with h1 | ⟨h, h1, h2⟩
              · rw [h1] at hg; exact .inl (HGLT.out g hg).1
              · rw [h1] at hg
                injection hg with hg
                obtain ⟨_, h9, _⟩ := ownsRow_own HV7.out.1 (by rw [h1, hg])
                exact .inr ⟨by omega, by rw [hsz]; exact h9⟩
            · intro i y p hy hp
              rcases Nat.lt_or_ge i S.l.length with hi | hi
              · rw [List.getElem?_append_left hi] at hy
                rw [List.getElem?_append_left (by omega)] at hp
                obtain ⟨g1, g2, g3, g4, g5, g6⟩ := hndin i y p hy hp
                exact ⟨g1, g2, g3, hraw g4, hraw g5, g6⟩
              · rw [List.getElem?_append_right hi] at hy
                rw [List.getElem?_append_right (by omega)] at hp
                have h1 : i - S.l.length = 0 := by have := (List.getElem?_eq_some_iff.1 hy).1; simp at this; omega
                rw [h1] at hy
                rw [hps, h1] at hp
                simp at hy hp
                subst hy hp
                obtain ⟨g1, g2, g3, g4, g5, g6⟩ := HX.out
                exact ⟨g1, g2, g3, hraw g4, hraw g5, g6⟩
          · intro y hy
            rcases List.mem_append.1 hy with h1 | h1
            · exact HLOW.out y h1
            · rw [List.mem_singleton.1 h1]; exact HXL.out
          · intro g hg
            rcases hg with h1 | h1
            · have := HLT.out g h1; omega
            · exact h1.2
        all_goals
          intro a' W hW hb hf
          obtain ⟨t2, x0, x1, x2, x3, x4, x5⟩ := KC.out W hW
          simp only [List.forall_mem_cons, List.not_mem_nil, false_imp_iff, implies_true, and_true] at hb
          obtain ⟨m0, m3⟩ := hb
          simp [FactsOf, FactAt, Region.binds, factsL] at hf
        · refine .inl ⟨rfl, fun K hK => ?_⟩
          unfold Oper.wp
          simp [execOp, go_sem, *]
          exact hK _ _ (Rel.refl _ _) rfl
        · refine .inl ⟨rfl, fun K hK => ?_⟩
          unfold Oper.wp
          simp [execOp, go_sem, *]
          exact hK _ _ (Rel.refl _ _) rfl
        · refine .inl ⟨rfl, fun K hK => ?_⟩
          unfold Oper.wp
          simp [execOp, go_sem, *]
          exact hK _ _ (Rel.refl _ _) rfl
        · refine .inl ⟨rfl, fun K hK => ?_⟩
          unfold Oper.wp
          simp [execOp, go_sem, *]
          exact hK _ _ (Rel.refl _ _) rfl
        · refine .inl ⟨rfl, fun K hK => ?_⟩
          unfold Oper.wp
          simp [execOp, go_sem, *]
          exact hK _ _ (Rel.refl _ _) rfl
        · refine .inl ⟨rfl, fun K hK => ?_⟩
          unfold Oper.wp
          simp [execOp, go_sem, *]
          exact hK _ _ (Rel.refl _ _) rfl
        · refine .inl ⟨rfl, fun K hK => ?_⟩
          unfold Oper.wp
          simp [execOp, go_sem, hf]
          exact hK _ _ (put_grow (Grow.alloc _ _)) ⟨_, rfl, BlkOf.new W _ _, HGZ.out _ (Nat.le_trans (Below.size HGQ.out) (Below.size hW.1))⟩
        · refine .inl ⟨rfl, fun K hK => ?_⟩
          have ev : ∀ k, a'.eval (.tmp k) = a'.tmps[k]?.getD undef := fun k => by simp [go_sem]
          obtain ⟨h, e42, hbh, hGh⟩ := hf.2
          refine wp_append_put W (.tmp 40) (.tmp 42) 22 rfl i5 _ 80 Tryz.underlying22 hi5 hi50 hi51 hi52 rfl _ k cL ((ev 40).trans hf.1) (stays_put (.inl (Nat.le_refl _)) _ _ _ hW HOWN.out) ⟨h, 0, none⟩ 1 1 cN ((ev 42).trans e42) HCNL.out (HCB.out W h hbh) HONE.out (by unfold maxLen; omega) (by omega) ?_
          intro v' w' hown hrel hnew
          refine hK _ _ (by rw [HGE.out]; exact hrel) ⟨hown, ?_⟩
          rcases hnew with h1 | h1
          · exact .inl (h1.trans HGE.out.symm)
          · exact .inr ⟨_, h1, Nat.le_trans (Below.size HGQ.out) (Below.size hW.1)⟩
        · refine .inl ⟨rfl, fun K hK => ?_⟩
          unfold Oper.wp
          simp [execOp, go_sem, *]
          exact hK _ _ (Rel.refl _ _) rfl
        · refine .inl ⟨rfl, fun K hK => ?_⟩
          unfold Oper.wp
          simp [execOp, go_sem, *]
          exact hK _ _ (Rel.refl _ _) rfl
end Go.Proofs.YtofpcdjoljjnoaaGreatDoor

namespace Go.Proofs.YtofpcdjoljjnoaaGreatDoor
open Go.RowKit Go.Maps

theorem fld_one {op : Nat} : (fld op 0 = 3 ∧ fld op 1 = 0 ∧ fld op 2 = 0) ↔ (7 ≤ op ∧ op ≤ 11) := by
  by_cases h : op < 12
  · have : ∀ op, op < 12 → ((fld op 0 = 3 ∧ fld op 1 = 0 ∧ fld op 2 = 0) ↔ (7 ≤ op ∧ op ≤ 11)) := by decide
    exact this op h
  · have : fld op 0 = 0 := by
      unfold fld
      have hl : fldL.length = 36 := by decide
      rw [List.getD_eq_getElem?_getD, List.getElem?_eq_none (by omega)]
      rfl
    constructor
    · intro h1; omega
    · intro h1; omega
theorem fld_pair {op : Nat} : (fld op 0 = 3 ∧ fld op 1 = 3 ∧ fld op 2 = 0) ↔ (3 ≤ op ∧ op ≤ 6) := by
  by_cases h : op < 12
  · have : ∀ op, op < 12 → ((fld op 0 = 3 ∧ fld op 1 = 3 ∧ fld op 2 = 0) ↔ (3 ≤ op ∧ op ≤ 6)) := by decide
    exact this op h
  · have : fld op 0 = 0 := by
      unfold fld
      have hl : fldL.length = 36 := by decide
      rw [List.getD_eq_getElem?_getD, List.getElem?_eq_none (by omega)]
      rfl
    constructor
    · intro h1; omega
    · intro h1; omega
theorem bare_zero (op : Nat) (a b : Int) : sameB (bareNd op a b).c ⟨false, [], []⟩ = true := rfl
theorem bare_in {P : Nat → Prop} {w : World} {op : Nat} {a b : Int} (hop : op < 256) (ha : I64 a) (hb : I64 b) : NdIn P w (bareNd op a b) (.slice none 0 0) (.slice none 0 0) := ⟨hop, ha, hb, RawIn.nil _ _, RawIn.nil _ _, by simp [bareNd], by simp [bareNd]⟩
theorem step_one {op : Nat} {a p : Int} {n : Nat} (h : 7 ≤ op ∧ op ≤ 11) : stepB (bareNd op a 0) (n : Int) p = true ↔ 0 ≤ a ∧ a < (n : Int) := by
  rw [stepB_one (x := bareNd op a 0) h (bare_zero _ _ _)]
  simp [bareNd]
  exact and_congr decide_eq_true_iff decide_eq_true_iff
theorem step_two {op : Nat} {a b p : Int} {n : Nat} (h : 3 ≤ op ∧ op ≤ 6) : stepB (bareNd op a b) (n : Int) p = true ↔ 0 ≤ a ∧ a < (n : Int) ∧ 0 ≤ b ∧ b < (n : Int) := by
  rw [stepB_two (x := bareNd op a b) h (bare_zero _ _ _)]
  simp [bareNd, and_assoc]
  exact and_congr decide_eq_true_iff (and_congr decide_eq_true_iff (and_congr decide_eq_true_iff decide_eq_true_iff))
theorem oneS_eq (S : MkS) (op : Nat) (a : Int) : oneS S op a = if (7 ≤ op ∧ op ≤ 11) ∧ 0 ≤ a ∧ a < (S.l.length : Int) then putS S (bareNd op a 0) else (0, 2, S) := by
  unfold oneS ofS
  by_cases h : 7 ≤ op ∧ op ≤ 11
  · by_cases hs : 0 ≤ a ∧ a < (S.l.length : Int)
    · rw [if_pos ⟨fld_one.2 h, (step_one h).2 hs⟩, if_pos ⟨h, hs⟩]
    · rw [if_neg (fun e => hs ((step_one h).1 e.2)), if_neg (fun e => hs e.2)]
  · rw [if_neg (fun e => h (fld_one.1 e.1)), if_neg (fun e => h e.1)]
theorem twoS_eq (S : MkS) (op : Nat) (a b : Int) : twoS S op a b = if (3 ≤ op ∧ op ≤ 6) ∧ 0 ≤ a ∧ a < (S.l.length : Int) ∧ 0 ≤ b ∧ b < (S.l.length : Int) then putS S (bareNd op a b) else (0, 2, S) := by
  unfold twoS ofS
  by_cases h : 3 ≤ op ∧ op ≤ 6
  · by_cases hs : 0 ≤ a ∧ a < (S.l.length : Int) ∧ 0 ≤ b ∧ b < (S.l.length : Int)
    · rw [if_pos ⟨fld_pair.2 h, (step_two h).2 hs⟩, if_pos ⟨h, hs⟩]
    · rw [if_neg (fun e => hs ((step_two h).1 e.2)), if_neg (fun e => hs e.2)]
  · rw [if_neg (fun e => h (fld_pair.1 e.1)), if_neg (fun e => h e.1)]
/-- Behind a call that leaves the maker as it was. -/
theorem rsame_post {P : Nat → Prop} {w w' : World} {m : Value} {S : MkS} {a b : Int} (h : RMkAt P w m S) (hg : Grow w w') : RMkPost P m w (a, b, S) (.returned (.tuple #[.int .i64 a, .int .i64 b])) w' :=
  ⟨rfl, RSpare.of_grow hg, P, fun _ h => h, fun _ h => .inl h, h.grow hg⟩

set_option maxRecDepth 100000 in
set_option maxHeartbeats 4000000 in
theorem rone_any {P : Nat → Prop} {w : World} {m : Value} {S : MkS} {op : Nat} {a : Int} (h : RMkAt P w m S) (hG : Good S) (hopl : op < 256) (ha : I64 a) :
    Calls Tryz.prog 21 #[m, .int .u8 (op : Int), .int .i64 a] w (RMkPost P m w (oneS S op a)) := by
  have HH := Lib.hid h
  obtain ⟨pm, vN, rfl, hPm, hb, hnds, hlow, hlt, hgood⟩ := h
  obtain ⟨A, cap, rfl, hat⟩ := hnds.form
  have HGD := Lib.hid hG
  obtain ⟨N, hN⟩ : ∃ N, N = S.l.length := ⟨_, rfl⟩
  have HN := Lib.hid hN
  have t2 := hb.at 2 rfl
  rw [← hN] at t2
  have HE := Lib.hid (oneS_eq S op a)
  clear hb hnds hlow hlt hat hPm hgood hN hG
  have hc := fun W => isone_any op W
  by_cases c1 : 7 ≤ op ∧ op ≤ 11
  case neg =>
    rw [show (decide (7 ≤ op) && decide (op ≤ 11)) = false by simp; omega] at hc
    have HC := Lib.hid hc
    clear hc
    go_enter Tryz.func21, Tryz.ntmps21
    go_wp2_with (first | (go_at_call 45; refine (HC.out _).mono ?_; rintro e w3 ⟨rfl, rfl⟩) | fail)
    go_ret2
    rw [HE.out, if_neg (fun e => by first | exact c1 e.1 | (have := HN.out; omega))]
    exact rsame_post HH.out (Grow.refl _)
  rw [show (decide (7 ≤ op) && decide (op ≤ 11)) = true by simp; omega] at hc
  have HC := Lib.hid hc
  clear hc
  by_cases k0 : 0 ≤ a
  case neg =>
    have n0 : a < 0 := by omega
    go_enter Tryz.func21, Tryz.ntmps21
    go_wp2_with (first | (go_at_call 45; refine (HC.out _).mono ?_; rintro e w3 ⟨rfl, rfl⟩) | fail)
    go_ret2
    rw [HE.out, if_neg (fun e => by first | exact c1 e.1 | (have := HN.out; omega))]
    exact rsame_post HH.out (Grow.refl _)
  have n0 : ¬ (a < 0) := by omega
  by_cases k1 : a < (N : Int)
  case neg =>
    have n1 : (N : Int) ≤ a := by omega
    go_enter Tryz.func21, Tryz.ntmps21
    go_wp2_with (first | (go_at_call 45; refine (HC.out _).mono ?_; rintro e w3 ⟨rfl, rfl⟩) | fail)
    go_ret2
    rw [HE.out, if_neg (fun e => by first | exact c1 e.1 | (have := HN.out; omega))]
    exact rsame_post HH.out (Grow.refl _)
  have n1 : ¬ ((N : Int) ≤ a) := by omega
  have hst : stepB (bareNd op a 0) (S.l.length : Int) (S.pars : Int) = true := (step_one c1).2 (by have := HN.out; omega)
  have hp := rput_any HH.out (bare_in (P := P) (w := w) (op := op) hopl ha i64_zero) ⟨by simp [bareNd], by simp [bareNd]⟩
  rw [rputS_eq HGD.out hst] at hp
  unfold ndV bareNd at hp
  dsimp only at hp
  have HP := Lib.hid hp
  have HE2 : Hid (oneS S op a = putS S (bareNd op a 0)) := Lib.hid (by rw [HE.out, if_pos (by have := HN.out; omega)])
  clear hp hst
  unfold bareNd at HE2
  rw [HE2.out]
  obtain ⟨r, hr⟩ : ∃ r, r = putS S ⟨op, a, 0, ⟨false, [], []⟩⟩ := ⟨_, rfl⟩
  rw [← hr] at HP ⊢
  obtain ⟨r1, r2, r3⟩ := r
  clear hr
  go_enter Tryz.func21, Tryz.ntmps21
  go_wp2_with (first | (go_at_call 45; refine (HC.out _).mono ?_; rintro e w3 ⟨rfl, rfl⟩) | (go_at_call 42; refine HP.out.mono ?_) | fail)
  rintro e w3 ⟨rfl, hrest⟩
  have HREST := Lib.hid hrest
  clear hrest
  go_wp2_with fail
  go_ret2
  exact ⟨rfl, HREST.out⟩
set_option maxRecDepth 100000 in
set_option maxHeartbeats 4000000 in
theorem rtwo_any {P : Nat → Prop} {w : World} {m : Value} {S : MkS} {op : Nat} {a b : Int} (h : RMkAt P w m S) (hG : Good S) (hopl : op < 256) (ha : I64 a) (hb : I64 b) :
    Calls Tryz.prog 23 #[m, .int .u8 (op : Int), .int .i64 a, .int .i64 b] w (RMkPost P m w (twoS S op a b)) := by
  have HH := Lib.hid h
  obtain ⟨pm, vN, rfl, hPm, hbk, hnds, hlow, hlt, hgood⟩ := h
  obtain ⟨A, cap, rfl, hat⟩ := hnds.form
  have HGD := Lib.hid hG
  obtain ⟨N, hN⟩ : ∃ N, N = S.l.length := ⟨_, rfl⟩
  have HN := Lib.hid hN
  have t2 := hbk.at 2 rfl
  rw [← hN] at t2
  have HE := Lib.hid (twoS_eq S op a b)
  clear hbk hnds hlow hlt hat hPm hgood hN hG
  have hc := fun W => istwo_any op W
  by_cases c1 : 3 ≤ op ∧ op ≤ 6
  case neg =>
    rw [show (decide (3 ≤ op) && decide (op ≤ 6)) = false by simp; omega] at hc
    have HC := Lib.hid hc
    clear hc
    go_enter Tryz.func23, Tryz.ntmps23
    go_wp2_with (first | (go_at_call 31; refine (HC.out _).mono ?_; rintro e w3 ⟨rfl, rfl⟩) | fail)
    go_ret2
    rw [HE.out, if_neg (fun e => by first | exact c1 e.1 | (have := HN.out; omega))]
    exact rsame_post HH.out (Grow.refl _)
  rw [show (decide (3 ≤ op) && decide (op ≤ 6)) = true by simp; omega] at hc
  have HC := Lib.hid hc
  clear hc
  by_cases k0 : 0 ≤ a
  case neg =>
    have n0 : a < 0 := by omega
    go_enter Tryz.func23, Tryz.ntmps23
    go_wp2_with (first | (go_at_call 31; refine (HC.out _).mono ?_; rintro e w3 ⟨rfl, rfl⟩) | fail)
    go_ret2
    rw [HE.out, if_neg (fun e => by first | exact c1 e.1 | (have := HN.out; omega))]
    exact rsame_post HH.out (Grow.refl _)
  have n0 : ¬ (a < 0) := by omega
  by_cases k1 : a < (N : Int)
  case neg =>
    have n1 : (N : Int) ≤ a := by omega
    go_enter Tryz.func23, Tryz.ntmps23
    go_wp2_with (first | (go_at_call 31; refine (HC.out _).mono ?_; rintro e w3 ⟨rfl, rfl⟩) | fail)
    go_ret2
    rw [HE.out, if_neg (fun e => by first | exact c1 e.1 | (have := HN.out; omega))]
    exact rsame_post HH.out (Grow.refl _)
  have n1 : ¬ ((N : Int) ≤ a) := by omega
  by_cases k2 : 0 ≤ b
  case neg =>
    have n2 : b < 0 := by omega
    go_enter Tryz.func23, Tryz.ntmps23
    go_wp2_with (first | (go_at_call 31; refine (HC.out _).mono ?_; rintro e w3 ⟨rfl, rfl⟩) | fail)
    go_ret2
    rw [HE.out, if_neg (fun e => by first | exact c1 e.1 | (have := HN.out; omega))]
    exact rsame_post HH.out (Grow.refl _)
  have n2 : ¬ (b < 0) := by omega
  by_cases k3 : b < (N : Int)
  case neg =>
    have n3 : (N : Int) ≤ b := by omega
    go_enter Tryz.func23, Tryz.ntmps23
    go_wp2_with (first | (go_at_call 31; refine (HC.out _).mono ?_; rintro e w3 ⟨rfl, rfl⟩) | fail)
    go_ret2
    rw [HE.out, if_neg (fun e => by first | exact c1 e.1 | (have := HN.out; omega))]
    exact rsame_post HH.out (Grow.refl _)
  have n3 : ¬ ((N : Int) ≤ b) := by omega
  have hst : stepB (bareNd op a b) (S.l.length : Int) (S.pars : Int) = true := (step_two c1).2 (by have := HN.out; omega)
  have hp := rput_any HH.out (bare_in (P := P) (w := w) (op := op) hopl ha hb) ⟨by simp [bareNd], by simp [bareNd]⟩
  rw [rputS_eq HGD.out hst] at hp
  unfold ndV bareNd at hp
  dsimp only at hp
  have HP := Lib.hid hp
  have HE2 : Hid (twoS S op a b = putS S (bareNd op a b)) := Lib.hid (by rw [HE.out, if_pos (by have := HN.out; omega)])
  clear hp hst
  unfold bareNd at HE2
  rw [HE2.out]
  obtain ⟨r, hr⟩ : ∃ r, r = putS S ⟨op, a, b, ⟨false, [], []⟩⟩ := ⟨_, rfl⟩
  rw [← hr] at HP ⊢
  obtain ⟨r1, r2, r3⟩ := r
  clear hr
  go_enter Tryz.func23, Tryz.ntmps23
  go_wp2_with (first | (go_at_call 31; refine (HC.out _).mono ?_; rintro e w3 ⟨rfl, rfl⟩) | (go_at_call 42; refine HP.out.mono ?_) | fail)
  rintro e w3 ⟨rfl, hrest⟩
  have HREST := Lib.hid hrest
  clear hrest
  go_wp2_with fail
  go_ret2
  exact ⟨rfl, HREST.out⟩

/-- What the document's New tells. -/
def RNewPost (n : Int) (w : World) (e : Ending) (w' : World) : Prop :=
  (1 ≤ n ∧ n ≤ 20000 ∧ ∃ m, e = .returned (.tuple #[m, .int .i64 0]) ∧ Grow w w' ∧ RMkAt (fun k => w.heap.size ≤ k ∧ k < w'.heap.size) w' m ⟨n.toNat, 0, []⟩) ∨
  (¬ (1 ≤ n ∧ n ≤ 20000) ∧ e = .returned (.tuple #[.pointer none, .int .i64 2]) ∧ w' = w)
set_option maxHeartbeats 1000000 in
theorem rnew_any (n : Int) (w : World) : Calls Tryz.prog 14 #[.int .i64 n] w (RNewPost n w) := by
  by_cases h1 : 1 ≤ n
  · have h1' : ¬ n < 1 := by omega
    by_cases h2 : n ≤ 20000
    · have h2' : ¬ 20000 < n := by omega
      go_enter Tryz.func14, Tryz.ntmps14
      go_wp2_with fail
      go_ret2
      obtain ⟨k, rfl⟩ := Int.eq_ofNat_of_zero_le (show 0 ≤ n by omega)
      obtain ⟨W, hW⟩ : ∃ W, W = w.alloc (.cells #[.int .i64 (k : Int), .int .i64 0, .slice none 0 0] 68) := ⟨_, rfl⟩
      have hs : W.heap.size = w.heap.size + 1 := by rw [hW]; simp
      have hp : BlkOf W w.heap.size #[.int .i64 (k : Int), .int .i64 0, .slice none 0 0] 68 := by rw [hW]; exact BlkOf.new _ _ _
      have hg : Grow w W := by rw [hW]; exact Grow.alloc _ _
      refine .inl ⟨h1, h2, _, rfl, Grow.alloc _ _, ?_⟩
      rw [← hW, show (k : Int).toNat = k by simp]
      exact ⟨w.heap.size, .slice none 0 0, rfl, ⟨by omega, by omega⟩, hp, NdsIn.nil _ _, (fun _ h => by cases h), fun k hk => hk.2, by show 0 ≤ k; omega, by show k ≤ 20000; omega⟩
    · have h2' : 20000 < n := by omega
      go_enter Tryz.func14, Tryz.ntmps14
      go_wp2_with fail
      go_ret2
      exact .inr ⟨by omega, rfl, rfl⟩
  · have h1' : n < 1 := by omega
    go_enter Tryz.func14, Tryz.ntmps14
    go_wp2_with fail
    go_ret2
    exact .inr ⟨by omega, rfl, rfl⟩
end Go.Proofs.YtofpcdjoljjnoaaGreatDoor

namespace Go.Proofs.YtofpcdjoljjnoaaGreatDoor
open Go.RowKit Go.Maps

theorem rset_apart {w : World} {pr i : Nat} {cs : Array Value} {x : Value} (hb : BlkOf w pr cs 68) {B e K : Nat} {v : Value} {n : Nat} {xs : List Value} (h : w.ownsRow B e K v n xs) (he : e ≠ 68) : (w.setCell ⟨pr, i, none⟩ x).ownsRow B e K v n xs := by
  refine ownsRow_kept (P := fun g => v.ownBlock = some g) h (fun g hg => hg) (fun g hg => Below.heap_setCell _ _ _ _ (fun e1 => ?_))
  obtain ⟨_, _, cur, hc⟩ := ownsRow_own h hg
  unfold BlkOf at hc hb
  have e2 : g = pr := e1
  rw [e2, hb] at hc
  injection hc with hc
  injection hc with _ hT
  exact he hT.symm
theorem rset_spare {P : Nat → Prop} {w : World} {pr i : Nat} {cs : Array Value} {x : Value} (hb : BlkOf w pr cs 68) (hP : P pr) : RSpare P w (w.setCell ⟨pr, i, none⟩ x) := by
  refine ⟨rfl, rfl, rfl, Nat.le_of_eq (size_set _ _ _).symm, fun k _ hn => Below.heap_setCell _ _ _ _ (fun e => hn (by rw [show k = pr from e]; exact hP)), fun b cs' t hb' h1 _ => ?_⟩
  refine (Below.heap_setCell _ _ _ _ (fun e => ?_)).trans hb'
  have e2 : b = pr := e
  unfold BlkOf at hb hb'
  rw [e2, hb] at hb'
  injection hb' with hb'
  injection hb' with _ hT
  exact h1 hT.symm
theorem RSpare.trans {P P' : Nat → Prop} {a b c : World} (h : RSpare P a b) (k : RSpare P' b c) (hp : ∀ i, P' i → P i ∨ a.heap.size ≤ i) : RSpare P a c :=
  ⟨k.os.trans h.os, k.tape.trans h.tape, k.output.trans h.output, Nat.le_trans h.size k.size, fun i hi hn => (k.other i (Nat.lt_of_lt_of_le hi h.size) (fun e => by rcases hp i e with h1 | h1; exact hn h1; omega)).trans (h.other i hi hn), fun b cs t hb h1 h2 => k.kinds b cs t (h.kinds b cs t hb h1 h2) h1 h2⟩
theorem rset_par {P : Nat → Prop} {w : World} {pm : Nat} {S : MkS} (h : RMkAt P w (.pointer (some ⟨pm, 0, none⟩)) S) (n : Nat) : RMkAt P (w.setCell ⟨pm, 1, none⟩ (.int .i64 (n : Int))) (.pointer (some ⟨pm, 0, none⟩)) { S with pars := n } ∧ RSpare P w (w.setCell ⟨pm, 1, none⟩ (.int .i64 (n : Int))) := by
  obtain ⟨pm', vN, e, h1, h2, ⟨vs, k1, k2, k3, k4⟩, h4, h5, h6⟩ := h
  cases e
  refine ⟨⟨pm, vN, rfl, h1, h2.set 1 _, ⟨vs, k1, rset_apart h2 k2 (by decide), k3, fun i x p hx hp => ?_⟩, h4, fun k hk => by rw [size_set]; exact h5 k hk, h6⟩, rset_spare h2 h1⟩
  obtain ⟨q1, q2, q3, q4, q5, q6⟩ := k4 i x p hx hp
  exact ⟨q1, q2, q3, ⟨rset_apart h2 q4.1 (by decide), q4.2⟩, ⟨rset_apart h2 q5.1 (by decide), q5.2⟩, q6⟩
theorem sameAt_none {L : List Nd} {x : Nd} (h : kyAt (L.map keyN) (keyN x) = none) : sameAt L x = none := by
  refine sameAt_never (fun j z hj hz => ?_)
  cases hs : sameNd z x with
  | false => rfl
  | true =>
    exact absurd (List.mem_map.2 ⟨z, List.mem_of_getElem? hz, key_of_same hs⟩) (kyAt_none h)

set_option maxRecDepth 100000 in
set_option maxHeartbeats 4000000 in
theorem rpar_any {P : Nat → Prop} {w : World} {m : Value} {S : MkS} (h : RMkAt P w m S) (hG : Good S) :
    Calls Tryz.prog 19 #[m] w (RMkPost P m w (parS S)) := by
  have HH := Lib.hid h
  have hp := rput_any h (bare_in (P := P) (w := w) (op := 2) (a := (S.pars : Int)) (b := 0) (by omega) (by have := hG.2.2.1; constructor <;> omega) i64_zero) ⟨by simp [bareNd], by simp [bareNd]⟩
  have hnone : sameAt S.l (parNd S) = none := sameAt_none (par_new hG)
  have hpars : (S.pars : Int) ≤ 200 := by have := hG.2.2.1; omega
  obtain ⟨pm, vN, rfl, hPm, hb, _, _, _, _⟩ := h
  have t1 := hb.at 1 rfl
  by_cases h2 : S.pars = 200
  · have h2i : (S.pars : Int) = 200 := by omega
    have HE : Hid (parS S = (0, 171, S)) := Lib.hid (by unfold parS; rw [if_pos h2])
    rw [HE.out]
    clear hp hnone hb hPm hG
    go_enter Tryz.func19, Tryz.ntmps19
    go_wp2_with fail
    go_ret2
    exact rsame_post HH.out (Grow.refl _)
  · have h2i : ¬ (S.pars : Int) = 200 := by omega
    have h2b : ((S.pars : Int) == 200) = false := by simp; omega
    by_cases hf : S.l.length = S.budget
    · have HE : Hid (parS S = (0, 171, S)) := Lib.hid (by unfold parS; rw [if_neg h2, if_pos hf])
      have hr : rputS S (bareNd 2 (S.pars : Int) 0) = (0, 171, S) := by
        show rputS S (parNd S) = _
        unfold rputS
        rw [hnone]
        simp only
        rw [if_pos hf]
      rw [hr] at hp
      unfold ndV bareNd at hp
      dsimp only at hp
      have HP := Lib.hid hp
      rw [HE.out]
      clear hp hnone hb hPm hG hr hf
      go_enter Tryz.func19, Tryz.ntmps19
      go_wp2_with (first | (go_at_call 42; refine HP.out.mono ?_) | fail)
      rintro e w3 ⟨rfl, hrest⟩
      have HREST := Lib.hid hrest
      clear hrest t1
      go_wp2_with fail
      go_ret2
      exact ⟨rfl, HREST.out⟩
    · have HE : Hid (parS S = ((S.l.length : Int), 0, { S with pars := S.pars + 1, l := S.l ++ [parNd S] })) := Lib.hid (by unfold parS; rw [if_neg h2, if_neg hf])
      have hr : rputS S (bareNd 2 (S.pars : Int) 0) = ((S.l.length : Int), 0, { S with l := S.l ++ [parNd S] }) := by
        show rputS S (parNd S) = _
        unfold rputS
        rw [hnone]
        simp only
        rw [if_neg hf]
      rw [hr] at hp
      unfold ndV bareNd at hp
      dsimp only at hp
      have HP := Lib.hid hp
      rw [HE.out]
      clear hp hnone hb hPm hG hr hf
      go_enter Tryz.func19, Tryz.ntmps19
      go_wp2_with (first | (go_at_call 42; refine HP.out.mono ?_) | fail)
      rintro e w3 ⟨rfl, hsp, P', hP1, hP2, hm⟩
      have HREST := Lib.hid (And.intro hsp (And.intro hP1 (And.intro hP2 hm)))
      obtain ⟨pm', vN', e1, hPm', hb3, _, _, _, _⟩ := hm
      cases e1
      have u1 := hb3.at 1 rfl
      have z1 := hb3.free 1
      clear hsp hP1 hP2 hb3 hPm' t1
      dsimp only at u1
      go_wp2_with fail
      go_ret2
      obtain ⟨hsp, hP1, hP2, hm⟩ := HREST.out
      have h := rset_par hm (S.pars + 1)
      rw [show ((S.pars + 1 : Nat) : Int) = (S.pars : Int) + 1 by omega] at h
      exact ⟨rfl, hsp.trans h.2 hP2, P', hP1, hP2, h.1⟩
end Go.Proofs.YtofpcdjoljjnoaaGreatDoor
