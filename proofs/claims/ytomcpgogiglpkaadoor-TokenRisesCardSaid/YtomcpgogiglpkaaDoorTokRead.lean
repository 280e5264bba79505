/-
  LAYER 11: the program's Read.
-/
import Derived.Test.YtomcpgogiglpkaaDoorTokSeq
import Derived.Maps.OwnIn
import Derived.Laws.ResultCell
import Derived.Scope
namespace Go.Proofs.YtomcpgogiglpkaaDoor
open Go.RowKit Go.Shelf
attribute [local go_sem] Oper.semAt_some wide_fn

/-- A block of cells that may be written. -/
def Blk (W : World) (b : Nat) (cs : Array Value) (t : TypeId) : Prop := W.heap[b]? = some (.cells cs t (0, 0))
theorem size_set (w : World) (a : Addr) (v : Value) : (w.setCell a v).heap.size = w.heap.size := by simp [World.setCell]
section
variable {W W' : World} {b : Nat} {cs : Array Value} {t : TypeId}
theorem Blk.lt (h : Blk W b cs t) : b < W.heap.size := (Array.getElem?_eq_some_iff.1 h).1
theorem Blk.cell (h : Blk W b cs t) (j : Nat) : W.cell? ⟨b, j, none⟩ = cs[j]? := cell_of_row W b j _ _ _ h
theorem Blk.at (h : Blk W b cs t) (j : Nat) {v : Value} (hv : cs[j]? = some v) : W.cell? ⟨b, j, none⟩ = some v := (h.cell j).trans hv
theorem Blk.free (h : Blk W b cs t) (j : Nat) : W.frozen? ⟨b, j, none⟩ = false := by unfold Blk at h; simp [World.frozen?, h]
theorem Blk.stay (h : Blk W b cs t) (s : Stay W W') : Blk W' b cs t := s.2 _ _ _ _ h
theorem Blk.grown {r : Option Nat} (h : Blk W b cs t) (hg : W.grownBy W' r) (hne : some b ≠ r) : Blk W' b cs t := (hg.block b h.lt hne).trans h
theorem Blk.alloc (h : Blk W b cs t) (o : Obj) : Blk (W.alloc o) b cs t := (Below.heap_alloc _ _ _ h.lt).trans h
theorem Blk.drew (h : Blk W b cs t) : Blk W.drew b cs t := h
theorem Blk.drewN (h : Blk W b cs t) (n : Nat) : Blk (W.drewN n) b cs t := h
theorem Blk.other (h : Blk W b cs t) {p : Addr} (hp : p.block ≠ b) (v : Value) : Blk (W.setCell p v) b cs t := (Below.heap_setCell _ _ _ _ (fun e => hp e.symm)).trans h
theorem Blk.set (h : Blk W b cs t) (j : Nat) (v : Value) : Blk (W.setCell ⟨b, j, none⟩ v) b (cs.setIfInBounds j v) t := by
  unfold Blk at h ⊢
  simp [World.setCell, Array.getElem?_modify, h]
theorem Blk.new (W : World) (cs : Array Value) (t : TypeId) : Blk (W.alloc (.cells cs t)) W.heap.size cs t := World.alloc_heap_new W _
end

/-- The cells of a row of tokens. -/
def tkCells (L : List Tk) : List Value := L.flatMap fun t => [.int .u8 ((t.kind : Nat) : Int), .string (mk t.text), .int .i64 ((t.spot : Nat) : Int)]
theorem tkCells_length (L : List Tk) : (tkCells L).length = L.length * 3 := by
  induction L with
  | nil => rfl
  | cons a L ih => simp only [tkCells, List.flatMap_cons, List.length_append, List.length_cons, List.length_nil] at ih ⊢; omega
theorem tkCells_snoc (L : List Tk) (t : Tk) : tkCells (L ++ [t]) = tkCells L ++ [.int .u8 ((t.kind : Nat) : Int), .string (mk t.text), .int .i64 ((t.spot : Nat) : Int)] := by simp [tkCells]
/-- A row of tokens of the call's own, from block B on. -/
def TkRow (B : Nat) (w : World) (v : Value) (L : List Tk) : Prop := w.ownsRow B 35 3 v L.length (tkCells L)
theorem TkRow.nil (B : Nat) (w : World) : TkRow B w (.slice none 0 0) [] := World.ownsRow_nil _ _ _ _
theorem TkRow.stay {B : Nat} {W W' : World} {v : Value} {L : List Tk} (h : TkRow B W v L) (s : Stay W W') : TkRow B W' v L := by
  refine ⟨h.1, ?_⟩
  rcases h.2 with h2 | ⟨g, cap, cur, e, hB, hg, hr⟩
  · exact .inl h2
  · exact .inr ⟨g, cap, cur, e, hB, s.2 _ _ _ _ hg, hr⟩
theorem TkRow.base {B B' : Nat} {W : World} {v : Value} {L : List Tk} (h : TkRow B W v L) (hB : B' ≤ B) : TkRow B' W v L := by
  refine ⟨h.1, ?_⟩
  rcases h.2 with h2 | ⟨g, cap, cur, e, hg, hr⟩
  · exact .inl h2
  · exact .inr ⟨g, cap, cur, e, Nat.le_trans hB hg, hr⟩

theorem TkRow.form {B : Nat} {W : World} {v : Value} {L : List Tk} (h : TkRow B W v L) : ∃ A cap, v = .slice A L.length cap := by
  rcases h.2 with ⟨h2, h3⟩ | ⟨g, cap, cur, e, _⟩
  · exact ⟨none, 0, by rw [h2, h3]⟩
  · exact ⟨_, _, e⟩
theorem TkRow.other {B : Nat} {W : World} {v : Value} {L : List Tk} (h : TkRow B W v L) {p : Addr} (hp : p.block < B) (u : Value) : TkRow B (W.setCell p u) v L := by
  refine ⟨h.1, ?_⟩
  rcases h.2 with h2 | ⟨g, cap, cur, e, hB, hg, hr⟩
  · exact .inl h2
  · exact .inr ⟨g, cap, cur, e, hB, (Below.heap_setCell _ _ _ _ (by omega)).trans hg, hr⟩
theorem TkRow.block {B : Nat} {W : World} {v : Value} {L : List Tk} (h : TkRow B W v L) {g : Nat} (hg : v.ownBlock = some g) : B ≤ g ∧ ∃ cur, W.heap[g]? = some (.cells cur 35 (0, 0)) := by
  rcases h.2 with ⟨h2, _⟩ | ⟨g', cap, cur, e, hB, hh, hr⟩
  · rw [h2] at hg; cases hg
  · rw [e] at hg
    cases hg
    exact ⟨hB, cur, hh⟩
theorem info_tok : (Tryd.prog.info? 35).map (fun i => (i.zero, i.size, i.bytes)) = some (some (.agg #[.int .u8 0, .string ⟨#[]⟩, .int .i64 0]), 3, 32) := by kernel_rfl
/-- A token in a block of its own. -/
theorem tok_new (W : World) (c : Array Value) (t : TypeId) : ∀ j u, c.toList[j]? = some u → (W.alloc (.cells c t)).cell? ((⟨W.heap.size, 0, none⟩ : Addr).add j) = some u := fun j u hu => by
  rw [Addr.add_mid, Nat.zero_add, (Blk.new W c t).cell j]
  simpa using hu
/-- One token more. -/
theorem TkRow.more {B : Nat} {W W1 : World} {v v' : Value} {L : List Tk} {x : Tk} {o : Obj} (h : TkRow B W v L)
    (hown : W1.ownsRow B 35 3 v' (L.length + 1) (tkCells L ++ [.int .u8 ((x.kind : Nat) : Int), .string (mk x.text), .int .i64 ((x.spot : Nat) : Int)])) (hg : (W.alloc o).grownBy W1 v.ownBlock) (hB : B ≤ W.heap.size) :
    TkRow B W1 v' (L ++ [x]) ∧ KeepsOthers W W1 ∧ (∀ b cs ty, Blk W b cs ty → b < B → Blk W1 b cs ty) ∧ Below B W W1 := by
  refine ⟨?_, ?_, ?_, ?_⟩
  · unfold TkRow; rw [List.length_append, tkCells_snoc]; exact hown
  · refine (KeepsOthers.alloc W o).trans (KeepsOthers.of_grownBy hg (fun j ob hj hh => ?_))
    obtain ⟨_, cur, hc⟩ := h.block hj
    have := (Below.heap_alloc W o j (Array.getElem?_eq_some_iff.1 hc).1).trans hc
    rw [this] at hh
    cases hh; rfl
  · intro b cs ty hb hlt
    exact (hb.alloc o).grown hg (fun e => by have := (h.block e.symm).1; omega)
  · exact ((Below.refl _ W).alloc hB o).grown hg (by rw [World.size_alloc]; omega) (fun k hk => (h.block hk).1)

def Halt (p : Prop) : Prop := p
theorem halt {p : Prop} (h : Halt p) : p := h
/-- What Read tells. -/
def ReadPost (s : List UInt8) (w : World) (e : Ending) (w' : World) : Prop :=
  ∃ v, e = .returned (.tuple #[v, .agg #[.int .i64 (((flt s).1 : Nat) : Int), .int .i64 (((flt s).2 : Nat) : Int)]]) ∧ TkRow w.heap.size w' v (told s) ∧ Below w.heap.size w w'

theorem Tab.stay {W W' : World} (h : Tab W) (s : Stay W W') : Tab W' := fun j v hv => by
  have hc := h j v hv
  unfold World.cell? at hc ⊢
  split at hc
  · rename_i cs t fr heq
    rw [s.2 _ _ _ _ heq]; exact hc
  · cases hc
/-- Four new blocks. -/
theorem four_new {w W0 : World} {z : Nat} (hz : z = w.heap.size) (c0 c1 c2 c3 : Array Value) (t0 t1 t2 t3 : TypeId)
    (h : W0 = (((w.alloc (.cells c0 t0)).alloc (.cells c1 t1)).alloc (.cells c2 t2)).alloc (.cells c3 t3)) :
    Blk W0 z c0 t0 ∧ Blk W0 (z + 1) c1 t1 ∧ Blk W0 (z + 2) c2 t2 ∧ Blk W0 (z + 3) c3 t3 ∧ W0.heap.size = z + 4 ∧ Below w.heap.size w W0 := by
  subst h hz
  have b0 := Blk.new w c0 t0
  have b1 := Blk.new (w.alloc (.cells c0 t0)) c1 t1
  have b2 := Blk.new ((w.alloc (.cells c0 t0)).alloc (.cells c1 t1)) c2 t2
  have b3 := Blk.new (((w.alloc (.cells c0 t0)).alloc (.cells c1 t1)).alloc (.cells c2 t2)) c3 t3
  simp only [World.size_alloc, Nat.add_assoc, Nat.reduceAdd] at b1 b2 b3
  refine ⟨((b0.alloc _).alloc _).alloc _, (b1.alloc _).alloc _, b2.alloc _, b3, by simp only [World.size_alloc], ?_⟩
  exact ((((Below.refl _ w).alloc (Nat.le_refl _) _).alloc (by simp only [World.size_alloc]; omega) _).alloc (by simp only [World.size_alloc]; omega) _).alloc (by simp only [World.size_alloc]; omega) _

/-- A result of the call's own, and one in a block. -/
theorem results_tmp_cell {P : Program} {fn : Func} {t p : Tmp} {ty : TypeId} (h : fn.results = #[.tmp t, .cell p ty]) (tmps : Array Value) (w : World) (g : Nat) (T : TypeId) (cs : Array Value) (d : TypeDesc)
    (hp : tmps.getD p undef = .pointer (some ⟨g, 0, none⟩)) (hg : Blk w g cs T) (hu : P.underlying ty = some d) (hd : (match d with | .struct _ | .array _ _ => true | _ => false) = true) (hi : (P.info? ty).map (·.size) = some cs.size) :
    (results fn tmps).run P w = .ok (.tuple #[tmps.getD t undef, .agg cs]) w := by
  have hp' : tmps[p]?.getD undef = .pointer (some ⟨g, 0, none⟩) := by simpa using hp
  simp [results, h, hp', asAddr, run_loadVar_row w g T ty cs (0, 0) d hg hu hd hi]
theorem stay_put {W : World} {l : Nat} {o0 o : Obj} (h : W.heap[l]? = some o0) (h0 : o0.isCells = false) : Stay W (W.putObj l o) := by
  refine ⟨(grownBy_putObj' W l o).size, fun b cs t fr hb => ?_⟩
  have hne : b ≠ l := by
    intro e
    rw [e, h] at hb
    cases hb; cases h0
  exact (World.putObj_heap_other hne).trans hb
theorem info_fault : (Tryd.prog.info? 26).map (·.size) = some 2 := by kernel_rfl

/-- Between two rounds. -/
def ReadAt (z : Nat) (s : List UInt8) (w : World) (k : Nat) (W : World) : Prop :=
  ∃ v, TkRow (z + 4) W v (tks s k) ∧ Blk W z #[.int .i64 0, .int .i64 0] 26 ∧ Blk W (z + 1) #[v] 23 ∧ Blk W (z + 2) #[.int .i64 0, .int .i64 0] 26 ∧ Blk W (z + 3) #[.string (mk s)] 9 ∧
    k ≤ 6000 ∧ (bad s = true → k ≤ tkN s) ∧ z + 4 ≤ W.heap.size ∧ Tab W ∧ Below z w W
/-- A round has been left. -/
def ReadOut (z : Nat) (s : List UInt8) (w : World) (_ : Nat) (W : World) : Prop :=
  ∃ v, Blk W z #[.int .i64 0, .int .i64 0] 26 ∧ Blk W (z + 1) #[v] 23 ∧ Blk W (z + 2) #[.int .i64 (((flt s).1 : Nat) : Int), .int .i64 (((flt s).2 : Nat) : Int)] 26 ∧ (flt s).1 ≠ 0 ∧ z + 4 ≤ W.heap.size ∧ Below z w W
/-- In a round: the token lies in a box of its own. -/
def ReadAx (z : Nat) (s : List UInt8) (k : Nat) (a : Act) (W : World) : Prop :=
  ∃ bx, z + 4 ≤ bx ∧ Blk W bx #[.int .u8 (((tk s k).kind : Nat) : Int), .string (mk (tk s k).text), .int .i64 (((tk s k).spot : Nat) : Int)] 35 ∧
    a = { tmps := #[.string (mk s), undef, .slice none 0 0, .pointer (some ⟨z, 0, none⟩), .pointer (some ⟨z + 1, 0, none⟩), .pointer (some ⟨z + 2, 0, none⟩), .pointer (some ⟨bx, 0, none⟩), .string (mk s),
      .int .i64 ((s.length : Nat) : Int), .bool (decide (20000 < ((s.length : Nat) : Int))), undef, .string (mk s), .func (.func 22) #[] #[.pointer (some ⟨z + 3, 0, none⟩)],
      .agg #[.int .u8 (((tk s k).kind : Nat) : Int), .string (mk (tk s k).text), .int .i64 (((tk s k).spot : Nat) : Int)], undef,
      undef, undef, undef, undef, undef, undef, undef, undef, undef, undef, undef, undef, undef, undef, undef, undef, undef, undef, undef, undef, undef, undef, undef], defers := [] }

theorem ReadAt.stay {z : Nat} {s : List UInt8} {w : World} {k : Nat} {W W' : World} (hs : Stay W W') (hb : Below (z + 4) W W') (h : ReadAt z s w k W) : ReadAt z s w k W' := by
  obtain ⟨v, h1, b0, b1, b2, b3, h2, h3, h4, h5, h6⟩ := h
  exact ⟨v, h1.stay hs, b0.stay hs, b1.stay hs, b2.stay hs, b3.stay hs, h2, h3, Nat.le_trans h4 hs.1, h5.stay hs, h6.trans (hb.mono (by omega))⟩
theorem ReadOut.stay {z : Nat} {s : List UInt8} {w : World} {k : Nat} {W W' : World} (hs : Stay W W') (hb : Below (z + 4) W W') (h : ReadOut z s w k W) : ReadOut z s w k W' := by
  obtain ⟨v, b0, b1, b2, h2, h4, h6⟩ := h
  exact ⟨v, b0.stay hs, b1.stay hs, b2.stay hs, h2, Nat.le_trans h4 hs.1, h6.trans (hb.mono (by omega))⟩
theorem ReadAx.stay {z : Nat} {s : List UInt8} {k : Nat} {a : Act} {W W' : World} (hs : Stay W W') (h : ReadAx z s k a W) : ReadAx z s k a W' := by
  obtain ⟨bx, h1, h2, h3⟩ := h
  exact ⟨bx, h1, h2.stay hs, h3⟩

set_option maxRecDepth 100000 in
set_option maxHeartbeats 2000000 in
theorem read_any (s : List UInt8) (w : World) (hT : Tab w) :
    Calls Tryd.prog 9 #[.string (mk s)] w (ReadPost s w) := by
  obtain ⟨z, hz⟩ : ∃ z, z = w.heap.size := ⟨_, rfl⟩
  have HZ := Lib.hid hz
  clear hz
  have hsz := mk_size s
  by_cases hl : 20000 < s.length
  · have hl1 : (20000 : Int) < (s.length : Int) := by omega
    go_enter Tryd.func9, Tryd.ntmps9
    go_wp2
    refine wp_scope_straight ?_
    go_wp2
    have hfl : flt s = (3, 0) := by unfold flt; rw [if_pos hl]
    have htd : told s = [] := by unfold told; rw [hfl]; rfl
    show bodyPost Tryd.prog Tryd.f9 (ReadPost s w) Exit.ret _ _
    refine bodyPost_ret (results_tmp_cell rfl _ _ w.heap.size _ _ _ rfl (Blk.new w _ _) Tryd.underlying26 rfl info_fault) rfl ?_
    exact ⟨.slice none 0 0, by rw [hfl]; rfl, by rw [htd]; exact TkRow.nil _ _, (Below.refl _ _).alloc (Nat.le_refl _) _⟩
  · have hl1 : (s.length : Int) ≤ 20000 := by omega
    refine (callsIn_wide (n := 3)).1 ?_
    refine callsIn_of_wp_marks Tryd.func9 rfl trivial ?_ rfl
    simp only [Tryd.ntmps9, List.size_toArray, List.length_cons, List.length_nil, Nat.reduceAdd, Nat.reduceSub, Array.replicate_succ, Array.replicate_zero, List.push_toArray, List.append_toArray, List.nil_append, List.cons_append]
    gi_wp2
    refine wpIn_wide.2 (wp_scope_straight ((wpIn_wide (n := 3)).1 ?_))
    gi_wp2
    refine wpIn_label ?_
    gi_wp2_with (gi_at_call 14; refine (callsIn_wide.2 (tokens_any s _)).mono ?_; rintro e w' ⟨rfl, rfl⟩)
    rw [← HZ.out]
    simp only [Nat.add_assoc, Nat.reduceAdd]
    generalize hW : (((w.alloc (.cells #[.int .i64 0, .int .i64 0] 26)).alloc (.cells #[.slice none 0 0] 23)).alloc (.cells #[.int .i64 0, .int .i64 0] 26)).alloc (.cells #[.string (mk s)] 9) = W0
    obtain ⟨b0, b1, b2, b3, hs0, hbw⟩ := four_new HZ.out _ _ _ _ _ _ _ _ hW.symm
    have hT0 := hT.below hbw
    have HW : ReadAt z s w 0 W0 := ⟨.slice none 0 0, TkRow.nil _ _, b0, b1, b2, b3, by omega, fun _ => Nat.zero_le _, by omega, hT0, by rw [HZ.out]; exact hbw⟩
    clear hW b0 b1 b2 b3 hbw hT0
    refine wpIn_range_to (m := 1) (c := 0) (gf := 22) (lb := #[.pointer (some ⟨z + 3, 0, none⟩)]) rfl (enters_of Tryd.func22 (by kernel_rfl) rfl) (tokens_seq (z + 3) s (by omega)) (fun _ => rfl)
      (ReadAt z s w) (ReadOut z s w) (ReadAx z s) (fun k W W' hs hb h => h.stay hs (by rw [← hs0]; exact hb)) (fun k W W' hs hb h => h.stay hs (by rw [← hs0]; exact hb)) (fun k a W W' hs h => h.stay hs)
      (fun k W h => by obtain ⟨v, _, _, _, _, _, _, _, h4, _⟩ := h; omega) (fun k W h => by obtain ⟨v, _, _, _, _, h4, _⟩ := h; omega)
      (fun k W h => by obtain ⟨v, _, _, _, _, b3, _, _, _, h5, _⟩ := h; exact ⟨b3.cell 0, h5⟩)
      (fun hm W h => by
        obtain ⟨v, _, _, _, _, _, _, h3, _⟩ := h
        have := h3 hm
        unfold rounds at this; rw [hm] at this; simp at this; omega)
      HW ?assign ?body ?done ?stop
    case assign =>
      intro l k W K hk hi hK
      simp only [tkV]
      gi_wp2
      have hs4 : W0.heap.size ≤ W.heap.size := by obtain ⟨v, _, _, _, _, _, _, _, h4, _⟩ := hi; omega
      have hb4 := (Below.refl W.heap.size W).alloc (Nat.le_refl _) (.cells #[.int .u8 (((tk s k).kind : Nat) : Int), .string (mk (tk s k).text), .int .i64 (((tk s k).spot : Nat) : Int)] 35)
      exact hK _ _ (KeepsOthers.alloc _ _) (Stay.of_below hb4) (hb4.mono hs4) ⟨W.heap.size, by omega, Blk.new _ _ _, rfl⟩
    case body =>
      rintro l k a' W hk ⟨v, hv, b0, b1, b2, b3, h6, hbd, hs4, hT1, hbw⟩ ⟨bx, hbx, bB, rfl⟩
      obtain ⟨hne, hkN⟩ := tok_at hk
      obtain ⟨A, cap, rfl⟩ := hv.form
      rw [tks_length] at b1
      have hkd : ((tk s k).kind = 0 ∧ k = tkN s ∧ bad s = true) ∨ (0 < (tk s k).kind ∧ k < tkN s) := by
        rcases hkN with h | ⟨h, hb⟩
        · have := (live_iff.1 (live_lt h)).2
          exact .inr ⟨by show 0 < (tok (st s k)).1; omega, h⟩
        · exact .inl ⟨by rw [h]; exact (bad_tok hb).2, h, hb⟩
      dsimp only
      obtain ⟨⟨K, T, S⟩, hx⟩ : ∃ x, x = tk s k := ⟨_, rfl⟩
      rw [← hx] at bB hkd ⊢
      have HX := Lib.hid hx
      clear hx
      dsimp only at bB hkd ⊢
      have hx0 := bB.at 0 (v := .int .u8 (K : Int)) rfl
      have hx1 := bB.at 1 (v := .string (mk T)) rfl
      have hx2 := bB.at 2 (v := .int .i64 (S : Int)) rfl
      have hc1 := b1.at 0 (v := .slice A k cap) rfl
      have hf1 := b1.free 0
      have hc20 := b2.at 0 (v := .int .i64 0) rfl
      have hc21 := b2.at 1 (v := .int .i64 0) rfl
      have hf20 := b2.free 0
      have hf21 := b2.free 1
      have HKD := Lib.hid hkd
      have HV := Lib.hid hv
      clear hkd hv hkN
      by_cases h0 : K = 0
      · have h0' : ((K : Int) == 0) = true := by rw [h0]; rfl
        have H0 := Lib.hid h0
        clear h0
        gi_wp2
        have hf : flt s = (110, S) := by
          rcases HKD.out with ⟨_, h2, h3⟩ | ⟨h1, _⟩
          · unfold flt
            rw [if_neg hl, if_neg (by omega), if_pos h3, ← h2, ← HX.out]
          · have := H0.out; omega
        refine ⟨rfl, (KeepsOthers.setCell _ _ _).trans (KeepsOthers.setCell _ _ _), .slice A k cap, (b0.other (by show z + 2 ≠ z; omega) _).other (by show z + 2 ≠ z; omega) _, (b1.other (by show z + 2 ≠ z + 1; omega) _).other (by show z + 2 ≠ z + 1; omega) _, ?_, by rw [hf]; simp, ?_, ?_⟩
        · rw [hf]; exact (b2.set 0 (.int .i64 110)).set 1 (.int .i64 (S : Int))
        · rw [size_set, size_set]; exact hs4
        · exact (hbw.setCell (p := ⟨z + 2, 0, none⟩) (by show z ≤ z + 2; omega) _).setCell (p := ⟨z + 2, 1, none⟩) (by show z ≤ z + 2; omega) _
      · have h0' : ((K : Int) == 0) = false := by rw [beq_eq_false_iff_ne]; omega
        have H0 := Lib.hid h0
        clear h0
        have hkt : k < tkN s := by
          rcases HKD.out with ⟨h1, _⟩ | ⟨_, h2⟩
          · exact absurd h1 H0.out
          · exact h2
        have HKT := Lib.hid hkt
        clear hkt
        by_cases hk6 : k = 6000
        · have hk6' : ((k : Int) == 6000) = true := by rw [hk6]; rfl
          have HK6 := Lib.hid hk6
          clear hk6
          gi_wp2
          have hf : flt s = (6, S) := by
            have h2 := HKT.out
            have h3 := HK6.out
            unfold flt
            rw [if_neg hl, if_pos (by omega), ← h3, ← HX.out]
          refine ⟨rfl, (KeepsOthers.setCell _ _ _).trans (KeepsOthers.setCell _ _ _), .slice A k cap, (b0.other (by show z + 2 ≠ z; omega) _).other (by show z + 2 ≠ z; omega) _, (b1.other (by show z + 2 ≠ z + 1; omega) _).other (by show z + 2 ≠ z + 1; omega) _, ?_, by rw [hf]; simp, ?_, ?_⟩
          · rw [hf]; exact (b2.set 0 (.int .i64 6)).set 1 (.int .i64 (S : Int))
          · rw [size_set, size_set]; exact hs4
          · exact (hbw.setCell (p := ⟨z + 2, 0, none⟩) (by show z ≤ z + 2; omega) _).setCell (p := ⟨z + 2, 1, none⟩) (by show z ≤ z + 2; omega) _
        · have hk6' : ((k : Int) == 6000) = false := by rw [beq_eq_false_iff_ne]; omega
          have HK6 := Lib.hid hk6
          clear hk6
          obtain ⟨i0, hi, hz0, hz1, hz2⟩ := info_parts info_tok
          have hv2 := HV.out
          rw [tks_length] at hv2
          have hown := hv2
          unfold TkRow at hown
          rw [tks_length] at hown
          have HOWN := Lib.hid hown
          have HV2 := Lib.hid hv2
          clear hown hv2
          gi_wp2_with (
            (gi_at_builtin
             refine wpListIn_append_own_at _ rfl (.tmp 14) (.tmp 16) 23 rfl (z + 4) 35 i0 _ 3 32 Tryd.underlying23 hi hz0 hz1 hz2 rfl (by decide) (.slice A k cap) k _ rfl (HOWN.out.alloc _) ⟨W.heap.size, 0, none⟩ 1 1
               [.int .u8 (K : Int), .string (mk T), .int .i64 (S : Int)] rfl rfl (tok_new W _ _) ?c2 ?c3 ?c4 ?c5 ?_
             case c2 => intro u hu; simp at hu; rcases hu with rfl | rfl | rfl <;> rfl
             case c3 => unfold maxLen; omega
             case c4 => omega
             case c5 => rw [World.size_alloc]; omega
             intro v1 w1 hown1 hg1 _ _
             obtain ⟨hrow, hko, hblk, hbel⟩ := TkRow.more (x := ⟨K, T, S⟩) HV2.out (by rw [tks_length]; exact hown1) hg1 hs4
             obtain ⟨A1, cap1, rfl⟩ := hrow.form
             have hb1 := hblk _ _ _ b1 (by omega)
             have hc1' := hb1.at 0 (v := .slice A k cap) rfl
             have hf1' := hb1.free 0))
          have hlen : (tks s k ++ [(⟨K, T, S⟩ : Tk)]).length = (tks s k).length + 1 := by simp
          rw [hlen] at hrow
          have hbel2 : Below z w (w1.setCell ⟨z + 1, 0, none⟩ (.slice A1 ((tks s k).length + 1) cap1)) := (hbw.trans (hbel.mono (by omega))).setCell (p := ⟨z + 1, 0, none⟩) (by show z ≤ z + 1; omega) _
          refine ⟨hko.trans (KeepsOthers.setCell _ _ _), .slice A1 ((tks s k).length + 1) cap1, ?_, (hblk _ _ _ b0 (by omega)).other (by show z + 1 ≠ z; omega) _, hb1.set 0 _, (hblk _ _ _ b2 (by omega)).other (by show z + 1 ≠ z + 2; omega) _,
            (hblk _ _ _ b3 (by omega)).other (by show z + 1 ≠ z + 3; omega) _, by have := HK6.out; omega, fun _ => HKT.out, ?_, hT.below (by rw [← HZ.out]; exact hbel2), hbel2⟩
          · rw [tks_succ, ← HX.out]
            exact hrow.other (by show z + 1 < z + 4; omega) _
          · rw [size_set]; have := hko.size; omega
    case done =>
      rintro D W hD ⟨v, hv, b0, b1, b2, b3, h6, hbd, hs4, hT1, hbw⟩ hK
      have hc1 := b1.at 0 (v := v) rfl
      have hc20 := b2.at 0 (v := .int .i64 0) rfl
      have hc21 := b2.at 1 (v := .int .i64 0) rfl
      have hc0 := b0.at 0 (v := .int .i64 0) rfl
      have hc01 := b0.at 1 (v := .int .i64 0) rfl
      have hf0 := b0.free 0
      have hf01 := b0.free 1
      have hW2 : Below z w ((W.setCell ⟨z, 0, none⟩ (.int .i64 0)).setCell ⟨z, 1, none⟩ (.int .i64 0)).drew := (((hbw.setCell (p := ⟨z, 0, none⟩) (by show z ≤ z; omega) _).setCell (p := ⟨z, 1, none⟩) (by show z ≤ z; omega) _)).drew
      have hB2 : Blk ((W.setCell ⟨z, 0, none⟩ (.int .i64 0)).setCell ⟨z, 1, none⟩ (.int .i64 0)).drew z #[.int .i64 0, .int .i64 0] 26 := (b0.set 0 (.int .i64 0)).set 1 (.int .i64 0)
      have hV2 : TkRow (z + 4) ((W.setCell ⟨z, 0, none⟩ (.int .i64 0)).setCell ⟨z, 1, none⟩ (.int .i64 0)).drew v (tks s (rounds s)) := (hv.other (p := ⟨z, 0, none⟩) (by show z < z + 4; omega) _).other (p := ⟨z, 1, none⟩) (by show z < z + 4; omega) _
      have hS2 : z + 4 ≤ ((W.setCell ⟨z, 0, none⟩ (.int .i64 0)).setCell ⟨z, 1, none⟩ (.int .i64 0)).drew.heap.size := by
        show z + 4 ≤ ((W.setCell ⟨z, 0, none⟩ (.int .i64 0)).setCell ⟨z, 1, none⟩ (.int .i64 0)).heap.size
        rw [size_set, size_set]; exact hs4
      have hK2 : ((W.setCell ⟨z, 0, none⟩ (.int .i64 0)).setCell ⟨z, 1, none⟩ (.int .i64 0)).drew.heap[D]? = some (.deferred (some [])) := ((KeepsOthers.setCell _ _ _).trans (KeepsOthers.setCell _ _ _)).same _ _ hK rfl
      have hbf : bad s = false := by
        cases hb : bad s
        · rfl
        · have h1 := hbd hb
          unfold rounds at h1; rw [hb] at h1; simp at h1; omega
      have hrn : rounds s = tkN s := by unfold rounds; rw [hbf]; rfl
      have hfl : flt s = (0, 0) := by
        unfold flt
        rw [if_neg hl, if_neg (by omega), hbf]; rfl
      have htd : told s = tks s (rounds s) := by unfold told; rw [hfl, hrn]; rfl
      have HS := Lib.hid (And.intro hW2 (And.intro hB2 (And.intro hV2 (And.intro hS2 (And.intro hK2 (And.intro hfl htd))))))
      clear hW2 hB2 hV2 hS2 hK2 hbf hrn hfl htd
      gi_wp2
      gi_region
      gi_wp2
      obtain ⟨hW2, hB2, hV2, hS2, hK2, hfl, htd⟩ := HS.out
      show bodyPostM Fence.wide 3 Tryd.prog Tryd.f9 (ReadPost s w) Exit.ret _ _
      refine ⟨by simp, .inl ⟨_, _, rfl, run_takeDeferred hK2, ?_⟩⟩
      have st2 : Stay _ (World.putObj _ D (.deferred none)) := stay_put hK2 rfl
      refine ⟨_, results_tmp_cell rfl _ _ z _ _ _ rfl (hB2.stay st2) Tryd.underlying26 rfl info_fault, ?_⟩
      exact ⟨v, by rw [hfl]; rfl, by rw [htd, ← HZ.out]; exact (hV2.stay st2).base (by omega), by rw [← HZ.out]; exact hW2.trans (below_putObj _ _ _ (by omega) (by omega))⟩
    case stop =>
      rintro D k W hD hk ⟨v, b0, b1, b2, h2, hs4, hbw⟩ hK
      have hc1 := b1.at 0 (v := v) rfl
      have hc20 := b2.at 0 (v := .int .i64 (((flt s).1 : Nat) : Int)) rfl
      have hc21 := b2.at 1 (v := .int .i64 (((flt s).2 : Nat) : Int)) rfl
      have hc0 := b0.at 0 (v := .int .i64 0) rfl
      have hc01 := b0.at 1 (v := .int .i64 0) rfl
      have hf0 := b0.free 0
      have hf01 := b0.free 1
      obtain ⟨E, hE⟩ : ∃ E, E = (flt s).1 := ⟨_, rfl⟩
      obtain ⟨S, hSS⟩ : ∃ S, S = (flt s).2 := ⟨_, rfl⟩
      rw [← hE] at h2 hc20
      rw [← hSS] at hc21
      have hne : ((E : Int) != 0) = true := by
        have : (E : Int) ≠ 0 := by omega
        simpa using this
      have hW2 : Below z w ((W.setCell ⟨z, 0, none⟩ (.int .i64 E)).setCell ⟨z, 1, none⟩ (.int .i64 S)).drew := (((hbw.setCell (p := ⟨z, 0, none⟩) (by show z ≤ z; omega) _).setCell (p := ⟨z, 1, none⟩) (by show z ≤ z; omega) _)).drew
      have hB2 : Blk ((W.setCell ⟨z, 0, none⟩ (.int .i64 E)).setCell ⟨z, 1, none⟩ (.int .i64 S)).drew z #[.int .i64 E, .int .i64 S] 26 := (b0.set 0 (.int .i64 E)).set 1 (.int .i64 S)
      have hS2 : z + 4 ≤ ((W.setCell ⟨z, 0, none⟩ (.int .i64 E)).setCell ⟨z, 1, none⟩ (.int .i64 S)).drew.heap.size := by
        show z + 4 ≤ ((W.setCell ⟨z, 0, none⟩ (.int .i64 E)).setCell ⟨z, 1, none⟩ (.int .i64 S)).heap.size
        rw [size_set, size_set]; exact hs4
      have hK2 : ((W.setCell ⟨z, 0, none⟩ (.int .i64 E)).setCell ⟨z, 1, none⟩ (.int .i64 S)).drew.heap[D]? = some (.deferred (some [])) := ((KeepsOthers.setCell _ _ _).trans (KeepsOthers.setCell _ _ _)).same _ _ hK rfl
      have htd : told s = [] := by unfold told; rw [← hE, if_neg h2]
      have HS := Lib.hid (And.intro hW2 (And.intro hB2 (And.intro hS2 (And.intro hK2 htd))))
      have HE := Lib.hid (And.intro hE hSS)
      clear hW2 hB2 hS2 hK2 htd hE hSS h2 b2
      gi_wp2
      gi_region
      gi_wp2
      obtain ⟨hW2, hB2, hS2, hK2, htd⟩ := HS.out
      show bodyPostM Fence.wide 3 Tryd.prog Tryd.f9 (ReadPost s w) Exit.ret _ _
      refine ⟨by simp, .inl ⟨_, _, rfl, run_takeDeferred hK2, ?_⟩⟩
      have st2 : Stay _ (World.putObj _ D (.deferred none)) := stay_put hK2 rfl
      refine ⟨_, results_tmp_cell rfl _ _ z _ _ _ rfl (hB2.stay st2) Tryd.underlying26 rfl info_fault, ?_⟩
      exact ⟨.slice none 0 0, by rw [HE.out.1, HE.out.2]; rfl, by rw [htd]; exact TkRow.nil _ _, by rw [← HZ.out]; exact hW2.trans (below_putObj _ _ _ (by omega) (by omega))⟩
end Go.Proofs.YtomcpgogiglpkaaDoor
