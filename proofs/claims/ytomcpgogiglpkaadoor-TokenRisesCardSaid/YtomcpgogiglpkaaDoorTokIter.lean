/-
  LAYER 11: a range over a function whose rounds are numbered, whose last round must be left, whose variable lies in a box; it may be left by a break.
-/
import Derived.Test.YtomcpgogiglpkaaDoorTokTrim
import Derived.RangeFuncNested
import Derived.RangeFuncBound
import Derived.RangeFuncCalls
import Derived.RangeFuncLeaves
import Derived.Shelf.Abstract
import Derived.Shelf.RegionOpen
import Derived.WalkKit
import Derived.OwnWalkIn
import Derived.TacticsInMore
import Derived.LoopNIn
import Derived.LoopIn
namespace Go.Proofs.YtomcpgogiglpkaaDoor
open Go.RowKit Go.Shelf

/-- A function that is ranged over, whose rounds are numbered: round k hands over 'args k', there are N of them, and ahead of round k it reads what 'Rd k' says; with 'must' the last round has to be left. -/
def SeqTo (P : Program) (gf : Nat) (lb : Array Value) (N : Nat) (must : Bool) (args : Nat → Array Value) (Rd : Nat → World → Prop) : Prop :=
  ∀ (m l : Nat) (J Jx : Nat → World → Prop) (W : World), (∀ k W1, J k W1 → Rd k W1) → (∀ k W1 W2, Below W1.heap.size W1 W2 → J k W1 → J k W2) → (must = true → ∀ W1, ¬ J N W1) →
    (∀ k W1, k < N → J k W1 → YieldAt Fence.wide m P l (args k) W1 fun e W' => (e = .returned (.bool true) ∧ J (k + 1) W') ∨ (e = .returned (.bool false) ∧ Jx (k + 1) W')) →
    J 0 W → CallsIn Fence.wide (m + 1) P gf (#[.func (.yield l) #[] #[]] ++ lb) W fun e W' => (∃ v, e = .returned v) ∧ (J N W' ∨ ∃ k, k ≤ N ∧ Jx k W')

/-- How a round's body may be left: off its end, or by the break. -/
def roundTo (c : Nat) (I Ix : Nat → World → Prop) (k : Nat) (W : World) : Exit → Act → World → Prop
  | .normal, _, W' => KeepsOthers W W' ∧ I k W'
  | .exit id, _, W' => id = c ∧ KeepsOthers W W' ∧ Ix k W'
  | _, _, _ => False

/-- Blocks of cells stay as they are. -/
def Stay (W W' : World) : Prop := W.heap.size ≤ W'.heap.size ∧ ∀ (b : Nat) (cs : Array Value) (t : TypeId) (fr : Nat × Nat), W.heap[b]? = some (.cells cs t fr) → W'.heap[b]? = some (.cells cs t fr)
theorem Stay.of_below {W W' : World} (h : Below W.heap.size W W') : Stay W W' := ⟨h.size, fun b _ _ _ hb => (h.block b (Array.getElem?_eq_some_iff.1 hb).1).trans hb⟩
theorem Stay.trans {A B C : World} (h : Stay A B) (k : Stay B C) : Stay A C := ⟨Nat.le_trans h.1 k.1, fun b cs t fr hb => k.2 b cs t fr (h.2 b cs t fr hb)⟩

theorem below_putObj {B : Nat} (W : World) (l : Nat) (o : Obj) (hl : B ≤ l) (hB : B ≤ W.heap.size) : Below B W (W.putObj l o) :=
  (Below.refl B W).grown (grownBy_putObj' W l o) hB (fun k e => by cases e; exact hl)

theorem stay_putObj {W : World} {l : Nat} {r : Loop} {o : Obj} (h : W.heap[l]? = some (.loop r)) : Stay W (W.putObj l o) := by
  refine ⟨(grownBy_putObj' W l o).size, fun b cs t fr hb => ?_⟩
  have hne : b ≠ l := by
    intro e
    rw [e, h] at hb
    cases hb
  exact (World.putObj_heap_other hne).trans hb

variable {P : Program}
set_option maxHeartbeats 400000 in
/-- The statement 'for x := range f', by numbered rounds, x in a box. -/
theorem wpIn_range_to {m : Nat} {g : Operand} {ps : Array Tmp} {assign body : Code} {Q : Exit → Act → World → Prop} {a : Act} {w : World} {gf : Nat} {lb : Array Value}
    (hg : a.eval g = .func (.func gf) #[] lb) (eg : ∀ args w, (callFunc gf args).run P w = .ok (.enter gf args) w)
    {N c : Nat} {must : Bool} {args : Nat → Array Value} {Rd : Nat → World → Prop} (hseq : SeqTo P gf lb N must args Rd) (hps : ∀ k, (args k).size = ps.size)
    (I Ix : Nat → World → Prop) (Ax : Nat → Act → World → Prop) (hI : ∀ k W W', Stay W W' → Below w.heap.size W W' → I k W → I k W') (hIx : ∀ k W W', Stay W W' → Below w.heap.size W W' → Ix k W → Ix k W')
    (hAx : ∀ k a W W', Stay W W' → Ax k a W → Ax k a W')
    (hsz : ∀ k W, I k W → w.heap.size ≤ W.heap.size) (hszx : ∀ k W, Ix k W → w.heap.size ≤ W.heap.size)
    (hRd : ∀ k W, I k W → Rd k W) (hmust : must = true → ∀ W, ¬ I N W) (h0 : I 0 w)
    (hassign : ∀ (l k : Nat) (W : World) (K : Act → World → Prop), k < N → I k W → (∀ a' W', KeepsOthers W W' → Stay W W' → Below w.heap.size W W' → Ax k a' W' → K a' W') →
      assign.wpIn (Fence.wide.inRound l) m P (Exit.then K (fun _ _ _ => False)) { tmps := (ps.zip (args k)).foldl (fun t (p, v) => t.setIfInBounds p v) a.tmps, defers := [] } W)
    (hbody : ∀ (l k : Nat) (a' : Act) (W : World), k < N → I k W → Ax k a' W → body.wpIn (Fence.wide.inRound l) m P (roundTo c I Ix (k + 1) W) a' W)
    (hdone : ∀ (D : Nat) (W : World), w.heap.size ≤ D → I N W → W.heap[D]? = some (.deferred (some [])) → Q .normal { a with defers := { target := .collected D, args := #[] } :: a.defers } W)
    (hstop : ∀ (D k : Nat) (W : World), w.heap.size ≤ D → k ≤ N → Ix k W → W.heap[D]? = some (.deferred (some [])) → (Code.exit c).wpIn Fence.wide (m + 2) P Q { a with defers := { target := .collected D, args := #[] } :: a.defers } W) :
    (Code.rangeFunc g ps assign body).wpIn Fence.wide (m + 2) P Q a w := by
  refine wpIn_rangeFunc fun fn hfn => ?_
  obtain ⟨rec, hrec⟩ : ∃ rec : LoopState → Option Code → Loop, ∀ st pe, rec st pe = { state := st, pending := pe, fn, tmps := a.tmps, params := ps, assign, body, defers := w.heap.size } := ⟨_, fun _ _ => rfl⟩
  have hb1 : Below w.heap.size w ((w.alloc (.deferred (some []))).alloc (.loop (rec .ready none))) := Below.alloc (Below.alloc (Below.refl _ _) (Nat.le_refl _) _) (by rw [World.size_alloc]; omega) _
  have hD1 : ((w.alloc (.deferred (some []))).alloc (.loop (rec .ready none))).heap[w.heap.size]? = some (.deferred (some [])) := (Below.heap_alloc _ _ _ (by simp)).trans (World.alloc_heap_new w _)
  have hL1 : ((w.alloc (.deferred (some []))).alloc (.loop (rec .ready none))).heap[w.heap.size + 1]? = some (.loop (rec .ready none)) := by
    have := World.alloc_heap_new (w.alloc (.deferred (some []))) (.loop (rec .ready none))
    rwa [World.size_alloc] at this
  have he0 : (Instr.enterLoop fn a.tmps ps assign body none).run P w = .ok (w.heap.size + 1, [{ target := .collected w.heap.size, args := #[] }]) ((w.alloc (.deferred (some []))).alloc (.loop (rec .ready none))) := by
    rw [run_enterLoop_outer, hrec]
  generalize (w.alloc (.deferred (some []))).alloc (.loop (rec .ready none)) = W1 at hb1 hD1 hL1 he0
  have hcalls : CallsIn Fence.wide (m + 1) P gf (#[.func (.yield (w.heap.size + 1)) #[] #[]] ++ lb) W1
      (rangePost Fence.wide (m + 2) P (w.heap.size + 1) Q { a with defers := [{ target := .collected w.heap.size, args := #[] }] ++ a.defers }) := by
    refine (hseq m (w.heap.size + 1)
      (fun k W => I k W ∧ W.heap[w.heap.size]? = some (.deferred (some [])) ∧ W.heap[w.heap.size + 1]? = some (.loop (rec .ready none)))
      (fun k W => Ix k W ∧ W.heap[w.heap.size]? = some (.deferred (some [])) ∧ W.heap[w.heap.size + 1]? = some (.loop (rec .done (some (.exit c)))))
      W1 (fun k W h => hRd k W h.1) (fun k Wa Wb hab h => ?_) (fun hm W h => hmust hm W h.1) ?_ ⟨hI 0 w W1 (Stay.of_below hb1) hb1 h0, hD1, hL1⟩).mono ?_
    · have hs := hsz k Wa h.1
      have hla := (Array.getElem?_eq_some_iff.1 h.2.2).1
      exact ⟨hI k Wa Wb (Stay.of_below hab) (hab.mono hs) h.1, (hab.block _ (by omega)).trans h.2.1, (hab.block _ hla).trans h.2.2⟩
    · rintro k W hk ⟨hi, hD, hL⟩
      have hy := run_yield (P := P) (args := args k) hL (by rw [hrec]; exact hps k)
      rw [hrec] at hy
      have hB := hsz k W hi
      refine ⟨_, _, _, _, hy, roundIn_of_wpIn hfn (hassign _ k W _ hk hi ?_)⟩
      intro a' Wx hkx hsx hbx hax
      have hix := hI k W Wx hsx hbx hi
      have hBx := hsz k Wx hix
      have hLx := hkx.same _ _ hL rfl
      have hDx := hkx.same _ _ hD rfl
      have hlt := (Array.getElem?_eq_some_iff.1 hLx).1
      have hbr := run_beginRound (P := P) hLx (by rw [hrec])
      have b2 : Below w.heap.size Wx (Wx.putObj (w.heap.size + 1) (.loop { rec .ready none with state := .busy })) := below_putObj Wx _ _ (by omega) hBx
      have s2 : Stay Wx (Wx.putObj (w.heap.size + 1) (.loop { rec .ready none with state := .busy })) := stay_putObj hLx
      have hL2 : (Wx.putObj (w.heap.size + 1) (.loop { rec .ready none with state := .busy })).heap[w.heap.size + 1]? = some (.loop (rec .busy none)) := by rw [World.putObj_heap_same hlt, hrec, hrec]
      have hD2 : (Wx.putObj (w.heap.size + 1) (.loop { rec .ready none with state := .busy })).heap[w.heap.size]? = some (.deferred (some [])) := (World.putObj_heap_other (by omega)).trans hDx
      refine ⟨_, hbr, ?_⟩
      generalize Wx.putObj (w.heap.size + 1) (.loop { rec .ready none with state := .busy }) = W2 at hbr b2 s2 hL2 hD2
      refine wpIn_mono (hbody _ k a' W2 hk (hI k Wx W2 s2 b2 hix) (hAx k a' Wx W2 s2 hax)) ?_
      have fin : ∀ (jump : Option Code) (W3 : World), KeepsOthers W2 W3 → ∃ W4, (Instr.endRound (w.heap.size + 1) jump).run P W3 = .ok (.bool jump.isNone) W4 ∧
          Stay W3 W4 ∧ Below w.heap.size W3 W4 ∧ W4.heap[w.heap.size]? = some (.deferred (some [])) ∧ W4.heap[w.heap.size + 1]? = some (.loop (rec (if jump.isNone then .ready else .done) jump)) := by
        intro jump W3 k3
        have hL3 := k3.same _ _ hL2 rfl
        have hD3 := k3.same _ _ hD2 rfl
        have hlt3 := (Array.getElem?_eq_some_iff.1 hL3).1
        refine ⟨_, run_endRound jump hL3, stay_putObj hL3, below_putObj W3 _ _ (by omega) (by omega), (World.putObj_heap_other (by omega)).trans hD3, ?_⟩
        rw [World.putObj_heap_same hlt3, hrec, hrec]
      rintro e a3 W3 hp
      cases e with
      | normal =>
        obtain ⟨W4, r4, s4, b4, d4, l4⟩ := fin none W3 hp.1
        exact ⟨_, W4, r4, .inl ⟨rfl, hI _ W3 W4 s4 b4 hp.2, d4, l4⟩⟩
      | exit id =>
        obtain ⟨rfl, hp1, hp2⟩ := hp
        obtain ⟨W4, r4, s4, b4, d4, l4⟩ := fin (some (.exit id)) W3 hp1
        exact ⟨_, W4, r4, .inr ⟨rfl, hIx _ W3 W4 s4 b4 hp2, d4, l4⟩⟩
      | ret => exact hp.elim
      | goto t => exact hp.elim
      | panic ch => exact hp.elim
      | outgrown => exact hp.elim
    · rintro e W2 ⟨⟨v, rfl⟩, ⟨hi, hD, hL⟩ | ⟨k, hk, hi, hD, hL⟩⟩
      · have he := run_endLoop (P := P) hL (by rw [hrec]; simp)
        refine ⟨_, _, he, ?_⟩
        rw [show (rec .ready none).pending = none by rw [hrec]]
        exact hdone _ _ (Nat.le_refl _) (hI N W2 _ (stay_putObj hL) (below_putObj W2 _ _ (by omega) (hsz N W2 hi)) hi) ((World.putObj_heap_other (by omega)).trans hD)
      · have he := run_endLoop (P := P) hL (by rw [hrec]; simp)
        refine ⟨_, _, he, ?_⟩
        rw [show (rec .done (some (.exit c))).pending = some (.exit c) by rw [hrec]]
        exact hstop _ k _ (Nat.le_refl _) hk (hIx k W2 _ (stay_putObj hL) (below_putObj W2 _ _ (by omega) (hszx k W2 hi)) hi) ((World.putObj_heap_other (by omega)).trans hD)
  have hr0 : (resolve a.eval (rangeCall g (w.heap.size + 1)) 0).run P W1 = .ok { target := .fn (.func gf) lb, args := #[.func (.yield (w.heap.size + 1)) #[] #[]] } W1 := by
    simp only [resolve, hg]
    simp [go_sem]
  have hi0 : (invoke (.fn (.func gf) lb) #[.func (.yield (w.heap.size + 1)) #[] #[]]).run P W1 = .ok (.enter gf (#[.func (.yield (w.heap.size + 1)) #[] #[]] ++ lb)) W1 := by
    simp [invoke, go_sem, eg]
  exact ⟨w.heap.size + 1, [{ target := .collected w.heap.size, args := #[] }], W1, _, W1, gf, _, W1, he0, hr0, fun _ _ => trivial, hi0, fun _ => Nat.succ_le_succ (Nat.zero_le _), hcalls⟩
/-- The wide fence lets every function in. -/
theorem wide_fn (f : Nat) : Fence.wide.fn f = True := by simp [Fence.wide]
end Go.Proofs.YtomcpgogiglpkaaDoor
