/-
  The texts NatRound, Shelf, NatPairs, NatAdd, NatTrim, NatAddTimes, NatMade, one behind the other.
-/
import Derived.Test.YtofpcdjoljjnoaaGreatDoorTapY01
import Derived.StillTailTactics
import Derived.OrdersHeld
import Derived.Shelf.Small.Bits
import Derived.Shelf.Strconv.Itoa0
import Derived.Shelf.LaysM
import Derived.Shelf.Strconv.Clone
import Derived.Shelf.Bits.Mul64
import Derived.Test.YtofpcdjoljjnoaaGreatDoorProg
import Derived.Shelf.Spec.BitsCarry
import Derived.Lib.Hide
import Derived.IntWalk
import Derived.Deep.RegionHeld3

namespace Go.Proofs.YtofpcdjoljjnoaaGreatDoor
open Go.RowKit

def noDefer (ops : Array Oper) : Bool := ops.all fun o => match o.op with | .defer _ => false | _ => true
theorem noDefer_at {ops : Array Oper} (h : noDefer ops = true) {i : Nat} {o : Oper} (hi : ops[i]? = some o) : ∀ c, o.op ≠ .defer c := by
  obtain ⟨hlt, e⟩ := Array.getElem?_eq_some_iff.1 hi
  have h1 := Array.all_eq_true.1 h i hlt
  rw [e] at h1
  intro c hc
  rw [hc] at h1
  cases h1

section
variable {P : Program} {l m : Nat} {ops : Array Oper} {Q : Exit → Act → World → Prop} {md : Region.Mode}
theorem depth_wide (n : Nat) : (Fence.wide.inRound l).depth.isSome = true → 1 ≤ n := fun h => Bool.noConfusion h
theorem operIn_of {o : Oper} {a : Act} {w : World} {K : Act → World → Prop} (hd : ∀ c, o.op ≠ .defer c) (h : o.wp P a w K Q) : o.wpIn (Fence.wide.inRound l) m P a w K Q := by
  refine ⟨fun _ _ => trivial, ?_⟩
  show o.uponIn _ _ _ _ _ _ ((o.semAt (some l) a.eval).run P w)
  rw [Oper.semAt_some l _ _ hd]
  unfold Oper.wp at h
  generalize (execOp a.eval o).run P w = r at h ⊢
  cases r with
  | halt x w' => cases x <;> first | exact h | exact h.elim
  | ok x w' =>
    cases x with
    | value v => exact h
    | skip => exact h
    | defer d => exact h
    | enter f args => exact ⟨depth_wide m, CallsIn.inRound l (callsIn_wide.2 h)⟩
    | row r args =>
      refine ⟨depth_wide m, fun c cs _ => ?_⟩
      obtain ⟨v, w'', hr, hs⟩ := h c cs
      exact ⟨v, w'', hr, stepsIn_wide.2 hs⟩
    | round l' f t a b => exact h.elim
    | _ => exact h.elim
theorem wpOpIn_of (hn : noDefer ops = true) (hq : ¬ LetsOut Q) {i : Nat} {a : Act} {w : World} {K : Act → World → Prop} (h : wpOp P ops Q i K a w) : wpOpIn (Fence.wide.inRound l) m P ops Q i K a w := by
  unfold wpOp at h
  unfold Go.wpOpIn
  cases hi : ops[i]? with
  | none => simpa [hi] using h
  | some o =>
    simp only [hi] at h ⊢
    split
    · rename_i hw
      rw [if_pos hw] at h
      exact operIn_of (noDefer_at hn hi) (h.resolve_right fun h' => hq h'.2)
    · rename_i hw
      rw [if_neg hw] at h
      exact ⟨fun _ _ => trivial, h⟩
theorem wpAnyIn_of (hn : noDefer ops = true) (hq : ¬ LetsOut Q) : ∀ (fuel : Nat) (listed : Array Bool) (a : Act) (w : World), wpAny P md ops Q fuel listed a w → wpAnyIn (Fence.wide.inRound l) m P md ops Q fuel listed a w
  | 0, _, _, _, h => h
  | fuel + 1, _, _, _, h => ⟨h.1, fun i hi => wpOpIn_mono (fun a w => wpAnyIn_of hn hq fuel _ a w) (wpOpIn_of hn hq (h.2 i hi))⟩

/-- A region, walked in the text's order: an operation that is marked yields its value in every world that meets S, and may come up at any time; one that is not marked is the only one that may come up. -/
def okS (md : Region.Mode) (ops : Array Oper) : List Bool → Nat → Array Bool → Bool
  | [], _, listed => (Region.ready md ops listed).isEmpty
  | true :: fl, k, listed => (Region.ready md ops listed).contains k && (Region.free md ops listed k && okS md ops fl (k + 1) (listed.setIfInBounds k true))
  | false :: fl, k, listed => Region.ready md ops listed == [k] && okS md ops fl (k + 1) (listed.setIfInBounds k true)
def walkS (P : Program) (ops : Array Oper) (Q : Exit → Act → World → Prop) (S : World → Prop) : List Oper → List Bool → Act → World → Prop
  | o :: r, true :: fl, a, w => S w ∧ ∃ v, (Region.wanted o (yielded ops a.tmps) = true ∧ ∀ w', S w' → (execOp a.eval o).run P w' = .ok (.value v) w') ∧ walkS P ops Q S r fl (a.put o.dst v) w
  | o :: r, false :: fl, a, w => Region.wanted o (yielded ops a.tmps) = true ∧ o.wp P a w (fun a' w' => S w' ∧ walkS P ops Q S r fl a' w') Q
  | _, _, a, w => Q .normal a w
theorem wpAnyH_walk {S : World → Prop} (hs : Region.noSelect ops = true) (hQ : ∀ c a d v w, Q (.panic c) (Act.put a d v) w → Q (.panic c) a w) :
    ∀ (L : List Oper) (fl : List Bool) (k : Nat) (listed : Array Bool) (a : Act) (w : World), (∀ j, L[j]? = ops[k + j]?) → fl.length = L.length → okS md ops fl k listed = true → walkS P ops Q S L fl a w → wpAnyH P md ops Q S L.length listed a w
  | [], fl, k, listed, a, w, _, hf, hok, h => by
    obtain rfl : fl = [] := List.eq_nil_of_length_eq_zero hf
    exact wpAnyH_done (List.isEmpty_iff.1 hok) h 0
  | o :: L, [], _, _, _, _, _, hf, _, _ => by simp at hf
  | o :: L, true :: fl, k, listed, a, w, hl, hf, hok, h => by
    have h0 : ops[k]? = some o := by simpa using (hl 0).symm
    simp only [okS, Bool.and_eq_true] at hok
    obtain ⟨hr, hfree, hok'⟩ := hok
    obtain ⟨hS, v, ⟨hw, hy⟩, hrest⟩ := h
    exact wpAnyH_take h0 hs hfree hr (fun c a w => hQ c a _ _ w) (.inl ⟨hw, hy⟩) hS
      (wpAnyH_walk hs hQ L fl (k + 1) _ _ w (fun j => by have := hl (j + 1); rw [List.getElem?_cons_succ] at this; rw [this]; congr 1; omega) (by simpa using hf) hok' hrest)
  | o :: L, false :: fl, k, listed, a, w, hl, hf, hok, h => by
    have h0 : ops[k]? = some o := by simpa using (hl 0).symm
    simp only [okS, Bool.and_eq_true] at hok
    obtain ⟨hr, hok'⟩ := hok
    have hr' : Region.ready md ops listed = [k] := by simpa using hr
    obtain ⟨hw, hop⟩ := h
    refine wpAnyH_all hr' (by simp) fun i hi => ?_
    have hik : i = k := by simpa using hi
    subst hik
    unfold wpOp
    simp only [h0]
    rw [if_pos hw]
    exact .inl (Oper.wp_mono (fun a' w' hh => ⟨hh.1, wpAnyH_walk hs hQ L fl (i + 1) _ _ w' (fun j => by have := hl (j + 1); rw [List.getElem?_cons_succ] at this; rw [this]; congr 1; omega) (by simpa using hf) hok' hh.2⟩) hop)
/-- In a round: a region, walked in the text's order. -/
theorem wpIn_region_walk {id : Nat} {a : Act} {w : World} {L : List Oper} (S : World → Prop) (fl : List Bool) (hm : P.follows .mixedOrders = true) (hs : Region.noSelect L.toArray = true) (hn : noDefer L.toArray = true)
    (hf : fl.length = L.length) (hok : okS .any L.toArray fl 0 (Array.replicate L.toArray.size false) = true) (hq : ¬ LetsOut Q) (hQ : ∀ c a d v w, Q (.panic c) (Act.put a d v) w → Q (.panic c) a w)
    (h : walkS P L.toArray Q S L fl a w.drew) : (Code.region id L.toArray true).wpIn (Fence.wide.inRound l) m P Q a w := by
  refine wpIn_region_any hm (wpAnyIn_of hn hq _ _ _ _ (wpAny_of_held (S := S) _ _ _ _ ?_))
  have := wpAnyH_walk (md := .any) hs hQ L fl 0 (Array.replicate L.toArray.size false) a w.drew (fun j => by simp) hf hok h
  simpa using this
/-- The same ahead of a plain walk. -/
theorem wp_region_walk {id : Nat} {a : Act} {w : World} {L : List Oper} (S : World → Prop) (fl : List Bool) (hm : P.follows .mixedOrders = true) (hs : Region.noSelect L.toArray = true)
    (hf : fl.length = L.length) (hok : okS .any L.toArray fl 0 (Array.replicate L.toArray.size false) = true) (hQ : ∀ c a d v w, Q (.panic c) (Act.put a d v) w → Q (.panic c) a w)
    (h : walkS P L.toArray Q S L fl a w.drew) : (Code.region id L.toArray true).wp P Q a w := by
  refine wp_region_any hm (wpAny_of_held (S := S) _ _ _ _ ?_)
  have := wpAnyH_walk (md := .any) hs hQ L fl 0 (Array.replicate L.toArray.size false) a w.drew (fun j => by simp) hf hok h
  simpa using this
/-- Two steps of it: marked, and not. -/
theorem walkS_yes {S : World → Prop} {o : Oper} {r : List Oper} {fl : List Bool} {a : Act} {w : World} (hS : S w) {v : Value} (hw : Region.wanted o (yielded ops a.tmps) = true) (hy : ∀ w', S w' → (execOp a.eval o).run P w' = .ok (.value v) w')
    (h : walkS P ops Q S r fl (a.put o.dst v) w) : walkS P ops Q S (o :: r) (true :: fl) a w := ⟨hS, v, ⟨hw, hy⟩, h⟩
theorem walkS_no {S : World → Prop} {o : Oper} {r : List Oper} {fl : List Bool} {a : Act} {w : World} (hw : Region.wanted o (yielded ops a.tmps) = true)
    (h : ∀ K : Act → World → Prop, (∀ a' w', S w' → walkS P ops Q S r fl a' w' → K a' w') → o.wp P a w K Q) : walkS P ops Q S (o :: r) (false :: fl) a w :=
  ⟨hw, h _ fun _ _ hS' h' => ⟨hS', h'⟩⟩
end
end Go.Proofs.YtofpcdjoljjnoaaGreatDoor

namespace Go.Proofs.YtofpcdjoljjnoaaGreatDoor
open Go.Shelf
def Tryz.lays134_ren : Go.Shelf.Ren := ⟨fun | 134 => 117 | 129 => 111 | n => n, fun | 53 => 100 | 3 => 3 | 4 => 4 | 46 => 152 | 5 => 5 | 9 => 9 | n => n, fun | n => n⟩
theorem Tryz.lays134 : Go.Proofs.Lays.n134 Tryz.prog Tryz.lays134_ren := {
  mixed := by kernel_rfl
  f129 := Tryz.func111.trans (congrArg some (by kernel_rfl))
  f134 := Tryz.func117.trans (congrArg some (by kernel_rfl))
  t3 := Tryz.underlying3
  a3 := Tryz.isAgg3
  z3 := Tryz.sizeOf3
  v3 := Tryz.zeroValue3
  t4 := Tryz.underlying4
  a4 := Tryz.isAgg4
  z4 := Tryz.sizeOf4
  v4 := Tryz.zeroValue4
  t5 := Tryz.underlying5
  a5 := Tryz.isAgg5
  z5 := Tryz.sizeOf5
  v5 := Tryz.zeroValue5
  t9 := Tryz.underlying9
  a9 := Tryz.isAgg9
  z9 := Tryz.sizeOf9
  v9 := Tryz.zeroValue9
  t46 := Tryz.underlying152
  a46 := Tryz.isAgg152
  z46 := Tryz.sizeOf152
  v46 := Tryz.zeroValue152
  t53 := Tryz.underlying100
  a53 := Tryz.isAgg100
  z53 := Tryz.sizeOf100
  v53 := Tryz.zeroValue100 }

theorem Tryz.bits_LeadingZeros64 (x : Int) (w : World) (h0 : 0 ≤ x) (h1 : x ≤ 18446744073709551615) :
    Calls Tryz.prog 117 #[.int .u64 x] w fun e w' => e = .returned (.int .i64 (64 - (Lib.bitLen x.toNat : Int))) ∧ w' = w := Any.bits_LeadingZeros64 Tryz.lays134 x w h0 h1
def Tryz.lays129_ren : Go.Shelf.Ren := ⟨fun | 129 => 111 | n => n, fun | 53 => 100 | 3 => 3 | 4 => 4 | 46 => 152 | 5 => 5 | 9 => 9 | n => n, fun | n => n⟩
theorem Tryz.lays129 : Go.Proofs.Lays.n129 Tryz.prog Tryz.lays129_ren := {
  mixed := by kernel_rfl
  f129 := Tryz.func111.trans (congrArg some (by kernel_rfl))
  t3 := Tryz.underlying3
  a3 := Tryz.isAgg3
  z3 := Tryz.sizeOf3
  v3 := Tryz.zeroValue3
  t4 := Tryz.underlying4
  a4 := Tryz.isAgg4
  z4 := Tryz.sizeOf4
  v4 := Tryz.zeroValue4
  t5 := Tryz.underlying5
  a5 := Tryz.isAgg5
  z5 := Tryz.sizeOf5
  v5 := Tryz.zeroValue5
  t9 := Tryz.underlying9
  a9 := Tryz.isAgg9
  z9 := Tryz.sizeOf9
  v9 := Tryz.zeroValue9
  t46 := Tryz.underlying152
  a46 := Tryz.isAgg152
  z46 := Tryz.sizeOf152
  v46 := Tryz.zeroValue152
  t53 := Tryz.underlying100
  a53 := Tryz.isAgg100
  z53 := Tryz.sizeOf100
  v53 := Tryz.zeroValue100 }

theorem Tryz.bits_Len64 (x : Int) (w : World) (h0 : 0 ≤ x) (h1 : x ≤ 18446744073709551615) :
    Calls Tryz.prog 111 #[.int .u64 x] w fun e w' => e = .returned (.int .i64 (Lib.bitLen x.toNat)) ∧ w' = w := Any.bits_Len64 Tryz.lays129 x w h0 h1
def Tryz.laysM316_ren : Go.Shelf.Ren := ⟨fun | 316 => 71 | n => n, fun | 9 => 9 | 3 => 3 | 4 => 4 | 37 => 128 | 0 => 0 | 127 => 137 | 5 => 5 | n => n, fun | n => n⟩
theorem Tryz.laysM316 : Go.Proofs.LaysM.n316 Tryz.prog Tryz.laysM316_ren := {
  mixed := by kernel_rfl
  f316 := Tryz.func71.trans (congrArg some (by kernel_rfl))
  t0 := Tryz.underlying0
  a0 := Tryz.isAgg0
  z0 := Tryz.sizeOf0
  v0 := Tryz.zeroValue0
  t3 := Tryz.underlying3
  a3 := Tryz.isAgg3
  z3 := Tryz.sizeOf3
  v3 := Tryz.zeroValue3
  t4 := Tryz.underlying4
  a4 := Tryz.isAgg4
  z4 := Tryz.sizeOf4
  v4 := Tryz.zeroValue4
  t9 := Tryz.underlying9
  a9 := Tryz.isAgg9
  z9 := Tryz.sizeOf9
  v9 := Tryz.zeroValue9
  t37 := Tryz.underlying128
  a37 := Tryz.isAgg128
  z37 := Tryz.sizeOf128
  v37 := Tryz.zeroValue128
  t127 := Tryz.underlying137
  a127 := Tryz.isAgg137
  z127 := Tryz.sizeOf137
  v127 := Tryz.zeroValue137
  t5 := Tryz.underlying5
  a5 := Tryz.isAgg5
  z5 := Tryz.sizeOf5
  v5 := Tryz.zeroValue5
  i0 := by kernel_rfl
  i3 := by kernel_rfl
  i4 := by kernel_rfl
  i5 := by kernel_rfl
  i9 := by kernel_rfl
  i37 := by kernel_rfl
  i127 := by kernel_rfl }
open Go.RowKit in

theorem Tryz.stringslite_Clone (s : ByteArray) (w : World) (hlim : s.size ≤ 281474976710656) :
    Calls Tryz.prog 71 #[.string s] w fun e w' => e = .returned (.string s) ∧ Below w.heap.size w w' := Any.stringslite_Clone Tryz.laysM316 s w hlim
def Tryz.lays264_ren : Go.Shelf.Ren := ⟨fun | 264 => 130 | n => n, fun | 53 => 100 | 46 => 152 | n => n, fun | n => n⟩
theorem Tryz.lays264 : Go.Proofs.Lays.n264 Tryz.prog Tryz.lays264_ren := {
  mixed := by kernel_rfl
  f264 := Tryz.func130.trans (congrArg some (by kernel_rfl))
  t46 := Tryz.underlying152
  a46 := Tryz.isAgg152
  z46 := Tryz.sizeOf152
  v46 := Tryz.zeroValue152
  t53 := Tryz.underlying100
  a53 := Tryz.isAgg100
  z53 := Tryz.sizeOf100
  v53 := Tryz.zeroValue100 }
open Go.RowKit Go.Lib in
theorem Tryz.bits_Mul64 (x y : Nat) (hx : x < 18446744073709551616) (hy : y < 18446744073709551616) (w : World) :
    Calls Tryz.prog 130 #[.int .u64 x, .int .u64 y] w fun e w' => e = .returned (.tuple #[.int .u64 ((x * y / 18446744073709551616 : Nat) : Int), .int .u64 ((x * y % 18446744073709551616 : Nat) : Int)]) ∧ w' = w := Any.bits_Mul64 Tryz.lays264 x y hx hy w
end Go.Proofs.YtofpcdjoljjnoaaGreatDoor

namespace Go.Proofs.YtofpcdjoljjnoaaGreatDoor
open Go.RowKit Go.Shelf
attribute [local go_sem] Oper.semAt_some

theorem run_add64 (x y c : Nat) (hc : c ≤ 1) (w : World) :
    (callFunc 131 #[.int .u64 (x : Int), .int .u64 (y : Int), .int .u64 (c : Int)]).run Tryz.prog w =
      .ok (.value (.tuple #[.int .u64 (((x + y + c) % 18446744073709551616 : Nat) : Int), .int .u64 (((x + y + c) / 18446744073709551616 : Nat) : Int)])) w := by
  rw [run_callFunc_extern Tryz.func131 (by kernel_rfl) (by kernel_rfl) (by kernel_rfl) (e := add64Entry) (by kernel_rfl), Go.run_add64 x y c (by omega) (by omega) (by omega) (by omega)]
  simp only [Result.andThen]
  congr 5 <;> omega
theorem run_sub64 (x y b : Nat) (hb : b ≤ 1) (w : World) :
    (callFunc 132 #[.int .u64 (x : Int), .int .u64 (y : Int), .int .u64 (b : Int)]).run Tryz.prog w =
      .ok (.value (.tuple #[.int .u64 (((x + 18446744073709551616 - y - b) % 18446744073709551616 : Nat) : Int), .int .u64 ((if x < y + b then 1 else 0 : Nat) : Int)])) w := by
  rw [run_callFunc_extern Tryz.func132 (by kernel_rfl) (by kernel_rfl) (by kernel_rfl) (e := sub64Entry) (by kernel_rfl), Go.Proofs.run_sub64 x y b hb]
  rfl

/-- What 'pairs' makes of two slices: two boxes, and a function that holds them. -/
def PairsPost (a b : Value) (w : World) (e : Ending) (w' : World) : Prop :=
  e = .returned (.func (.func 129) #[] #[.pointer (some ⟨w.heap.size, 0, none⟩), .pointer (some ⟨w.heap.size + 1, 0, none⟩)]) ∧ w' = (w.alloc (.cells #[a] 42)).alloc (.cells #[b] 42)

theorem pairs_any (a b : Option Addr) (la lb ca cb : Nat) (w : World) :
    Calls Tryz.prog 121 #[.slice a la ca, .slice b lb cb] w (PairsPost (.slice a la ca) (.slice b lb cb) w) := by
  go_enter Tryz.func121, Tryz.ntmps121
  go_wp2
  go_ret
  exact ⟨rfl, rfl⟩

/-- What the function reads ahead of round k. -/
def PairsRd (p q : Nat) (a b : Option Addr) (ca cb : Nat) (A B : List Nat) (k : Nat) (w : World) : Prop :=
  w.cell? ⟨p, 0, none⟩ = some (.slice a A.length ca) ∧ w.cell? ⟨q, 0, none⟩ = some (.slice b B.length cb) ∧ NatFrom k w a A ∧ NatFrom k w b B

set_option maxRecDepth 100000 in
set_option maxHeartbeats 2000000 in
theorem pairs_at (p q : Nat) (a b : Option Addr) (ca cb : Nat) (A B : List Nat) (X Y : Nat → Nat) (hX : ∀ k, X k = A.getD k 0) (hY0 : ∀ k, Y k = B.getD k 0) (hA : A.length ≤ 1099511627776) (_ : B.length ≤ 1099511627776) :
    SeqAt Tryz.prog 129 #[.pointer (some ⟨p, 0, none⟩), .pointer (some ⟨q, 0, none⟩)] A.length
      (fun k => #[.int .u64 ((X k : Nat) : Int), .int .u64 ((Y k : Nat) : Int)]) (PairsRd p q a b ca cb A B) := by
  intro m l J Jx W hRd _ hY h0
  refine callsIn_of_wp Tryz.func129 rfl trivial ?_ rfl
  simp only [Tryz.ntmps129, List.size_toArray, List.length_cons, List.length_nil, Nat.reduceAdd, Nat.reduceSub, Array.replicate_succ, Array.replicate_zero, List.push_toArray, List.append_toArray, List.nil_append, List.cons_append]
  obtain ⟨hp0, hq0, -, -⟩ := hRd 0 W h0
  have HRD := Lib.hid hRd
  have HY := Lib.hid hY
  have H0 := Lib.hid h0
  have HX := Lib.hid hX
  have HY0 := Lib.hid hY0
  clear hRd hY h0 hq0 hX hY0
  gi_wp2
  gi_loopw [9] (fun i wr => ∃ k : Nat, k ≤ A.length ∧ i = .int .i64 (k : Int) ∧ J k wr) (fun i _ => A.length - (intOf i).toNat)
  case atStart => exact ⟨0, Nat.zero_le _, rfl, H0.out⟩
  case round =>
    obtain ⟨k, hk, rfl, hJ⟩ := hrel
    have hk0 : (0 : Int) ≤ (k : Int) := by omega
    by_cases hlt : k < A.length
    · obtain ⟨_, hq, hfa, hfb⟩ := HRD.out k wr hJ
      obtain ⟨ba, oa, ea, hca⟩ := hfa k (Nat.le_refl _) hlt
      obtain ⟨fn, tmps, assign, body, hy, hR⟩ := HY.out k wr hlt hJ
      obtain ⟨x, hx⟩ : ∃ x, x = A.getD k 0 := ⟨_, rfl⟩
      obtain ⟨y, hyy⟩ : ∃ y, y = B.getD k 0 := ⟨_, rfl⟩
      rw [← hx] at hca
      rw [HX.out k, HY0.out k, ← hx, ← hyy] at hy
      have HR := Lib.hid hR
      clear hfa hp0 hx hR
      subst ea
      by_cases hbl : k < B.length
      · obtain ⟨bb, ob, eb, hcb⟩ := hfb k (Nat.le_refl _) hbl
        rw [← hyy] at hcb
        clear hfb hyy
        subst eb
        gi_wp2
        refine HR.out.mono ?_
        rintro e W3 (⟨rfl, hJ3⟩ | ⟨rfl, hJx3⟩)
        · gi_wp2
          go_roundw
          case rel => exact ⟨k + 1, by omega, by go_num, hJ3⟩
          case measure => simp [intOf]; omega
        · gi_wp2
          refine bodyPost_ret (results_none rfl _ _ _) rfl ?_
          exact ⟨⟨_, rfl⟩, .inr ⟨k + 1, by omega, hJx3⟩⟩
      · have h00 : B.getD k 0 = 0 := by rw [List.getD_eq_getElem?_getD, List.getElem?_eq_none (by omega)]; rfl
        rw [h00] at hyy
        subst hyy
        simp only [Int.natCast_zero] at hy
        clear hfb h00
        gi_wp2
        refine HR.out.mono ?_
        rintro e W3 (⟨rfl, hJ3⟩ | ⟨rfl, hJx3⟩)
        · gi_wp2
          go_roundw
          case rel => exact ⟨k + 1, by omega, by go_num, hJ3⟩
          case measure => simp [intOf]; omega
        · gi_wp2
          refine bodyPost_ret (results_none rfl _ _ _) rfl ?_
          exact ⟨⟨_, rfl⟩, .inr ⟨k + 1, by omega, hJx3⟩⟩
    · obtain rfl : k = A.length := by omega
      gi_wp2
      go_end0
      exact ⟨⟨_, rfl⟩, .inl hJ⟩
end Go.Proofs.YtofpcdjoljjnoaaGreatDoor

namespace Go.Proofs.YtofpcdjoljjnoaaGreatDoor
open Go.RowKit Go.Shelf
attribute [local go_sem] Oper.semAt_some wide_fn

theorem lv_snoc (O : List Nat) (x : Nat) : lv (O ++ [x]) = lv O + 2 ^ (64 * O.length) * x := by
  rw [lv_append]; simp [lv]
theorem lv_take_succ {A : List Nat} {k : Nat} (hk : k < A.length) : lv (A.take (k + 1)) = lv (A.take k) + 2 ^ (64 * k) * A.getD k 0 := by
  rw [List.take_succ_eq_append_getElem hk, lv_snoc, List.length_take, Nat.min_eq_left (by omega)]
  simp [hk]
theorem lv_take_succ' (A : List Nat) (k : Nat) : lv (A.take (k + 1)) = lv (A.take k) + 2 ^ (64 * k) * A.getD k 0 := by
  rcases Nat.lt_or_ge k A.length with h | h
  · exact lv_take_succ h
  · rw [List.take_of_length_le (by omega), List.take_of_length_le h, List.getD_eq_getElem?_getD, List.getElem?_eq_none h]; simp
theorem getD_fits {L : List Nat} (h : Fits L) (i : Nat) : L.getD i 0 < 18446744073709551616 := by
  rw [List.getD_eq_getElem?_getD]
  rcases Nat.lt_or_ge i L.length with hi | hi
  · rw [List.getElem?_eq_getElem hi]; exact h _ (List.getElem_mem hi)
  · rw [List.getElem?_eq_none hi]; simp
theorem fits_snoc {O : List Nat} {x : Nat} (h : Fits O) (hx : x < 18446744073709551616) : Fits (O ++ [x]) := by
  intro y hy
  rcases List.mem_append.1 hy with hy | hy
  · exact h y hy
  · simp at hy; subst hy; exact hx
theorem set_mid {O A : List Nat} {k x : Nat} (hO : O.length = k) (hk : k < A.length) : (O ++ A.drop k).set k x = (O ++ [x]) ++ A.drop (k + 1) := by
  rw [List.set_append_right _ _ (by omega), hO, Nat.sub_self, List.drop_eq_getElem_cons hk, List.set_cons_zero]
  simp

/-- Limbs of a sum, one more. -/
theorem limb_add {o p c c' x y r a b : Nat} (h : o + p * c = a + b) (hr : r = (x + y + c) % 18446744073709551616) (hc : c' = (x + y + c) / 18446744073709551616) :
    (o + p * r) + p * 18446744073709551616 * c' = (a + p * x) + (b + p * y) := by
  have h1 := Nat.mod_add_div (x + y + c) 18446744073709551616
  rw [← hr, ← hc] at h1
  have h2 : p * (r + 18446744073709551616 * c') = p * (x + y + c) := by rw [h1]
  rw [Nat.mul_add, Nat.mul_add, Nat.mul_add, ← Nat.mul_assoc] at h2
  omega

def AddPost (g off : Nat) (A B : List Nat) (w : World) (e : Ending) (w' : World) : Prop :=
  ∃ (O : List Nat) (c : Nat), e = .returned (.int .u64 (c : Int)) ∧ O.length = A.length ∧ Fits O ∧ c ≤ 1 ∧ lv O + 2 ^ (64 * A.length) * c = lv A + lv B ∧ Seg w' g off O ∧ Wrote g off (off + A.length) w w'

def AddAt (z g off ca cb : Nat) (b : Option Addr) (A B : List Nat) (w : World) (k : Nat) (W : World) : Prop :=
  ∃ (O : List Nat) (c : Nat), O.length = k ∧ k ≤ A.length ∧ Fits O ∧ c ≤ 1 ∧ lv O + 2 ^ (64 * k) * c = lv (A.take k) + lv (B.take k) ∧ Seg W g off (O ++ A.drop k) ∧ NatAt W b B ∧
    Box W z (.slice (some ⟨g, off, none⟩) A.length ca) ∧ Box W (z + 1) (.int .i64 (k : Int)) ∧ Box W (z + 2) (.int .u64 (c : Int)) ∧ Box W (z + 3) (.slice (some ⟨g, off, none⟩) A.length ca) ∧ Box W (z + 4) (.slice b B.length cb) ∧
    z + 5 ≤ W.heap.size ∧ Wrote g off (off + A.length) w W

theorem AddAt.below {z g off ca cb : Nat} {b : Option Addr} {A B : List Nat} {w : World} {k : Nat} {W W' : World} (hg : g < z) (hz : z = w.heap.size) (hbl : 0 < B.length → ∀ bl o, b = some ⟨bl, o, none⟩ → bl < z) (hb : Below (z + 5) W W') (h : AddAt z g off ca cb b A B w k W) : AddAt z g off ca cb b A B w k W' := by
  obtain ⟨O, c, h1, h2, h3, h4, h5, h6, h7, b0, b1, b2, b3, b4, hs, hw⟩ := h
  refine ⟨O, c, h1, h2, h3, h4, h5, h6.below hb (by omega), fun i hi => ?_, b0.below hb (by omega), b1.below hb (by omega), b2.below hb (by omega), b3.below hb (by omega), b4.below hb (by omega), Nat.le_trans hs hb.size, hw.after (hb.mono (by omega)) (by omega)⟩
  obtain ⟨bl, o, e, hc⟩ := h7 i hi
  exact ⟨bl, o, e, (hb.cell (p := ⟨bl, o + i, none⟩) (by show bl < z + 5; have := hbl (by omega) bl o e; omega)).trans hc⟩

set_option maxRecDepth 100000 in
set_option maxHeartbeats 2000000 in
theorem add_any (g off ca cb : Nat) (b : Option Addr) (A B : List Nat) (w : World) (hA : A.length ≤ 1099511627776) (hBA : B.length ≤ A.length) (fA : Fits A) (fB : Fits B)
    (hs : Seg w g off A) (hb : NatAt w b B) (hne : 0 < B.length → ∀ bl o, b = some ⟨bl, o, none⟩ → bl ≠ g ∧ bl < w.heap.size) :
    Calls Tryz.prog 137 #[.slice (some ⟨g, off, none⟩) A.length ca, .slice b B.length cb] w (AddPost g off A B w) := by
  obtain ⟨z, hz⟩ : ∃ z, z = w.heap.size := ⟨_, rfl⟩
  have hgz : g < z := by have := hs.block; omega
  have hbl : 0 < B.length → ∀ bl o, b = some ⟨bl, o, none⟩ → bl < z := fun h0 bl o e => by have := (hne h0 bl o e).2; omega
  obtain ⟨X, hX⟩ : ∃ X : Nat → Nat, ∀ k, X k = A.getD k 0 := ⟨_, fun _ => rfl⟩
  obtain ⟨Y, hY⟩ : ∃ Y : Nat → Nat, ∀ k, Y k = B.getD k 0 := ⟨_, fun _ => rfl⟩
  have HX := Lib.hid hX
  have HY := Lib.hid hY
  have HZ := Lib.hid hz
  clear hX hY hz
  refine (callsIn_wide (n := 3)).1 ?_
  refine callsIn_of_wp_marks Tryz.func137 rfl trivial ?_ rfl
  simp only [Tryz.ntmps137, List.size_toArray, List.length_cons, List.length_nil, Nat.reduceAdd, Nat.reduceSub, Array.replicate_succ, Array.replicate_zero, List.push_toArray, List.append_toArray, List.nil_append, List.cons_append]
  gi_wp2_with (gi_at_call 121; refine (callsIn_wide.2 (pairs_any _ _ _ _ _ _ _)).mono ?_; rintro e w' ⟨rfl, rfl⟩)
  rw [← HZ.out]
  simp only [Nat.add_assoc, Nat.reduceAdd]
  generalize hW : (((((w.alloc (.cells #[.slice (some ⟨g, off, none⟩) A.length ca] 42)).alloc (.cells #[.int .i64 0] 3)).alloc (.cells #[.int .u64 0] 100)).alloc (.cells #[.slice (some ⟨g, off, none⟩) A.length ca] 42)).alloc (.cells #[.slice b B.length cb] 42)) = W0
  obtain ⟨c0, c1, c2, c3, c4, hsz, hbw⟩ := boxes5 HZ.out _ _ _ _ _ _ _ _ _ _ hW.symm
  clear hW
  have HW : AddAt z g off ca cb b A B w 0 W0 :=
    ⟨[], 0, rfl, Nat.zero_le _, fun x hx => (by cases hx), by omega, by simp [lv], hs.below hbw hs.block, hb.below hbw (Nat.le_refl _), c0, c1, c2, c3, c4, by omega, Wrote.of_below hbw _ _ _⟩
  clear c0 c1 c2 c3 c4 hbw
  refine wpIn_range_at (m := 1) (gf := 129) (lb := #[.pointer (some ⟨z + 3, 0, none⟩), .pointer (some ⟨z + 4, 0, none⟩)]) rfl (enters_of Tryz.func129 (by kernel_rfl) rfl) (pairs_at (z + 3) (z + 4) _ b ca cb A B X Y HX.out HY.out hA (by omega)) (fun _ => rfl)
    (AddAt z g off ca cb b A B w) (fun _ _ => False) (fun k W W' hb' h => h.below hgz HZ.out hbl (by rw [← hsz]; exact hb')) (fun _ _ _ _ h => h) (fun k W h => by obtain ⟨O, c, h1, h2, h3, h4, h5, h6, h7, b0, b1, b2, b3, b4, hss, hw⟩ := h; omega) (fun _ _ h => h.elim)
    (fun k W h => by obtain ⟨O, c, h1, h2, h3, h4, h5, h6, h7, b0, b1, b2, b3, b4, hss, hw⟩ := h; exact ⟨b3.1, b4.1, h6.from h1 h2, h7.from k⟩) HW
    (fun k => { tmps := #[.slice (some ⟨g, off, none⟩) A.length ca, .slice b B.length cb, .pointer (some ⟨z, 0, none⟩), undef, .int .u64 0, .pointer (some ⟨z + 1, 0, none⟩), .pointer (some ⟨z + 2, 0, none⟩), .int .u64 ((X k : Nat) : Int), .int .u64 ((Y k : Nat) : Int),
      .slice (some ⟨g, off, none⟩) A.length ca, .slice b B.length cb, .func (.func 129) #[] #[.pointer (some ⟨z + 3, 0, none⟩), .pointer (some ⟨z + 4, 0, none⟩)], .int .u64 ((X k : Nat) : Int), .int .u64 ((Y k : Nat) : Int), undef, undef, undef, undef, undef, undef, undef, undef, undef, undef, undef, undef, undef], defers := [] })
    ?assign ?body ?done ?stop
  case assign =>
    intro l k W K hK
    gi_wp2
    exact hK
  case body =>
    rintro l k W hk ⟨O, c, h1, h2, h3, h4, h5, h6, h7, b0, b1, b2, b3, b4, hss, hw⟩
    have hxA : X k = A.getD k 0 := HX.out k
    have hyB : Y k = B.getD k 0 := HY.out k
    generalize X k = x at hxA ⊢
    generalize Y k = y at hyB ⊢
    have hc0 := b0.1
    have hc1 := b1.1
    have hc2 := b2.1
    have hf1 := b1.2
    have hf2 := b2.2
    have hgc := h6.cell (i := k) (by rw [List.length_append, List.length_drop]; omega)
    have hgf := h6.frozen (off + k)
    have hkA : (k : Int) < (A.length : Int) := by omega
    have hk0 : (0 : Int) ≤ (k : Int) := by omega
    have hadd := run_add64 x y c h4
    have hx1 := getD_fits fA k
    have hy1 := getD_fits fB k
    obtain ⟨r, hr⟩ : ∃ r, r = (x + y + c) % 18446744073709551616 := ⟨_, rfl⟩
    obtain ⟨q, hq⟩ : ∃ q, q = (x + y + c) / 18446744073709551616 := ⟨_, rfl⟩
    have hst := limb_add h5 hr hq
    have hr1 : r < 18446744073709551616 := by rw [hr]; exact Nat.mod_lt _ (by decide)
    have hq1 : q ≤ 1 := by omega
    rw [← hr, ← hq] at hadd
    rw [hxA, hyB, ← lv_take_succ' A, ← lv_take_succ' B] at hst
    have H1 := Lib.hid h1
    have HXA := Lib.hid hxA
    have HYB := Lib.hid hyB
    have H5 := Lib.hid h5
    have HSZ := Lib.hid hsz
    have HST := Lib.hid hst
    clear h1 hxA hyB h5 hsz hx1 hy1 hr hq hst
    have HR1 := Lib.hid hr1
    clear hr1
    gi_wp2
    refine wpIn_region_walk (fun w' => w'.cell? ⟨z, 0, none⟩ = some (.slice (some ⟨g, off, none⟩) A.length ca) ∧ w'.cell? ⟨z + 1, 0, none⟩ = some (.int .i64 (k : Int)))
      [true, true, true, true, false, false, true, true, true, true, false, false] (by kernel_rfl) (by kernel_rfl) (by kernel_rfl) rfl (by kernel_rfl) (by rintro ⟨_, _, h⟩; exact h) (fun _ _ _ _ _ h => h) ?_
    have hS : W.drew.cell? ⟨z, 0, none⟩ = some (.slice (some ⟨g, off, none⟩) A.length ca) ∧ W.drew.cell? ⟨z + 1, 0, none⟩ = some (.int .i64 (k : Int)) := ⟨hc0, hc1⟩
    repeat (refine walkS_yes hS rfl (fun w' hw' => by obtain ⟨q0, q1⟩ := hw'; go_simp; rfl) ?_; simp only [Act.put, List.setIfInBounds_toArray, List.set_cons_zero, List.set_cons_succ])
    refine walkS_no rfl (fun K hK => ?_)
    go_simp
    refine hK _ _ hS ?_
    clear hK K
    refine walkS_no rfl (fun K hK => ?_)
    go_simp
    refine hK _ _ hS ?_
    clear hK K
    repeat (refine walkS_yes hS rfl (fun w' hw' => by obtain ⟨q0, q1⟩ := hw'; go_simp; rfl) ?_; simp only [Act.put, List.setIfInBounds_toArray, List.set_cons_zero, List.set_cons_succ])
    refine walkS_no rfl (fun K hK => ?_)
    go_simp
    refine hK _ _ ?_ ?_
    · exact ⟨(b0.other (by show g ≠ z; omega) _).drew.1, (b1.other (by show g ≠ z + 1; omega) _).drew.1⟩
    clear hK K
    refine walkS_no rfl (fun K hK => ?_)
    go_simp
    refine hK _ _ ?_ ?_
    · exact ⟨((b0.other (by show g ≠ z; omega) _).other (by show z + 2 ≠ z; omega) _).drew.1, ((b1.other (by show g ≠ z + 1; omega) _).other (by show z + 2 ≠ z + 1; omega) _).drew.1⟩
    clear hK K
    simp only [walkS]
    gi_wp2
    have s1 := h6.set (k := k) (by rw [List.length_append, List.length_drop, H1.out]; omega) r
    rw [set_mid H1.out hk] at s1
    refine ⟨keeps_drew (keeps_set (keeps_set (keeps_set (KeepsFrom.refl _ _) _ _) _ _) _ _), O ++ [r], q, by rw [List.length_append, H1.out]; rfl, hk, fits_snoc h3 HR1.out, hq1, ?_, ?_, ?_,
      (((b0.other (by show g ≠ z; omega) _).other (by show z + 2 ≠ z; omega) _).other (by show z + 1 ≠ z; omega) _).drew,
      (((b1.other (by show g ≠ z + 1; omega) _).other (by show z + 2 ≠ z + 1; omega) _).set _).drew,
      (((b2.other (by show g ≠ z + 2; omega) _).set _).other (by show z + 1 ≠ z + 2; omega) _).drew,
      (((b3.other (by show g ≠ z + 3; omega) _).other (by show z + 2 ≠ z + 3; omega) _).other (by show z + 1 ≠ z + 3; omega) _).drew,
      (((b4.other (by show g ≠ z + 4; omega) _).other (by show z + 2 ≠ z + 4; omega) _).other (by show z + 1 ≠ z + 4; omega) _).drew, ?_, ?_⟩
    · rw [lv_snoc, H1.out, show 2 ^ (64 * (k + 1)) = 2 ^ (64 * k) * 18446744073709551616 by rw [Nat.mul_add, Nat.pow_add]]
      exact HST.out
    · exact ((s1.other (by show z + 2 ≠ g; omega) _).other (by show z + 1 ≠ g; omega) _).drew
    · exact (((h7.other (p := ⟨g, off + k, none⟩) (fun h0 bl o e => (hne h0 bl o e).1) _).other (p := ⟨z + 2, 0, none⟩) (fun h0 bl o e => by have := hbl h0 bl o e; show bl ≠ z + 2; omega) _).other (p := ⟨z + 1, 0, none⟩) (fun h0 bl o e => by have := hbl h0 bl o e; show bl ≠ z + 1; omega) _).drew
    · show z + 5 ≤ (World.setCell _ _ _).heap.size
      rw [size_set, size_set, size_set]; exact hss
    · have hzz := HZ.out
      exact (((hw.setIn (by omega) (by omega) _).setNew hs.block (by show w.heap.size ≤ z + 2; omega) _).setNew hs.block (by show w.heap.size ≤ z + 1; omega) _).drew
  case done =>
    rintro D W hD ⟨O, c, h1, h2, h3, h4, h5, h6, h7, b0, b1, b2, b3, b4, hss, hw⟩ hK
    have hc2 := b2.1
    gi_wp2
    have H1 := Lib.hid h1
    have H5 := Lib.hid h5
    clear h1 h5
    refine ⟨by simp, .inl ⟨_, _, rfl, run_takeDeferred hK, ?_⟩⟩
    have b1 : Below W0.heap.size W (W.putObj D (.deferred none)) := below_putObj W D _ hD (by omega)
    have e1 := h6
    rw [List.drop_eq_nil_of_le (Nat.le_refl _), List.append_nil] at e1
    have e5 := H5.out
    rw [List.take_of_length_le (Nat.le_refl _), List.take_of_length_le hBA] at e5
    have hzz := HZ.out
    exact ⟨_, results_tmp rfl _ _ _, O, c, rfl, H1.out, h3, h4, e5, e1.below b1 (by omega), hw.after (b1.mono (by omega)) hs.block⟩
  case stop =>
    rintro D k W _ _ h _
    exact h.elim
end Go.Proofs.YtofpcdjoljjnoaaGreatDoor

namespace Go.Proofs.YtofpcdjoljjnoaaGreatDoor
open Go.RowKit

/-- How long a slice is. -/
def lenOf : Value → Nat | .slice _ n _ => n | _ => 0

theorem norm_prefix (A : List Nat) : norm A = A.take (norm A).length := by
  induction A with
  | nil => rfl
  | cons a A ih =>
    unfold norm
    split
    · rfl
    · rw [List.length_cons, List.take_succ_cons, ← ih]
theorem nrow_take {A : List Nat} (h : Fits A) : nrow (lv A) = A.take (nrow (lv A)).length := by
  have := norm_prefix A
  rwa [norm_eq h] at this
theorem nrow_le {A : List Nat} (h : Fits A) : (nrow (lv A)).length ≤ A.length := by
  have := congrArg List.length (nrow_take h)
  rw [List.length_take] at this
  omega
theorem NatAt.take {w : World} {a : Option Addr} {A : List Nat} (h : NatAt w a A) (k : Nat) : NatAt w a (A.take k) := fun i hi => by
  rw [List.length_take] at hi
  obtain ⟨b, off, e, hc⟩ := h i (by omega)
  exact ⟨b, off, e, by rw [hc]; simp [show i < k by omega]⟩
theorem NatAt.norm {w : World} {a : Option Addr} {A : List Nat} (h : NatAt w a A) (hf : Fits A) : NatAt w a (nrow (lv A)) := by
  rw [nrow_take hf]; exact h.take _

/-- What a call answers that changes nothing. -/
def Same (v : Value) (w : World) (e : Ending) (w' : World) : Prop := e = .returned v ∧ w = w'

set_option maxHeartbeats 1000000 in
theorem trim_any (a : Option Addr) (cap : Nat) (A : List Nat) (w : World) (hl : A.length ≤ 1099511627776) (hcap : A.length ≤ cap) (hf : Fits A) (hc : NatAt w a A) :
    Calls Tryz.prog 72 #[.slice a A.length cap] w (Same (.slice a (nrow (lv A)).length cap) w) := by
  have HC := Lib.hid hc
  have HF := Lib.hid hf
  clear hc hf
  go_enter Tryz.func72, Tryz.ntmps72
  go_wp2_with fail
  go_loop [0] (fun v => ∃ k : Nat, k ≤ A.length ∧ v = .slice a k cap ∧ lv A = lv (A.take k)) (fun v => lenOf v)
  case atStart => exact ⟨A.length, Nat.le_refl _, rfl, by rw [List.take_length]⟩
  case round =>
    obtain ⟨k, hk, rfl, hv⟩ := hrel
    have HV := Lib.hid hv
    clear hv
    rcases k with _ | k
    · have HE : Hid (nrow (lv A) = []) := Lib.hid (by rw [HV.out]; rfl)
      go_wp2_with fail
      go_ret
      exact ⟨by rw [HE.out]; rfl, rfl⟩
    · obtain ⟨b, off, rfl, hcell⟩ := HC.out k (by omega)
      have hkI : (k : Int) < (A.length : Int) := by omega
      have hk0 : (0 : Int) ≤ (k : Int) := by omega
      have hk1 : (k : Int) + 1 ≤ 1099511627776 := by omega
      have hk2 : k + 1 ≤ cap := by omega
      obtain ⟨x, hx⟩ : ∃ x : Nat, x = A.getD k 0 := ⟨_, rfl⟩
      rw [← hx] at hcell
      by_cases h0 : x = 0
      · subst h0
        have HV2 : Hid (lv A = lv (A.take k)) := Lib.hid (HV.out.trans (lv_take_zero (by omega) hx.symm))
        clear hx
        go_wp2_with fail
        go_round
        case rel => exact ⟨k, by omega, rfl, HV2.out⟩
        case measure => simp [lenOf]
      · have hb : ((x : Int) == 0) = false := beq_eq_false_iff_ne.2 (by omega)
        have HE : Hid (nrow (lv A) = A.take (k + 1)) := Lib.hid (by
          rw [HV.out]
          exact (nrow_of (fits_take HF.out _) (.inr (by rw [take_last (by omega), ← hx]; exact h0))).symm)
        have htl : (A.take (k + 1)).length = k + 1 := by rw [List.length_take]; omega
        have HTL := Lib.hid htl
        clear hx h0 htl
        go_wp2_with fail
        go_ret
        exact ⟨by rw [HE.out, HTL.out]; rfl, rfl⟩

def sgn (b : Bool) : Int := if b then -1 else 1
theorem sign_any (b : Bool) (w : World) : Calls Tryz.prog 98 #[.bool b] w (Same (.int .i64 (sgn b)) w) := by
  cases b
  all_goals
    go_enter Tryz.func98, Tryz.ntmps98
    go_wp2
    go_ret
    exact ⟨rfl, rfl⟩

theorem limb_any (a : Option Addr) (cap : Nat) (A : List Nat) (j : Int) (i : Nat) (hj : j = (i : Int)) (x : Nat) (hx : x = A.getD i 0) (w : World) (hc : NatAt w a A) :
    Calls Tryz.prog 128 #[.slice a A.length cap, .int .i64 j] w (Same (.int .u64 (x : Int)) w) := by
  subst hj
  have HC := Lib.hid hc
  clear hc
  have h0 : (0 : Int) ≤ (i : Int) := by omega
  by_cases h : i < A.length
  · obtain ⟨b, off, rfl, hcell⟩ := HC.out i h
    rw [← hx] at hcell
    clear hx
    have hI : (i : Int) < (A.length : Int) := by omega
    go_enter Tryz.func128, Tryz.ntmps128
    go_wp2
    go_ret
    exact ⟨rfl, rfl⟩
  · have hI : ¬ (i : Int) < (A.length : Int) := by omega
    obtain rfl : x = 0 := by rw [hx, List.getD_eq_getElem?_getD, List.getElem?_eq_none (by omega)]; rfl
    clear hx
    go_enter Tryz.func128, Tryz.ntmps128
    go_wp2
    go_ret
    exact ⟨rfl, rfl⟩

/-- Is one of them too long? -/
def anyLong (ls : List Nat) : Bool := ls.any fun n => decide (2048 < n)
theorem anyLong_take {ls : List Nat} {k : Nat} (hk : k < ls.length) (h : anyLong (ls.take k) = false) (hn : ¬ 2048 < ls.getD k 0) : anyLong (ls.take (k + 1)) = false := by
  unfold anyLong at *
  rw [List.take_succ_eq_append_getElem hk, List.any_append, h]
  rw [List.getD_eq_getElem?_getD, List.getElem?_eq_getElem hk] at hn
  simpa using hn
theorem anyLong_at {ls : List Nat} {k : Nat} (hk : k < ls.length) (hn : 2048 < ls.getD k 0) : anyLong ls = true := by
  unfold anyLong
  rw [List.getD_eq_getElem?_getD, List.getElem?_eq_getElem hk] at hn
  exact List.any_eq_true.2 ⟨ls[k], List.getElem_mem hk, by simpa using hn⟩

set_option maxHeartbeats 1000000 in
theorem tooLong_any (g cap : Nat) (ls : List Nat) (w : World) (hl : ls.length ≤ 1099511627776) (hc : ∀ i, i < ls.length → ∃ a c, w.cell? ⟨g, i, none⟩ = some (.slice a (ls.getD i 0) c)) :
    Calls Tryz.prog 83 #[.slice (some ⟨g, 0, none⟩) ls.length cap] w (Same (.bool (anyLong ls)) w) := by
  have HC := Lib.hid hc
  clear hc
  go_enter Tryz.func83, Tryz.ntmps83
  go_wp2_with fail
  go_loop [7] (fun i => ∃ k : Nat, k ≤ ls.length ∧ i = .int .i64 (k : Int) ∧ anyLong (ls.take k) = false) (fun i => ls.length - (intOf i).toNat)
  case atStart => exact ⟨0, Nat.zero_le _, rfl, rfl⟩
  case round =>
    obtain ⟨k, hk, rfl, hv⟩ := hrel
    have HV := Lib.hid hv
    clear hv
    have hk0 : (0 : Int) ≤ (k : Int) := by omega
    by_cases hlt : k < ls.length
    · obtain ⟨a, c, hcell⟩ := HC.out k hlt
      have hI : (k : Int) < (ls.length : Int) := by omega
      obtain ⟨n, hn⟩ : ∃ n, n = ls.getD k 0 := ⟨_, rfl⟩
      rw [← hn] at hcell
      by_cases hbig : 2048 < n
      · have hb : (2048 : Int) < (n : Int) := by omega
        have HE : Hid (anyLong ls = true) := Lib.hid (anyLong_at hlt (by rw [← hn]; exact hbig))
        clear hn hbig
        go_wp2_with fail
        go_ret
        exact ⟨by rw [HE.out]; rfl, rfl⟩
      · have hb : (n : Int) ≤ 2048 := by omega
        have HE : Hid (anyLong (ls.take (k + 1)) = false) := Lib.hid (anyLong_take hlt HV.out (by rw [← hn]; exact hbig))
        clear hn hbig
        go_wp2_with fail
        go_round
        case rel => exact ⟨k + 1, by omega, by go_num, HE.out⟩
        case measure => simp [intOf]; omega
    · obtain rfl : k = ls.length := by omega
      have HE : Hid (anyLong ls = false) := Lib.hid (by have := HV.out; rwa [List.take_length] at this)
      go_wp2_with fail
      go_ret
      exact ⟨by rw [HE.out]; rfl, rfl⟩
end Go.Proofs.YtofpcdjoljjnoaaGreatDoor

namespace Go.Proofs.YtofpcdjoljjnoaaGreatDoor
open Go.RowKit Go.Shelf
attribute [local go_sem] Oper.semAt_some wide_fn

/-- The second number lies apart from the first, or is the first itself. -/
def Beside (g off z : Nat) (b : Option Addr) (A B : List Nat) (W : World) : Prop :=
  ((0 < B.length → ∀ bl o, b = some ⟨bl, o, none⟩ → bl ≠ g ∧ bl < z) ∧ NatAt W b B) ∨ (b = some ⟨g, off, none⟩ ∧ B = A)
theorem Beside.below {g off z n : Nat} {b : Option Addr} {A B : List Nat} {W W' : World} (h : Beside g off z b A B W) (hb : Below n W W') (hn : z ≤ n) : Beside g off z b A B W' := by
  rcases h with ⟨h1, h2⟩ | h
  · refine .inl ⟨h1, fun i hi => ?_⟩
    obtain ⟨bl, o, e, hc⟩ := h2 i hi
    exact ⟨bl, o, e, (hb.cell (p := ⟨bl, o + i, none⟩) (by show bl < n; have := (h1 (by omega) bl o e).2; omega)).trans hc⟩
  · exact .inr h
theorem Beside.set {g off z o : Nat} {b : Option Addr} {A B : List Nat} {W : World} (h : Beside g off z b A B W) (v : Value) : Beside g off z b A B (W.setCell ⟨g, o, none⟩ v) := by
  rcases h with ⟨h1, h2⟩ | h
  · exact .inl ⟨h1, h2.other (p := ⟨g, o, none⟩) (fun h0 bl o e => (h1 h0 bl o e).1) v⟩
  · exact .inr h
theorem Beside.other {g off z : Nat} {b : Option Addr} {A B : List Nat} {W : World} (h : Beside g off z b A B W) {p : Addr} (hp : z ≤ p.block) (v : Value) : Beside g off z b A B (W.setCell p v) := by
  rcases h with ⟨h1, h2⟩ | h
  · exact .inl ⟨h1, h2.other (fun h0 bl o e => by have := (h1 h0 bl o e).2; omega) v⟩
  · exact .inr h
theorem Beside.drew {g off z : Nat} {b : Option Addr} {A B : List Nat} {W : World} (h : Beside g off z b A B W) : Beside g off z b A B W.drew := h
theorem Beside.from {g off z k : Nat} {b : Option Addr} {O A B : List Nat} {W : World} (h : Beside g off z b A B W) (hs : Seg W g off (O ++ A.drop k)) (hO : O.length = k) (hk : k ≤ A.length) : NatFrom k W b B := by
  rcases h with ⟨_, h2⟩ | ⟨rfl, rfl⟩
  · exact h2.from k
  · exact hs.from hO hk

theorem mul_small {y n : Nat} (hy : y < 18446744073709551616) (hn : n < 18446744073709551616) : y * n ≤ 18446744073709551615 * 18446744073709551615 := Nat.mul_le_mul (by omega) (by omega)
def TimesAt (z g off ca cb n : Nat) (b : Option Addr) (A B : List Nat) (w : World) (k : Nat) (W : World) : Prop :=
  ∃ (O : List Nat) (c : Nat), O.length = k ∧ k ≤ A.length ∧ Fits O ∧ c < 18446744073709551616 ∧ lv O + 2 ^ (64 * k) * c = lv (A.take k) + n * lv (B.take k) ∧ Seg W g off (O ++ A.drop k) ∧ Beside g off z b A B W ∧
    Box W z (.slice (some ⟨g, off, none⟩) A.length ca) ∧ Box W (z + 1) (.int .u64 (n : Int)) ∧ Box W (z + 2) (.int .i64 (k : Int)) ∧ Box W (z + 3) (.int .u64 (c : Int)) ∧ Box W (z + 4) (.slice (some ⟨g, off, none⟩) A.length ca) ∧ Box W (z + 5) (.slice b B.length cb) ∧
    z + 6 ≤ W.heap.size ∧ Wrote g off (off + A.length) w W

theorem TimesAt.below {z g off ca cb n : Nat} {b : Option Addr} {A B : List Nat} {w : World} {k : Nat} {W W' : World} (hg : g < z) (hz : z = w.heap.size) (hb : Below (z + 6) W W') (h : TimesAt z g off ca cb n b A B w k W) : TimesAt z g off ca cb n b A B w k W' := by
  obtain ⟨O, c, h1, h2, h3, h4, h5, h6, h7, b0, b1, b2, b3, b4, b5, hs, hw⟩ := h
  exact ⟨O, c, h1, h2, h3, h4, h5, h6.below hb (by omega), h7.below hb (by omega), b0.below hb (by omega), b1.below hb (by omega), b2.below hb (by omega), b3.below hb (by omega), b4.below hb (by omega), b5.below hb (by omega), Nat.le_trans hs hb.size, hw.after (hb.mono (by omega)) (by omega)⟩

end Go.Proofs.YtofpcdjoljjnoaaGreatDoor

namespace Go.Proofs.YtofpcdjoljjnoaaGreatDoor
set_option maxRecDepth 100000
open Go.RowKit

/-- Two digits a limb. -/
def pairs : List Nat → List Nat
  | [] => []
  | [a] => [a]
  | a :: b :: l => (a + b * 4294967296) :: pairs l
theorem pairs_length : ∀ l : List Nat, (pairs l).length = (l.length + 1) / 2
  | [] => rfl
  | [a] => by simp [pairs]
  | a :: b :: l => by simp [pairs, pairs_length l]; omega
theorem lv_pairs : ∀ l : List Nat, lv (pairs l) = dv l
  | [] => rfl
  | [a] => by simp [pairs, lv, dv]
  | a :: b :: l => by simp only [pairs, lv, dv, lv_pairs l]; omega
theorem pairs_fits : ∀ l : List Nat, Small l → Fits (pairs l)
  | [], _ => fun x hx => by cases hx
  | [a], h => fun x hx => by
    have := h a (by simp)
    simp [pairs] at hx; omega
  | a :: b :: l, h => fun x hx => by
    have ha := h a (by simp)
    have hb := h b (by simp)
    have hr := pairs_fits l (fun y hy => h y (by simp [hy]))
    simp only [pairs, List.mem_cons] at hx
    rcases hx with rfl | hx
    · omega
    · exact hr x hx

/-- The limbs as far as k digits have been laid. -/
def laidD (l : List Nat) (k : Nat) : List Nat := pairs (l.take k) ++ List.replicate ((l.length + 1) / 2 - (k + 1) / 2) 0
theorem laidD_length (l : List Nat) (k : Nat) (hk : k ≤ l.length) : (laidD l k).length = (l.length + 1) / 2 := by
  unfold laidD
  rw [List.length_append, List.length_replicate, pairs_length, List.length_take, Nat.min_eq_left hk]; omega
theorem laidD_zero (l : List Nat) : laidD l 0 = List.replicate ((l.length + 1) / 2) 0 := by simp [laidD, pairs]
theorem laidD_all (l : List Nat) : laidD l l.length = pairs l := by simp [laidD]

theorem pairs_even : ∀ (l : List Nat) (a : Nat), l.length % 2 = 0 → pairs (l ++ [a]) = pairs l ++ [a]
  | [], a, _ => rfl
  | [b], a, h => by simp at h
  | b :: c :: l, a, h => by
    have := pairs_even l a (by simp at h; omega)
    simp [pairs, this]
theorem pairs_odd : ∀ (l : List Nat) (a b : Nat), l.length % 2 = 0 → pairs (l ++ [a, b]) = pairs l ++ [a + b * 4294967296]
  | [], a, b, _ => rfl
  | [c], a, b, h => by simp at h
  | c :: d :: l, a, b, h => by
    have := pairs_odd l a b (by simp at h; omega)
    simp [pairs, this]

theorem laid_even (l : List Nat) (k : Nat) (hk : k < l.length) (he : k % 2 = 0) : (laidD l k).set (k / 2) (l.getD k 0) = laidD l (k + 1) := by
  have hlen : (pairs (l.take k)).length = k / 2 := by rw [pairs_length, List.length_take]; omega
  have ht : l.take (k + 1) = l.take k ++ [l.getD k 0] := by
    rw [List.take_succ_eq_append_getElem hk, List.getD_eq_getElem?_getD, List.getElem?_eq_getElem hk]; rfl
  have e : (l.length + 1) / 2 - (k + 1) / 2 = ((l.length + 1) / 2 - (k + 1 + 1) / 2) + 1 := by omega
  unfold laidD
  rw [ht, pairs_even _ _ (by rw [List.length_take]; omega), e, List.replicate_succ, List.set_append_right _ _ (by omega), hlen, Nat.sub_self]
  simp
theorem laid_odd (l : List Nat) (k : Nat) (hk : k < l.length) (he : k % 2 = 1) : (laidD l k).getD (k / 2) 0 = l.getD (k - 1) 0 ∧ (laidD l k).set (k / 2) (l.getD (k - 1) 0 + l.getD k 0 * 4294967296) = laidD l (k + 1) := by
  obtain ⟨j, rfl⟩ : ∃ j, k = j + 1 := ⟨k - 1, by omega⟩
  have hj : j < l.length := by omega
  have ht1 : l.take (j + 1) = l.take j ++ [l.getD j 0] := by
    rw [List.take_succ_eq_append_getElem hj, List.getD_eq_getElem?_getD, List.getElem?_eq_getElem hj]; rfl
  have ht2 : l.take (j + 1 + 1) = l.take j ++ [l.getD j 0, l.getD (j + 1) 0] := by
    rw [List.take_succ_eq_append_getElem hk, ht1, List.append_assoc, List.getD_eq_getElem?_getD (l := l) (i := j + 1), List.getElem?_eq_getElem hk]; rfl
  have hev : (l.take j).length % 2 = 0 := by rw [List.length_take]; omega
  have hlen : (pairs (l.take j)).length = (j + 1) / 2 := by rw [pairs_length, List.length_take]; omega
  have e : (l.length + 1) / 2 - (j + 1 + 1) / 2 = (l.length + 1) / 2 - (j + 1 + 1 + 1) / 2 := by omega
  unfold laidD
  rw [ht1, ht2, pairs_even _ _ hev, pairs_odd _ _ _ hev, Nat.add_sub_cancel, e]
  constructor
  · rw [List.getD_eq_getElem?_getD, List.append_assoc, List.getElem?_append_right (by omega), hlen, Nat.sub_self]; rfl
  · rw [List.append_assoc, List.set_append_right _ _ (by omega), hlen, Nat.sub_self]; simp

def MadeRel (l : List Nat) (n g : Nat) (w : World) (i : Value) (wr : World) : Prop :=
  ∃ k : Nat, k ≤ l.length ∧ i = .int .i64 (k : Int) ∧ wr.ownsRow w.heap.size 100 1 (.slice (some ⟨g, 0, none⟩) n n) n (U (laidD l k)) ∧ Below w.heap.size w wr

theorem U_zeros (n : Nat) : U (List.replicate n 0) = List.replicate n (.int .u64 0) := by simp [U]
theorem small_get {l : List Nat} (h : Small l) (i : Nat) : l.getD i 0 < 4294967296 := by
  rcases Nat.lt_or_ge i l.length with hi | hi
  · rw [List.getD_eq_getElem?_getD, List.getElem?_eq_getElem hi]; exact h _ (List.getElem_mem hi)
  · rw [List.getD_eq_getElem?_getD, List.getElem?_eq_none hi]; decide

set_option maxHeartbeats 4000000 in
theorem nmade_any (A : Option Addr) (cap : Nat) (l : List Nat) (w : World) (hl : l.length ≤ 1099511627776) (hs : Small l) (hc : NatAt w A l) :
    Calls Tryz.prog 109 #[.slice A l.length cap] w (NRes w (dv l)) := by
  obtain ⟨i0, hi, hz0, hz1, hz2⟩ := info_parts info_u64
  have HC := Lib.hid hc
  have HSM := Lib.hid hs
  have hlI : (l.length : Int) ≤ 1099511627776 := by omega
  obtain ⟨n, hn⟩ : ∃ n, n = (l.length + 1) / 2 := ⟨_, rfl⟩
  have HK : Hid (((l.length : Int) + 1) / 2 = (n : Int)) := Lib.hid (by omega)
  have HNN := Lib.hid hn
  have hn1 : n ≤ 1099511627776 := by omega
  have hZ : Hid (∀ w0 : World, w0.ownsRow w.heap.size 100 1 (.slice (some ⟨w.heap.size, 0, none⟩) n n) n (madeCells (Value.int .u64 0).cells (n * 1)).toList → w0.ownsRow w.heap.size 100 1 (.slice (some ⟨w.heap.size, 0, none⟩) n n) n (U (laidD l 0))) := Lib.hid (fun w0 h => by
    rw [show (Value.int .u64 0).cells = #[.int .u64 0] from rfl, toList_madeCells_one, Nat.mul_one] at h
    rw [laidD_zero, U_zeros, ← hn]; exact h)
  clear hc hs hn
  go_enter Tryz.func109, Tryz.ntmps109
  go_wp2_with (
    (at_make
     refine wpList_make_full _ rfl _ _ 42 rfl w.heap.size 100 i0 (.int .u64 0) 1 Tryz.underlying42 hi hz0 hz1 .i64 .i64 _ _ n rfl rfl HK.out HK.out (by rw [hz2]; omega) (by unfold maxLen; omega) (Nat.le_refl _) ?_
     intro w0 hown0 hg0
     have HO := Lib.hid (hZ.out w0 hown0)
     have HB : Hid (Below w.heap.size w w0) := Lib.hid ((Below.refl _ w).grown hg0 (Nat.le_refl _) (fun k hk => by cases hk))
     clear hown0 hg0))
  obtain ⟨g, hg⟩ : ∃ g, g = w.heap.size := ⟨_, rfl⟩
  have HG : Hid (w.heap.size ≤ g) := Lib.hid (by omega)
  have HO2 : Hid (w0.ownsRow w.heap.size 100 1 (.slice (some ⟨g, 0, none⟩) n n) n (U (laidD l 0))) := Lib.hid (by rw [hg]; exact HO.out)
  rw [← hg]
  clear hg HO hZ
  go_loopw [4] (fun i wr => MadeRel l n g w i wr) (fun i _ => l.length - (intOf i).toNat)
  case atStart => exact ⟨0, by omega, rfl, HO2.out, HB.out⟩
  case round =>
    obtain ⟨k, hk, rfl, hown, hbel⟩ := hrel
    have HOW := Lib.hid hown
    have HBL := Lib.hid hbel
    have HLE := Lib.hid (laidD_length l k hk)
    clear hown hbel
    obtain ⟨j, hj⟩ : ∃ j : Int, j = (k : Int) := ⟨_, rfl⟩
    have HJ := Lib.hid hj
    rw [← hj]
    have hj0 : 0 ≤ j := by omega
    by_cases hlt : k < l.length
    · have hjI : j < (l.length : Int) := by omega
      have HLT := Lib.hid hlt
      have hto : j.toNat = k := by omega
      obtain ⟨b, off, rfl, hbw, h1⟩ := HC.out.lt hlt
      have h2 : wr.cell? ⟨b, off + j.toNat, none⟩ = some (.int .u64 ((l.getD k 0 : Nat) : Int)) := by rw [hto]; exact (HBL.out.cell (p := ⟨b, off + k, none⟩) hbw).trans h1
      have hqn : k / 2 < n := by have := HNN.out; omega
      have HQ : Hid ((j / 2).toNat = k / 2) := Lib.hid (by omega)
      have hq0 : 0 ≤ j / 2 := by omega
      have hqI : j / 2 < (n : Int) := by omega
      have h3 : wr.cell? ⟨g, (j / 2).toNat, none⟩ = some (.int .u64 (((laidD l k).getD (k / 2) 0 : Nat) : Int)) := by
        rw [HQ.out, World.ownsRow.cellAt HOW.out _ (by omega), U_get (by rw [HLE.out, ← HNN.out]; exact hqn)]
      have h4 : wr.frozen? ⟨g, (j / 2).toNat, none⟩ = false := World.ownsRow.frozenAt HOW.out _
      by_cases he : k % 2 = 0
      · have heB : (j % 2 == 0) = true := beq_iff_eq.2 (by omega)
        have HS : Hid (wr.setCell ⟨g, k / 2, none⟩ (.int .u64 ((l.getD k 0 : Nat) : Int)) |>.ownsRow w.heap.size 100 1 (.slice (some ⟨g, 0, none⟩) n n) n (U (laidD l (k + 1)))) := Lib.hid (by
          rw [← laid_even l k hlt he, ← U_set]
          exact (World.ownsRow.stored HOW.out (k / 2) _).1)
        generalize l.getD k 0 = x at *
        generalize (laidD l k).getD (k / 2) 0 = y at *
        clear h1 he hto hj hlt
        go_wp2_with fail
        rw [HQ.out]
        go_roundw
        case rel => exact ⟨k + 1, HLT.out, by rw [HJ.out]; go_num, HS.out, HBL.out.setCell (p := ⟨g, k / 2, none⟩) HG.out _⟩
        case measure => have := HJ.out; have := HLT.out; simp [intOf]; omega
      · have heB : (j % 2 == 0) = false := beq_eq_false_iff_ne.2 (by omega)
        obtain ⟨hy, hset⟩ := laid_odd l k hlt (by omega)
        have hx1 := small_get HSM.out k
        have hx2 := small_get HSM.out (k - 1)
        rw [hy] at h3
        have HS : Hid (wr.setCell ⟨g, k / 2, none⟩ (.int .u64 (((l.getD (k - 1) 0 + l.getD k 0 * 4294967296 : Nat) : Int))) |>.ownsRow w.heap.size 100 1 (.slice (some ⟨g, 0, none⟩) n n) n (U (laidD l (k + 1)))) := Lib.hid (by
          rw [← hset, ← U_set]
          exact (World.ownsRow.stored HOW.out (k / 2) _).1)
        obtain ⟨x, hx⟩ : ∃ x : Int, x = ((l.getD k 0 : Nat) : Int) := ⟨_, rfl⟩
        obtain ⟨y, hyy⟩ : ∃ y : Int, y = ((l.getD (k - 1) 0 : Nat) : Int) := ⟨_, rfl⟩
        have hS2 : ((l.getD (k - 1) 0 + l.getD k 0 * 4294967296 : Nat) : Int) = y + x * 4294967296 := by omega
        rw [hS2] at HS
        rw [← hx] at h2
        rw [← hyy] at h3
        have x0 : 0 ≤ x := by omega
        have x1 : x < 4294967296 := by omega
        have y0 : 0 ≤ y := by omega
        have y1 : y < 4294967296 := by omega
        clear h1 he hto hj hlt hy hset hx hyy hS2 hx1 hx2
        go_wp2_with fail
        go_region
        go_wp2_with fail
        rw [HQ.out]
        go_roundw
        case rel => exact ⟨k + 1, HLT.out, by rw [HJ.out]; go_num, HS.out, (HBL.out.setCell (p := ⟨g, k / 2, none⟩) HG.out _).drew⟩
        case measure => have := HJ.out; have := HLT.out; simp [intOf]; omega
    · have hjI : (l.length : Int) ≤ j := by omega
      obtain rfl : k = l.length := by omega
      have hown := HOW.out
      rw [laidD_all] at hown
      have hpl : (pairs l).length = n := by rw [pairs_length, HNN.out]
      have HNA : Hid (NatAt wr (some ⟨g, 0, none⟩) (pairs l)) := Lib.hid (fun i hi => ⟨g, 0, rfl, by rw [Nat.zero_add, World.ownsRow.cellAt hown i (by omega), U_get hi]⟩)
      have hN := nnorm_any (some ⟨g, 0, none⟩) n (pairs l) wr (by omega) (by omega) (fun h => by cases h) (pairs_fits l HSM.out) HNA.out
      rw [lv_pairs, hpl] at hN
      have HN := Lib.hid hN
      clear hN hown hpl hlt hj
      go_wp2_with fail
      refine HN.out.mono ?_
      rintro e w1 ⟨v1, rfl, hv1, b1⟩
      have HV := Lib.hid hv1
      have HB1 := Lib.hid b1
      clear hv1 b1
      go_wp2_with fail
      go_ret
      exact ⟨_, rfl, HV.out.more HBL.out.size, HBL.out.trans (HB1.out.mono HBL.out.size)⟩
end Go.Proofs.YtofpcdjoljjnoaaGreatDoor
