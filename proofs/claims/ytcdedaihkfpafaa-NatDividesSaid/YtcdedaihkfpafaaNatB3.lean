/-
  LAYER 3: the texts NatTrim, NatSmall, NatQSum, NatQMul, one behind the other.
-/
import Derived.Test.YtcdedaihkfpafaaNatB1
import Derived.Test.YtcdedaihkfpafaaNatB2
import Derived.Test.YtcdedaihkfpafaaNatA2
import Derived.Test.YtcdedaihkfpafaaNatA3
import Derived.Laws.CopyOwn

namespace Go.Proofs.Ytcdedaihkfpafaa
open Go.RowKit

/-- How long a slice is. -/
def lenOf : Value → Nat | .slice _ n _ => n | _ => 0

theorem norm_prefix (A : List Nat) : norm A = A.take (norm A).length := by
  induction A with
  | nil => rfl
  | cons a A ih =>
    unfold norm
    split
    · rfl
    · rw [List.length_cons, List.take_succ_cons, ← ih]
theorem nrow_take {A : List Nat} (h : Fits A) : nrow (lv A) = A.take (nrow (lv A)).length := by
  have := norm_prefix A
  rwa [norm_eq h] at this
theorem nrow_le {A : List Nat} (h : Fits A) : (nrow (lv A)).length ≤ A.length := by
  have := congrArg List.length (nrow_take h)
  rw [List.length_take] at this
  omega
theorem NatAt.take {w : World} {a : Option Addr} {A : List Nat} (h : NatAt w a A) (k : Nat) : NatAt w a (A.take k) := fun i hi => by
  rw [List.length_take] at hi
  obtain ⟨b, off, e, hc⟩ := h i (by omega)
  exact ⟨b, off, e, by rw [hc]; simp [show i < k by omega]⟩
theorem NatAt.norm {w : World} {a : Option Addr} {A : List Nat} (h : NatAt w a A) (hf : Fits A) : NatAt w a (nrow (lv A)) := by
  rw [nrow_take hf]; exact h.take _

/-- What a call answers that changes nothing. -/
def Same (v : Value) (w : World) (e : Ending) (w' : World) : Prop := e = .returned v ∧ w = w'

set_option maxHeartbeats 1000000 in
theorem trim_any (a : Option Addr) (cap : Nat) (A : List Nat) (w : World) (hl : A.length ≤ 1099511627776) (hcap : A.length ≤ cap) (hf : Fits A) (hc : NatAt w a A) :
    Calls Try.prog 29 #[.slice a A.length cap] w (Same (.slice a (nrow (lv A)).length cap) w) := by
  have HC := Lib.hid hc
  have HF := Lib.hid hf
  clear hc hf
  go_enter Try.func29, Try.ntmps29
  go_wp2_with fail
  go_loop [0] (fun v => ∃ k : Nat, k ≤ A.length ∧ v = .slice a k cap ∧ lv A = lv (A.take k)) (fun v => lenOf v)
  case atStart => exact ⟨A.length, Nat.le_refl _, rfl, by rw [List.take_length]⟩
  case round =>
    obtain ⟨k, hk, rfl, hv⟩ := hrel
    have HV := Lib.hid hv
    clear hv
    rcases k with _ | k
    · have HE : Hid (nrow (lv A) = []) := Lib.hid (by rw [HV.out]; rfl)
      go_wp2_with fail
      go_ret
      exact ⟨by rw [HE.out]; rfl, rfl⟩
    · obtain ⟨b, off, rfl, hcell⟩ := HC.out k (by omega)
      have hkI : (k : Int) < (A.length : Int) := by omega
      have hk0 : (0 : Int) ≤ (k : Int) := by omega
      have hk1 : (k : Int) + 1 ≤ 1099511627776 := by omega
      have hk2 : k + 1 ≤ cap := by omega
      obtain ⟨x, hx⟩ : ∃ x : Nat, x = A.getD k 0 := ⟨_, rfl⟩
      rw [← hx] at hcell
      by_cases h0 : x = 0
      · subst h0
        have HV2 : Hid (lv A = lv (A.take k)) := Lib.hid (HV.out.trans (lv_take_zero (by omega) hx.symm))
        clear hx
        go_wp2_with fail
        go_round
        case rel => exact ⟨k, by omega, rfl, HV2.out⟩
        case measure => simp [lenOf]
      · have hb : ((x : Int) == 0) = false := beq_eq_false_iff_ne.2 (by omega)
        have HE : Hid (nrow (lv A) = A.take (k + 1)) := Lib.hid (by
          rw [HV.out]
          exact (nrow_of (fits_take HF.out _) (.inr (by rw [take_last (by omega), ← hx]; exact h0))).symm)
        have htl : (A.take (k + 1)).length = k + 1 := by rw [List.length_take]; omega
        have HTL := Lib.hid htl
        clear hx h0 htl
        go_wp2_with fail
        go_ret
        exact ⟨by rw [HE.out, HTL.out]; rfl, rfl⟩

def sgn (b : Bool) : Int := if b then -1 else 1
theorem sign_any (b : Bool) (w : World) : Calls Try.prog 66 #[.bool b] w (Same (.int .i64 (sgn b)) w) := by
  cases b
  all_goals
    go_enter Try.func66, Try.ntmps66
    go_wp2
    go_ret
    exact ⟨rfl, rfl⟩

theorem limb_any (a : Option Addr) (cap : Nat) (A : List Nat) (j : Int) (i : Nat) (hj : j = (i : Int)) (x : Nat) (hx : x = A.getD i 0) (w : World) (hc : NatAt w a A) :
    Calls Try.prog 62 #[.slice a A.length cap, .int .i64 j] w (Same (.int .u64 (x : Int)) w) := by
  subst hj
  have HC := Lib.hid hc
  clear hc
  have h0 : (0 : Int) ≤ (i : Int) := by omega
  by_cases h : i < A.length
  · obtain ⟨b, off, rfl, hcell⟩ := HC.out i h
    rw [← hx] at hcell
    clear hx
    have hI : (i : Int) < (A.length : Int) := by omega
    go_enter Try.func62, Try.ntmps62
    go_wp2
    go_ret
    exact ⟨rfl, rfl⟩
  · have hI : ¬ (i : Int) < (A.length : Int) := by omega
    obtain rfl : x = 0 := by rw [hx, List.getD_eq_getElem?_getD, List.getElem?_eq_none (by omega)]; rfl
    clear hx
    go_enter Try.func62, Try.ntmps62
    go_wp2
    go_ret
    exact ⟨rfl, rfl⟩

/-- Is one of them too long? -/
def anyLong (ls : List Nat) : Bool := ls.any fun n => decide (2048 < n)
theorem anyLong_take {ls : List Nat} {k : Nat} (hk : k < ls.length) (h : anyLong (ls.take k) = false) (hn : ¬ 2048 < ls.getD k 0) : anyLong (ls.take (k + 1)) = false := by
  unfold anyLong at *
  rw [List.take_succ_eq_append_getElem hk, List.any_append, h]
  rw [List.getD_eq_getElem?_getD, List.getElem?_eq_getElem hk] at hn
  simpa using hn
theorem anyLong_at {ls : List Nat} {k : Nat} (hk : k < ls.length) (hn : 2048 < ls.getD k 0) : anyLong ls = true := by
  unfold anyLong
  rw [List.getD_eq_getElem?_getD, List.getElem?_eq_getElem hk] at hn
  exact List.any_eq_true.2 ⟨ls[k], List.getElem_mem hk, by simpa using hn⟩

set_option maxHeartbeats 1000000 in
theorem tooLong_any (g cap : Nat) (ls : List Nat) (w : World) (hl : ls.length ≤ 1099511627776) (hc : ∀ i, i < ls.length → ∃ a c, w.cell? ⟨g, i, none⟩ = some (.slice a (ls.getD i 0) c)) :
    Calls Try.prog 30 #[.slice (some ⟨g, 0, none⟩) ls.length cap] w (Same (.bool (anyLong ls)) w) := by
  have HC := Lib.hid hc
  clear hc
  go_enter Try.func30, Try.ntmps30
  go_wp2_with fail
  go_loop [7] (fun i => ∃ k : Nat, k ≤ ls.length ∧ i = .int .i64 (k : Int) ∧ anyLong (ls.take k) = false) (fun i => ls.length - (intOf i).toNat)
  case atStart => exact ⟨0, Nat.zero_le _, rfl, rfl⟩
  case round =>
    obtain ⟨k, hk, rfl, hv⟩ := hrel
    have HV := Lib.hid hv
    clear hv
    have hk0 : (0 : Int) ≤ (k : Int) := by omega
    by_cases hlt : k < ls.length
    · obtain ⟨a, c, hcell⟩ := HC.out k hlt
      have hI : (k : Int) < (ls.length : Int) := by omega
      obtain ⟨n, hn⟩ : ∃ n, n = ls.getD k 0 := ⟨_, rfl⟩
      rw [← hn] at hcell
      by_cases hbig : 2048 < n
      · have hb : (2048 : Int) < (n : Int) := by omega
        have HE : Hid (anyLong ls = true) := Lib.hid (anyLong_at hlt (by rw [← hn]; exact hbig))
        clear hn hbig
        go_wp2_with fail
        go_ret
        exact ⟨by rw [HE.out]; rfl, rfl⟩
      · have hb : (n : Int) ≤ 2048 := by omega
        have HE : Hid (anyLong (ls.take (k + 1)) = false) := Lib.hid (anyLong_take hlt HV.out (by rw [← hn]; exact hbig))
        clear hn hbig
        go_wp2_with fail
        go_round
        case rel => exact ⟨k + 1, by omega, by go_num, HE.out⟩
        case measure => simp [intOf]; omega
    · obtain rfl : k = ls.length := by omega
      have HE : Hid (anyLong ls = false) := Lib.hid (by have := HV.out; rwa [List.take_length] at this)
      go_wp2_with fail
      go_ret
      exact ⟨by rw [HE.out]; rfl, rfl⟩
end Go.Proofs.Ytcdedaihkfpafaa

namespace Go.Proofs.Ytcdedaihkfpafaa
open Go.RowKit

/-- A slice that tells a number, normal. -/
def NTr (w : World) (v : Value) (n : Nat) : Prop :=
  ∃ a cap, v = .slice a (nrow n).length cap ∧ (nrow n).length ≤ cap ∧ (a = none → cap = 0) ∧ NatAt w a (nrow n)
theorem NTr.below {n : Nat} {w w' : World} {v : Value} (h : NTr w v n) (hb : Below w.heap.size w w') : NTr w' v n := by
  obtain ⟨a, cap, h1, h2, h3, h4⟩ := h
  exact ⟨a, cap, h1, h2, h3, h4.below hb (Nat.le_refl _)⟩
theorem NTr.num {n K : Nat} {w : World} {v : Value} (h : NTr w v n) (hK : (nrow n).length ≤ K) : NNum K w v n := by
  obtain ⟨a, cap, rfl, h2, h3, h4⟩ := h
  exact ⟨a, cap, nrow n, rfl, h2, h3, nrow_fits n, h4, lv_nrow n, hK⟩
theorem NNum.rowLen {K n : Nat} {w : World} {v : Value} (h : NNum K w v n) : (nrow n).length ≤ K := by
  obtain ⟨a, cap, L, _, _, _, h4, _, rfl, h7⟩ := h
  exact Nat.le_trans (nrow_le h4) h7
theorem NRow.none_cap {B : Nat} {w : World} {a : Option Addr} {n cap : Nat} {L : List Nat} (h : NRow B w (.slice a n cap) L) : a = none → cap = 0 := by
  rintro rfl
  rcases h.2 with ⟨he, _⟩ | ⟨g, cap', cur, he, _⟩
  · cases he; rfl
  · cases he
theorem NRow.norm {B : Nat} {w : World} {a : Option Addr} {cap : Nat} {L : List Nat} (h : NRow B w (.slice a L.length cap) L) (hf : Fits L) : NRow B w (.slice a (nrow (lv L)).length cap) (nrow (lv L)) := by
  have ht := nrow_take hf
  rcases h.2 with ⟨he, h0⟩ | ⟨g, cap', cur, he, _⟩
  · obtain rfl : L = [] := List.eq_nil_of_length_eq_zero h0
    cases he
    exact NRow.nil _ _
  · injection he with h1
    subst h1
    have e : L = nrow (lv L) ++ L.drop (nrow (lv L)).length := by
      conv => lhs; rw [← List.take_append_drop (nrow (lv L)).length L]
      rw [← ht]
    generalize lv L = n at *
    rw [e] at h
    exact h.take
theorem NRow.tr {B n : Nat} {w : World} {v : Value} (h : NRow B w v (nrow n)) : NTr w v n := by
  obtain ⟨a, cap, rfl, hc, _, hat⟩ := h.at_
  exact ⟨a, cap, rfl, hc, h.none_cap, hat⟩

/-- What trim answers of a number; and of a row of the call's own. -/
def TrimPost (n : Nat) (w : World) (e : Ending) (w' : World) : Prop := ∃ v, e = .returned v ∧ NTr w v n ∧ w = w'
theorem trim_v {K n : Nat} {w : World} {v : Value} (h : NNum K w v n) (hK : K ≤ 1099511627776) : Calls Try.prog 29 #[v] w (TrimPost n w) := by
  obtain ⟨a, cap, L, rfl, h2, h3, h4, h5, rfl, h7⟩ := h
  refine (trim_any a cap L w (by omega) h2 h4 h5).mono ?_
  rintro e w' ⟨rfl, rfl⟩
  exact ⟨_, rfl, ⟨a, cap, rfl, by have := nrow_le h4; omega, h3, h5.norm h4⟩, rfl⟩
def TrimOwn (B n : Nat) (w : World) (e : Ending) (w' : World) : Prop := ∃ v, e = .returned v ∧ NRow B w v (nrow n) ∧ w = w'
theorem trim_own {B : Nat} {w : World} {v : Value} {L : List Nat} (h : NRow B w v L) (hf : Fits L) (hl : L.length ≤ 1099511627776) : Calls Try.prog 29 #[v] w (TrimOwn B (lv L) w) := by
  obtain ⟨a, cap, rfl, hc, _, hat⟩ := h.at_
  refine (trim_any a cap L w hl hc hf hat).mono ?_
  rintro e w' ⟨rfl, rfl⟩
  exact ⟨_, rfl, h.norm hf, rfl⟩

/-- A row of the call's own, told. -/
def OwnRes (L : List Nat) (w : World) (e : Ending) (w' : World) : Prop := ∃ v, e = .returned v ∧ NRow w.heap.size w' v L ∧ Below w.heap.size w w'

theorem news_all {w : World} {ad : Addr} {L : List Nat} (h : NatAt w (some ad) L) (j : Nat) (u : Value) (hu : (U L)[j]? = some u) : w.cell? (ad.add j) = some u := by
  have := news_of h L.length (Nat.le_refl _) j u
  rw [List.take_length] at this
  exact this hu

set_option maxHeartbeats 1000000 in
theorem clone_any (a : Option Addr) (cap : Nat) (L : List Nat) (w : World) (hl : L.length ≤ 1099511627776) (hcap : L.length ≤ cap) (hcn : a = none → cap = 0) (hc : NatAt w a L) :
    Calls Try.prog 51 #[.slice a L.length cap] w (OwnRes L w) := by
  obtain ⟨i0, hi, hz0, hz1, hz2⟩ := info_parts info_u64
  have HC := Lib.hid hc
  have HN := Lib.hid hcn
  clear hc hcn
  have hnil := fun (w : World) (a : Option Addr) (n c : Nat) => Go.Lib.run_eql_slice_nil (P := Try.prog) w 23 42 a n c 0 0 Try.underlying23
  rcases a with _ | ad
  · obtain rfl := HN.out rfl
    obtain rfl : L = [] := List.eq_nil_of_length_eq_zero (by omega)
    go_enter Try.func51, Try.ntmps51
    go_wp2
    go_ret
    exact ⟨_, rfl, NRow.nil _ _, Below.refl _ _⟩
  · have HNEW := Lib.hid (news_all HC.out)
    have HLE : Hid ((U L).length = L.length * 1) := Lib.hid (by rw [U_length, Nat.mul_one])
    go_enter Try.func51, Try.ntmps51
    go_wp2_with (
      (at_builtin
       refine wpList_append_own _ rfl (.tmp 5) (.tmp 6) 23 rfl w.heap.size 42 i0 _ 1 8 Try.underlying23 hi hz0 hz1 hz2 rfl (by omega) _ 0 [] rfl ?c0 ad L.length cap (U L) rfl ?c1 ?c2 ?c3 ?c4 ?c5 ?c6 ?_
       case c0 => exact World.ownsRow_made _ _ _ (by simp) (by unfold maxLen; omega) rfl
       case c1 => exact HLE.out
       case c2 => exact news_all (HC.out.alloc _)
       case c3 => exact U_one _
       case c4 => unfold maxLen; omega
       case c5 => omega
       case c6 => simp
       intro v1 w1 hown1 hg1 _
       have HO : Hid (NRow w.heap.size w1 v1 L) := Lib.hid (by unfold NRow; simpa using hown1)
       have HB : Hid (Below w.heap.size w w1) := Lib.hid (((Below.refl _ _).alloc (Nat.le_refl _) _).grown hg1 (by simp) (fun k hk => by cases hk; exact Nat.le_refl _))
       clear hown1 hg1))
    go_ret
    exact ⟨_, rfl, HO.out, HB.out⟩
theorem clone_v {n : Nat} {w : World} {v : Value} (h : NTr w v n) (hl : (nrow n).length ≤ 1099511627776) : Calls Try.prog 51 #[v] w (OwnRes (nrow n) w) := by
  obtain ⟨a, cap, rfl, h2, h3, h4⟩ := h
  exact clone_any a cap _ w hl h2 h3 h4

/-- A row of one limb. -/
theorem row_one (w : World) (x : Nat) : NRow w.heap.size (w.alloc (.cells #[.int .u64 (x : Int)] 42)) (.slice (some ⟨w.heap.size, 0, none⟩) 1 1) [x] :=
  ⟨by simp [U], .inr ⟨w.heap.size, 1, #[.int .u64 (x : Int)], rfl, Nat.le_refl _, heap_alloc_new w _, Nat.le_refl _, by unfold maxLen; omega, rfl, by simp [U]⟩⟩
theorem lv_one (x : Nat) : lv [x] = x := by simp [lv]
set_option maxHeartbeats 1000000 in
theorem of_any (x : Nat) (w : World) (hx : x < 18446744073709551616) : Calls Try.prog 22 #[.int .u64 (x : Int)] w (OwnRes (nrow x) w) := by
  have HT := Lib.hid (trim_own (row_one w x) (fun y hy => by simp at hy; subst hy; exact hx) (by simp))
  have HB : Hid (Below w.heap.size w (w.alloc (.cells #[.int .u64 (x : Int)] 42))) := Lib.hid ((Below.refl _ _).alloc (Nat.le_refl _) _)
  clear hx
  go_enter Try.func22, Try.ntmps22
  go_wp2_with (go_at_call 29; refine HT.out.mono ?_; rintro e w' ⟨v, rfl, hv, rfl⟩; have HV := Lib.hid hv; clear hv)
  go_ret
  exact ⟨_, rfl, by have := HV.out; rwa [lv_one] at this, HB.out⟩

/-- What is told beside an error's number. -/
def ERes (B n : Nat) (w : World) (e : Ending) (w' : World) : Prop := ∃ v, e = .returned (.tuple #[v, .int .i64 0]) ∧ NRow B w' v (nrow n) ∧ Below B w w'
def EErr (B : Nat) (c : Int) (w : World) (e : Ending) (w' : World) : Prop := e = .returned (.tuple #[.slice none 0 0, .int .i64 c]) ∧ Below B w w'

theorem long_one (a : Option Addr) (n cap : Nat) (w : World) (T : TypeId) :
    Calls Try.prog 30 #[.slice (some ⟨w.heap.size, 0, none⟩) 1 1] (w.alloc (.cells #[.slice a n cap] T)) (Same (.bool (decide (2048 < n))) (w.alloc (.cells #[.slice a n cap] T))) := by
  have := tooLong_any w.heap.size 1 [n] (w.alloc (.cells #[.slice a n cap] T)) (by simp) (fun i hi => ⟨a, cap, by
    have h0 : i = 0 := by simpa using hi
    subst h0
    exact (Box.new w _ T).1⟩)
  simpa [anyLong] using this
theorem long_two (a b : Option Addr) (n m cap cbp : Nat) (w : World) (T : TypeId) :
    Calls Try.prog 30 #[.slice (some ⟨w.heap.size, 0, none⟩) 2 2] (w.alloc (.cells #[.slice a n cap, .slice b m cbp] T)) (Same (.bool (decide (2048 < n) || decide (2048 < m))) (w.alloc (.cells #[.slice a n cap, .slice b m cbp] T))) := by
  have e : (w.alloc (.cells #[.slice a n cap, .slice b m cbp] T)).heap[w.heap.size]? = some (.cells #[.slice a n cap, .slice b m cbp] T (0, 0)) := heap_alloc_new w _
  have := tooLong_any w.heap.size 2 [n, m] (w.alloc (.cells #[.slice a n cap, .slice b m cbp] T)) (by simp) (fun i hi => by
    rcases i with _ | _ | i
    · exact ⟨a, cap, by unfold World.cell?; rw [e]; rfl⟩
    · exact ⟨b, cbp, by unfold World.cell?; rw [e]; rfl⟩
    · simp at hi; omega)
  simpa [anyLong] using this
end Go.Proofs.Ytcdedaihkfpafaa

namespace Go.Proofs.Ytcdedaihkfpafaa
open Go.RowKit

def ResOk (B n : Nat) (w : World) (e : Ending) (w' : World) : Prop := ∃ v, e = .returned (.tuple #[v, .int .i64 0]) ∧ NRow B w' v (nrow n) ∧ Below w.heap.size w w'
def ResErr (c : Int) (w : World) (e : Ending) (w' : World) : Prop := e = .returned (.tuple #[.slice none 0 0, .int .i64 c]) ∧ Below w.heap.size w w'

set_option maxHeartbeats 1000000 in
theorem result_ok {B : Nat} {w : World} {v : Value} {L : List Nat} (h : NRow B w v L) (hf : Fits L) (hl : L.length ≤ 1099511627776) (hs : (nrow (lv L)).length ≤ 2048) :
    Calls Try.prog 46 #[v] w (ResOk B (lv L) w) := by
  have HT := Lib.hid (trim_own h hf hl)
  obtain ⟨a, cap, rfl, _, _, _⟩ := h.at_
  have hd : decide (2048 < (nrow (lv L)).length) = false := by simpa using hs
  clear h hf hs
  go_enter Try.func46, Try.ntmps46
  go_wp2_with fail
  refine HT.out.mono ?_
  rintro e w' ⟨v, rfl, hv, rfl⟩
  obtain ⟨a', cap', rfl, _, _, _⟩ := hv.at_
  have HV := Lib.hid hv
  clear hv
  go_wp2_with (go_at_call 30; refine (long_one _ _ _ _ _).mono ?_; rw [hd]; rintro e w2 ⟨rfl, rfl⟩)
  go_ret2
  exact ⟨_, rfl, HV.out.below ((Below.refl _ _).alloc (Nat.le_refl _) _) (Nat.le_refl _), (Below.refl _ _).alloc (Nat.le_refl _) _⟩

set_option maxHeartbeats 1000000 in
theorem result_long {B : Nat} {w : World} {v : Value} {L : List Nat} (h : NRow B w v L) (hf : Fits L) (hl : L.length ≤ 1099511627776) (hs : 2048 < (nrow (lv L)).length) :
    Calls Try.prog 46 #[v] w (ResErr 3 w) := by
  have HT := Lib.hid (trim_own h hf hl)
  obtain ⟨a, cap, rfl, _, _, _⟩ := h.at_
  have hd : decide (2048 < (nrow (lv L)).length) = true := by simpa using hs
  clear h hf hs
  go_enter Try.func46, Try.ntmps46
  go_wp2_with fail
  refine HT.out.mono ?_
  rintro e w' ⟨v, rfl, hv, rfl⟩
  obtain ⟨a', cap', rfl, _, _, _⟩ := hv.at_
  clear hv
  go_wp2_with (go_at_call 30; refine (long_one _ _ _ _ _).mono ?_; rw [hd]; rintro e w2 ⟨rfl, rfl⟩)
  go_ret2
  exact ⟨rfl, (Below.refl _ _).alloc (Nat.le_refl _) _⟩

/-- What 'make' lays: limbs of 0. -/
theorem made_zeros {w0 : World} {B n : Nat} {v : Value} (h : w0.ownsRow B 42 1 v n (madeCells (Value.int .u64 0).cells (n * 1)).toList) : NRow B w0 v (List.replicate n 0) := by
  rw [show (Value.int .u64 0).cells = #[.int .u64 0] from rfl, toList_madeCells_one, Nat.mul_one] at h
  unfold NRow
  rw [List.length_replicate, U_zeros]; exact h
theorem fits_zeros (n : Nat) : Fits (List.replicate n 0) := fun x hx => by
  obtain rfl := (List.mem_replicate.1 hx).2
  omega
theorem fits_append {A B : List Nat} (h : Fits A) (k : Fits B) : Fits (A ++ B) := fun x hx => (List.mem_append.1 hx).elim (h x) (k x)

/-- Limbs copied to a row's head. -/
theorem copy_limbs {B g N : Nat} {w : World} {L M : List Nat} {a : Option Addr} {ca : Nat} (ty : TypeId) (h : NRow B w (.slice (some ⟨g, 0, none⟩) N N) L) (hm : NatAt w a M) (hl : M.length ≤ N) :
    ∃ w2, (Builtin.copy_ #[23, 23] ty #[.slice (some ⟨g, 0, none⟩) N N, .slice a M.length ca]).run Try.prog w = .ok (goInt M.length) w2 ∧ Wrote g 0 N w w2 ∧ Seg w2 g 0 (M ++ L.drop M.length) := by
  have hsz : (Try.prog.info? 42).map (·.size) = some 1 := by kernel_rfl
  have hsg := h.seg
  rcases Nat.eq_zero_or_pos M.length with h0 | hp
  · have hr := run_copy_none (P := Try.prog) w 23 23 ty 42 (some ⟨g, 0, none⟩) a N N M.length ca Try.underlying23 hsz (by rw [h0]; exact Nat.zero_min _)
    obtain rfl : M = [] := List.eq_nil_of_length_eq_zero h0
    exact ⟨w, hr, Wrote.refl _ _ _ _, hsg.2.2.2.2.2⟩
  · obtain ⟨b, off, rfl, _⟩ := hm 0 hp
    obtain ⟨_, hN, _, _, _, cur, hg, hc⟩ := hsg
    have hcs : N ≤ cur.size := by
      rcases h.2 with ⟨he, _⟩ | ⟨g', cap', cur', he, _, hg', _, _, hs', _⟩
      · cases he
      · cases he
        rw [hg] at hg'
        cases hg'
        omega
    have hr := run_copy_row (P := Try.prog) w 23 23 ty 42 g 0 N N ⟨b, off, none⟩ M.length ca cur 42 (U M) Try.underlying23 hsz hg (by rw [U_length]; exact (Nat.min_eq_left hl).symm) (news_all hm) (by rw [U_length]; omega) (U_one _)
    rw [U_length] at hr
    refine ⟨_, hr, ⟨⟨rfl, rfl, rfl, by simp [World.setRow], fun k hk hne => setRow_other w g k _ (fun e => hne (by rw [e]))⟩, fun c T fr hcg => ?_⟩, _, setRow_heap w g cur _ _ _ hg, fun i hi => ?_⟩
    · rw [hg] at hcg
      cases hcg
      refine ⟨_, setRow_heap w g _ _ _ _ hg, ?_, fun o ho => ?_⟩
      · simp [U_length]; omega
      · have hgt : M.length ≤ o := by omega
        have e : (0 : Nat) + M.length = M.length := by omega
        rw [e]
        simp only [List.take_zero, List.nil_append, List.getElem?_toArray]
        rw [List.getElem?_append_right (by rw [U_length]; exact hgt), U_length, List.getElem?_drop, show M.length + (o - M.length) = o by omega]
        simp
    · have e : (0 : Nat) + M.length = M.length := by omega
      rw [e, Nat.zero_add]
      simp only [List.take_zero, List.nil_append, List.getElem?_toArray]
      by_cases him : i < M.length
      · rw [List.getElem?_append_left (by rw [U_length]; exact him), U_get him]
        simp [List.getElem?_append_left him]
      · have hil : i < L.length := by rw [List.length_append, List.length_drop] at hi; omega
        rw [List.getElem?_append_right (by rw [U_length]; omega), U_length, List.getElem?_drop, show M.length + (i - M.length) = i by omega]
        have := hc i hil
        rw [Nat.zero_add] at this
        rw [← Array.getElem?_toList] at this
        rw [this, List.getD_eq_getElem?_getD, List.getD_eq_getElem?_getD, List.getElem?_append_right (by omega), List.getElem?_drop, show M.length + (i - M.length) = i by omega]

theorem dv_full' {o p a c : Nat} (h : o + p * c = a) (ha : a < p) : o = a := by
  rcases c with _ | c
  · simpa using h
  · rw [Nat.mul_succ] at h; omega

set_option maxRecDepth 100000 in
set_option maxHeartbeats 4000000 in
theorem sum_any (a b : Option Addr) (ca cb : Nat) (A B : List Nat) (w : World) (hA : A.length ≤ 549755813887) (hB : B.length ≤ 549755813887) (fA : Fits A) (fB : Fits B) (ma : NatAt w a A) (mb : NatAt w b B) :
    Calls Try.prog 48 #[.slice a A.length ca, .slice b B.length cb] w (OwnRes (nrow (lv A + lv B)) w) := by
  obtain ⟨i0, hi, hz0, hz1, hz2⟩ := info_parts info_u64
  obtain ⟨N, hN⟩ : ∃ N : Nat, N = max A.length B.length + 1 := ⟨_, rfl⟩
  have HN : Hid (max (A.length : Int) (B.length : Int) + 1 = (N : Int)) := Lib.hid (by omega)
  have hAN : A.length < N := by omega
  have hBN : B.length < N := by omega
  have hN1 : N ≤ 549755813888 := by omega
  clear hN
  have MA := Lib.hid ma
  have MB := Lib.hid mb
  have FA := Lib.hid fA
  have FB := Lib.hid fB
  clear ma mb fA fB
  obtain ⟨g, hg⟩ : ∃ g, g = w.heap.size := ⟨_, rfl⟩
  have HG := Lib.hid hg
  clear hg
  go_enter Try.func48, Try.ntmps48
  go_wp2_with (
    (at_make
     refine wpList_make_full _ rfl _ _ 23 rfl w.heap.size 42 i0 (.int .u64 0) 1 Try.underlying23 hi hz0 hz1 .i64 .i64 _ _ N rfl rfl HN.out HN.out (by rw [hz2]; omega) (by unfold maxLen; omega) (Nat.le_refl _) ?_
     rw [← HG.out]
     intro w0 hown0 hg0
     have HO := Lib.hid (made_zeros hown0)
     have HB : Hid (Below g w w0) := Lib.hid ((Below.refl _ w).grown hg0 (by have := HG.out; omega) (fun k hk => by cases hk))
     clear hown0 hg0
     obtain ⟨w2, hcp, hw2, hs2⟩ := copy_limbs (a := a) (ca := ca) (M := A) 3 HO.out (MA.out.below HB.out (by have := HG.out; omega)) (by omega)
     have HW2 := Lib.hid hw2
     have HS2 := Lib.hid hs2
     clear hw2 hs2))
  obtain ⟨M, hM⟩ : ∃ M, M = A ++ (List.replicate N 0).drop A.length := ⟨_, rfl⟩
  have hMl : M.length = N := by rw [hM, List.length_append, List.length_drop, List.length_replicate]; omega
  have hMv : lv M = lv A := by rw [hM, lv_append, List.drop_replicate, lv_zeros]; omega
  have hMf : Fits M := by rw [hM, List.drop_replicate]; exact fits_append FA.out (fits_zeros _)
  have hb02 : Below g w w2 := HB.out.trans (HW2.out.below (Nat.le_of_lt HO.out.seg.2.2.2.2.2.block) (Nat.le_refl _))
  have hs2 := HS2.out
  rw [← hM] at hs2
  have hadd := add_any g 0 N cb b M B w2 (by omega) (by omega) hMf FB.out hs2 (MB.out.below hb02 (by have := HG.out; omega)) (fun h0 bl o e => by
    obtain ⟨b1, o1, e1, hlt, _⟩ := MB.out.lt h0
    rw [e] at e1
    cases e1
    have h1 := HG.out
    have h2 := hb02.size
    have h3 := HB.out.size
    omega)
  rw [hMl] at hadd
  have HADD := Lib.hid hadd
  have HM := Lib.hid hMl
  have HMV := Lib.hid hMv
  have HB2 := Lib.hid hb02
  clear hM hMl hMv hMf hb02 hs2 hadd hcp
  go_wp2_with fail
  refine HADD.out.mono ?_
  rintro e w3 ⟨O, c, rfl, hO, fO, hc, heq, hs3, hw3⟩
  have hpA := lv_lt FA.out
  have hpB := lv_lt FB.out
  have hOv : lv O = lv A + lv B := by
    rw [HM.out, HMV.out] at heq
    refine dv_full' heq ?_
    obtain ⟨N', rfl⟩ : ∃ N', N = N' + 1 := ⟨N - 1, by omega⟩
    have h1 : 2 ^ (64 * A.length) ≤ 2 ^ (64 * N') := Nat.pow_le_pow_right (by omega) (by omega)
    have h2 : 2 ^ (64 * B.length) ≤ 2 ^ (64 * N') := Nat.pow_le_pow_right (by omega) (by omega)
    rw [show 64 * (N' + 1) = 64 * N' + 64 by omega, Nat.pow_add]
    omega
  rw [HM.out] at hO hw3
  have hrow := HO.out.wrote (HW2.out.trans (by simpa using hw3)) hs3 (by rw [hO, List.length_replicate])
  have HT := Lib.hid (trim_own hrow fO (by omega))
  rw [hOv] at HT
  have HB3 : Hid (Below g w w3) := Lib.hid (HB2.out.trans (hw3.below (by have := HS2.out.block; omega) (Nat.le_refl _)))
  clear hO fO hc heq hs3 hw3 hpA hpB hOv hrow
  go_wp2_with fail
  refine HT.out.mono ?_
  rintro e w4 ⟨v, rfl, hv, rfl⟩
  have HV := Lib.hid hv
  clear hv
  go_wp2_with fail
  go_ret
  have hgg := HG.out
  subst hgg
  exact ⟨_, rfl, HV.out, HB3.out⟩
end Go.Proofs.Ytcdedaihkfpafaa

namespace Go.Proofs.Ytcdedaihkfpafaa
open Go.RowKit

/-- A row that tells a product. -/
def MulPost (N n : Nat) (w : World) (e : Ending) (w' : World) : Prop := ∃ v L, e = .returned v ∧ NRow w.heap.size w' v L ∧ Fits L ∧ lv L = n ∧ L.length = N ∧ Below w.heap.size w w'

/-- A product, the lowest limbs of one number done. -/
def MultAt (g N : Nat) (A B : List Nat) (i : Value) (w wr : World) : Prop :=
  ∃ (k : Nat) (P : List Nat), k ≤ B.length ∧ i = .int .i64 (k : Int) ∧ P.length = A.length + k ∧ Fits P ∧ lv P = lv A * lv (B.take k) ∧
    NRow g wr (.slice (some ⟨g, 0, none⟩) N N) (P ++ List.replicate (N - P.length) 0) ∧ Below g w wr

theorem mult_step {A B P S : List Nat} {k n c : Nat} (hP : P.length = A.length + k) (hv : lv P = lv A * lv (B.take k)) (hS : S.length = A.length) (hn : n = B.getD k 0)
    (h : lv S + 2 ^ (64 * A.length) * c = lv (P.drop k) + n * lv A) : lv (P.take k ++ S ++ [c]) = lv A * lv (B.take (k + 1)) := by
  rw [lv_append, lv_append, List.length_append, List.length_take, hP, hS, Nat.min_eq_left (by omega), lv_one, lv_take_succ', ← hn]
  have e : lv P = lv (P.take k) + 2 ^ (64 * k) * lv (P.drop k) := by
    conv => lhs; rw [← List.take_append_drop k P]
    rw [lv_append, List.length_take, hP, Nat.min_eq_left (by omega)]
  rw [show 64 * (k + A.length) = 64 * k + 64 * A.length by omega, Nat.pow_add, Nat.mul_assoc, Nat.add_assoc, ← Nat.mul_add, h, Nat.mul_add, ← Nat.add_assoc, ← e, hv, Nat.mul_add]
  congr 1
  rw [Nat.mul_left_comm (lv A), Nat.mul_comm (lv A) n]
theorem set_zero (O : List Nat) (m x : Nat) : (O ++ List.replicate (m + 1) 0).set O.length x = (O ++ [x]) ++ List.replicate m 0 := by
  rw [List.set_append_right _ _ (Nat.le_refl _), Nat.sub_self, List.replicate_succ, List.set_cons_zero]
  simp
theorem NRow.set {B g cap n : Nat} {w : World} {L : List Nat} (h : NRow B w (.slice (some ⟨g, 0, none⟩) n cap) L) {i : Nat} (hi : i < L.length) (x : Nat) : NRow B (w.setCell ⟨g, i, none⟩ (.int .u64 (x : Int))) (.slice (some ⟨g, 0, none⟩) n cap) (L.set i x) := by
  have hs := h.seg.2.2.2.2.2.set hi x
  rw [Nat.zero_add] at hs
  exact h.wrote ((Wrote.refl g 0 L.length w).setIn (Nat.zero_le _) hi _) hs (List.length_set ..)
theorem fits_drop {L : List Nat} (h : Fits L) (k : Nat) : Fits (L.drop k) := fun x hx => h x (List.mem_of_mem_drop hx)

set_option maxRecDepth 100000 in
set_option maxHeartbeats 4000000 in
theorem mult_ge (a b : Option Addr) (ca cb : Nat) (A B : List Nat) (w : World) (hA : A.length ≤ 549755813887) (hB : B.length ≤ 549755813887) (hA0 : 0 < A.length) (hB0 : 0 < B.length) (hl : ¬ A.length < B.length) (fA : Fits A) (fB : Fits B) (ma : NatAt w a A) (mb : NatAt w b B) :
    Calls Try.prog 47 #[.slice a A.length ca, .slice b B.length cb] w (MulPost (A.length + B.length) (lv A * lv B) w) := by
  obtain ⟨i0, hi, hz0, hz1, hz2⟩ := info_parts info_u64
  obtain ⟨N, hN⟩ : ∃ N : Nat, N = A.length + B.length := ⟨_, rfl⟩
  have HN : Hid ((A.length : Int) + (B.length : Int) = (N : Int)) := Lib.hid (by omega)
  have HNN := Lib.hid hN
  have hN1 : N ≤ 1099511627776 := by omega
  clear hN
  have MA := Lib.hid ma
  have MB := Lib.hid mb
  have FA := Lib.hid fA
  have FB := Lib.hid fB
  clear ma mb fA fB
  obtain ⟨g, hg⟩ : ∃ g, g = w.heap.size := ⟨_, rfl⟩
  have HG := Lib.hid hg
  clear hg
  go_enter Try.func47, Try.ntmps47
  go_wp2_with (
    (at_make
     refine wpList_make_full _ rfl _ _ 23 rfl w.heap.size 42 i0 (.int .u64 0) 1 Try.underlying23 hi hz0 hz1 .i64 .i64 _ _ N rfl rfl HN.out HN.out (by rw [hz2]; omega) (by unfold maxLen; omega) (Nat.le_refl _) ?_
     rw [← HG.out]
     intro w0 hown0 hg0
     have HO := Lib.hid (made_zeros hown0)
     have HB : Hid (Below g w w0) := Lib.hid ((Below.refl _ w).grown hg0 (by have := HG.out; omega) (fun k hk => by cases hk))
     clear hown0 hg0))
  rw [HN.out]
  go_loopw [23] (fun i wr => MultAt g N A B i w wr) (fun i _ => B.length - (intOf i).toNat)
  case atStart =>
    refine ⟨0, List.replicate A.length 0, Nat.zero_le _, rfl, by rw [List.length_replicate]; rfl, fits_zeros _, by rw [lv_zeros]; simp [lv], ?_, HB.out⟩
    rw [List.length_replicate, List.replicate_append_replicate, show A.length + (N - A.length) = N by have := HNN.out; omega]
    exact HO.out
  case round =>
    obtain ⟨k, P, hk, rfl, hPl, hPf, hPv, hrow, hbel⟩ := hrel
    have hk0 : (0 : Int) ≤ (k : Int) := by omega
    have HP := Lib.hid hPl
    have HPF := Lib.hid hPf
    have HPV := Lib.hid hPv
    have HR := Lib.hid hrow
    have HBL := Lib.hid hbel
    clear hPl hPf hPv hrow hbel
    by_cases hlt : k < B.length
    · have hkI : (k : Int) < (B.length : Int) := by omega
      obtain ⟨bb, ob, rfl, hcell⟩ := (MB.out.below HBL.out (by have := HG.out; omega)) k hlt
      obtain ⟨n, hn⟩ : ∃ n, n = B.getD k 0 := ⟨_, rfl⟩
      rw [← hn] at hcell
      have HNV := Lib.hid hn
      have HN2 : Hid (n < 18446744073709551616) := Lib.hid (by rw [hn]; exact getD_fits FB.out k)
      have i1 : (k : Int) + (A.length : Int) < (N : Int) := by have := HNN.out; omega
      have i2 : (0 : Int) ≤ (k : Int) + (A.length : Int) := by omega
      have i3 : k + A.length ≤ N := by omega
      have i4 : k < N := by omega
      clear hn
      have hsg := HR.out.seg.2.2.2.2.2
      have hZ : (P ++ List.replicate (N - P.length) 0).length = N := by rw [List.length_append, List.length_replicate]; have := HP.out; omega
      have hsP : Seg wr g 0 P := by have := hsg.take P.length; rwa [List.take_left] at this
      have hsk : Seg wr g k (P.drop k) := by have := hsP.drop k; rwa [Nat.zero_add] at this
      have hdl : (P.drop k).length = A.length := by rw [List.length_drop, HP.out]; omega
      have hct := addTimes_any g k (N - k) ca n a (P.drop k) A wr (by omega) (by omega) (fits_drop HPF.out k) FA.out HN2.out hsk (.inl ⟨fun h0 bl o e => by
        obtain ⟨b1, o1, e1, hlt1, _⟩ := MA.out.lt h0
        rw [e] at e1
        cases e1
        have h1 := HG.out
        have h2 := HBL.out.size
        omega, MA.out.below HBL.out (by have := HG.out; omega)⟩)
      rw [hdl] at hct
      have HCT := Lib.hid hct
      have HDL := Lib.hid hdl
      have HSP := Lib.hid hsP
      have HSG := Lib.hid hsg
      clear hsg hZ hsP hsk hdl hct
      go_wp2_with fail
      refine HCT.out.mono ?_
      rintro e w1 ⟨S, c, rfl, hSl, hSf, hc, heq, hs, hw⟩
      rw [HDL.out] at hSl heq hw
      have hpl := HP.out
      have hnn := HNN.out
      have htl : (P.take k).length = k := by rw [List.length_take]; omega
      have g1 : Seg w1 g 0 (P.take k) := hw.segOut (HSP.out.take k) (.inl (by omega))
      have g3 : Seg w1 g P.length (List.replicate (N - P.length) 0) := by
        refine hw.segOut ?_ (.inr (by omega))
        have := HSG.out.drop P.length
        rwa [List.drop_left, Nat.zero_add] at this
      have g2 := g1.append (by rw [htl, Nat.zero_add]; exact hs)
      have g4 := g2.append (by rw [List.length_append, htl, hSl, Nat.zero_add, show k + A.length = P.length by omega]; exact g3)
      have hr1 := HR.out.wrote (hw.wide (Nat.zero_le _) (show k + A.length ≤ N by omega)) g4 (by simp only [List.length_append, htl, hSl, List.length_replicate]; omega)
      have hcl := g4.cell (i := k + A.length) (by simp only [List.length_append, htl, hSl, List.length_replicate]; omega)
      rw [Nat.zero_add] at hcl
      have hfr := g4.frozen (k + A.length)
      have hmul := mult_step hpl HPV.out hSl HNV.out heq
      have hset := set_zero (P.take k ++ S) (N - P.length - 1) c
      rw [show N - P.length - 1 + 1 = N - P.length by omega, List.length_append, htl, hSl] at hset
      have hr2 := hr1.set (i := k + A.length) (by simp only [List.length_append, htl, hSl, List.length_replicate]; omega) c
      rw [hset] at hr2
      have HR2 := Lib.hid hr2
      have HMUL := Lib.hid hmul
      have HL2 : Hid ((P.take k ++ S ++ [c]).length = A.length + (k + 1)) := Lib.hid (by simp only [List.length_append, htl, hSl, List.length_cons, List.length_nil]; omega)
      have HF2 : Hid (Fits (P.take k ++ S ++ [c])) := Lib.hid (fits_snoc (fits_append (fits_take HPF.out k) hSf) hc)
      have HB2 : Hid (Below g w (w1.setCell ⟨g, k + A.length, none⟩ (.int .u64 (c : Int)))) := Lib.hid ((HBL.out.trans (hw.below (by have := HSG.out.block; omega) (Nat.le_refl _))).setCell (p := ⟨g, k + A.length, none⟩) (Nat.le_refl _) _)
      have HZ2 : Hid (N - P.length - 1 = N - (P.take k ++ S ++ [c]).length) := Lib.hid (by simp only [List.length_append, htl, hSl, List.length_cons, List.length_nil]; omega)
      clear hSl hSf hc heq hs hw hpl hnn htl g1 g2 g3 g4 hr1 hmul hset hr2
      go_wp2_with fail
      go_roundw
      case rel => exact ⟨k + 1, P.take k ++ S ++ [c], hlt, by go_num, HL2.out, HF2.out, HMUL.out, by rw [← HZ2.out]; exact HR2.out, HB2.out⟩
      case measure => simp [intOf]; omega
    · obtain rfl : k = B.length := by omega
      have HE : Hid (P ++ List.replicate (N - P.length) 0 = P) := Lib.hid (by rw [show N - P.length = 0 by have := HP.out; have := HNN.out; omega]; simp)
      have HE2 : Hid (lv P = lv A * lv B) := Lib.hid (by have := HPV.out; rw [List.take_length] at this; rw [this])
      go_wp2_with fail
      go_ret
      have hgg := HG.out
      subst hgg
      exact ⟨_, P, rfl, by rw [← HE.out]; exact HR.out, HPF.out, HE2.out, by have := HP.out; omega, HBL.out⟩

set_option maxRecDepth 100000 in
set_option maxHeartbeats 4000000 in
theorem mult_lt (a b : Option Addr) (ca cb : Nat) (A B : List Nat) (w : World) (hA : A.length ≤ 549755813887) (hB : B.length ≤ 549755813887) (hA0 : 0 < A.length) (hB0 : 0 < B.length) (hl : A.length < B.length) (fA : Fits A) (fB : Fits B) (ma : NatAt w a A) (mb : NatAt w b B) :
    Calls Try.prog 47 #[.slice a A.length ca, .slice b B.length cb] w (MulPost (A.length + B.length) (lv A * lv B) w) := by
  obtain ⟨i0, hi, hz0, hz1, hz2⟩ := info_parts info_u64
  obtain ⟨N, hN⟩ : ∃ N : Nat, N = A.length + B.length := ⟨_, rfl⟩
  have HN : Hid ((B.length : Int) + (A.length : Int) = (N : Int)) := Lib.hid (by omega)
  have HNN := Lib.hid hN
  have hN1 : N ≤ 1099511627776 := by omega
  clear hN
  have MA := Lib.hid ma
  have MB := Lib.hid mb
  have FA := Lib.hid fA
  have FB := Lib.hid fB
  clear ma mb fA fB
  obtain ⟨g, hg⟩ : ∃ g, g = w.heap.size := ⟨_, rfl⟩
  have HG := Lib.hid hg
  clear hg
  go_enter Try.func47, Try.ntmps47
  go_wp2_with (
    (at_make
     refine wpList_make_full _ rfl _ _ 23 rfl w.heap.size 42 i0 (.int .u64 0) 1 Try.underlying23 hi hz0 hz1 .i64 .i64 _ _ N rfl rfl HN.out HN.out (by rw [hz2]; omega) (by unfold maxLen; omega) (Nat.le_refl _) ?_
     rw [← HG.out]
     intro w0 hown0 hg0
     have HO := Lib.hid (made_zeros hown0)
     have HB : Hid (Below g w w0) := Lib.hid ((Below.refl _ w).grown hg0 (by have := HG.out; omega) (fun k hk => by cases hk))
     clear hown0 hg0))
  rw [HN.out]
  go_loopw [23] (fun i wr => MultAt g N B A i w wr) (fun i _ => A.length - (intOf i).toNat)
  case atStart =>
    refine ⟨0, List.replicate B.length 0, Nat.zero_le _, rfl, by rw [List.length_replicate]; rfl, fits_zeros _, by rw [lv_zeros]; simp [lv], ?_, HB.out⟩
    rw [List.length_replicate, List.replicate_append_replicate, show B.length + (N - B.length) = N by have := HNN.out; omega]
    exact HO.out
  case round =>
    obtain ⟨k, P, hk, rfl, hPl, hPf, hPv, hrow, hbel⟩ := hrel
    have hk0 : (0 : Int) ≤ (k : Int) := by omega
    have HP := Lib.hid hPl
    have HPF := Lib.hid hPf
    have HPV := Lib.hid hPv
    have HR := Lib.hid hrow
    have HBL := Lib.hid hbel
    clear hPl hPf hPv hrow hbel
    by_cases hlt : k < A.length
    · have hkI : (k : Int) < (A.length : Int) := by omega
      obtain ⟨bb, ob, rfl, hcell⟩ := (MA.out.below HBL.out (by have := HG.out; omega)) k hlt
      obtain ⟨n, hn⟩ : ∃ n, n = A.getD k 0 := ⟨_, rfl⟩
      rw [← hn] at hcell
      have HNV := Lib.hid hn
      have HN2 : Hid (n < 18446744073709551616) := Lib.hid (by rw [hn]; exact getD_fits FA.out k)
      have i1 : (k : Int) + (B.length : Int) < (N : Int) := by have := HNN.out; omega
      have i2 : (0 : Int) ≤ (k : Int) + (B.length : Int) := by omega
      have i3 : k + B.length ≤ N := by omega
      have i4 : k < N := by omega
      clear hn
      have hsg := HR.out.seg.2.2.2.2.2
      have hZ : (P ++ List.replicate (N - P.length) 0).length = N := by rw [List.length_append, List.length_replicate]; have := HP.out; omega
      have hsP : Seg wr g 0 P := by have := hsg.take P.length; rwa [List.take_left] at this
      have hsk : Seg wr g k (P.drop k) := by have := hsP.drop k; rwa [Nat.zero_add] at this
      have hdl : (P.drop k).length = B.length := by rw [List.length_drop, HP.out]; omega
      have hct := addTimes_any g k (N - k) cb n b (P.drop k) B wr (by omega) (by omega) (fits_drop HPF.out k) FB.out HN2.out hsk (.inl ⟨fun h0 bl o e => by
        obtain ⟨b1, o1, e1, hlt1, _⟩ := MB.out.lt h0
        rw [e] at e1
        cases e1
        have h1 := HG.out
        have h2 := HBL.out.size
        omega, MB.out.below HBL.out (by have := HG.out; omega)⟩)
      rw [hdl] at hct
      have HCT := Lib.hid hct
      have HDL := Lib.hid hdl
      have HSP := Lib.hid hsP
      have HSG := Lib.hid hsg
      clear hsg hZ hsP hsk hdl hct
      go_wp2_with fail
      refine HCT.out.mono ?_
      rintro e w1 ⟨S, c, rfl, hSl, hSf, hc, heq, hs, hw⟩
      rw [HDL.out] at hSl heq hw
      have hpl := HP.out
      have hnn := HNN.out
      have htl : (P.take k).length = k := by rw [List.length_take]; omega
      have g1 : Seg w1 g 0 (P.take k) := hw.segOut (HSP.out.take k) (.inl (by omega))
      have g3 : Seg w1 g P.length (List.replicate (N - P.length) 0) := by
        refine hw.segOut ?_ (.inr (by omega))
        have := HSG.out.drop P.length
        rwa [List.drop_left, Nat.zero_add] at this
      have g2 := g1.append (by rw [htl, Nat.zero_add]; exact hs)
      have g4 := g2.append (by rw [List.length_append, htl, hSl, Nat.zero_add, show k + B.length = P.length by omega]; exact g3)
      have hr1 := HR.out.wrote (hw.wide (Nat.zero_le _) (show k + B.length ≤ N by omega)) g4 (by simp only [List.length_append, htl, hSl, List.length_replicate]; omega)
      have hcl := g4.cell (i := k + B.length) (by simp only [List.length_append, htl, hSl, List.length_replicate]; omega)
      rw [Nat.zero_add] at hcl
      have hfr := g4.frozen (k + B.length)
      have hmul := mult_step hpl HPV.out hSl HNV.out heq
      have hset := set_zero (P.take k ++ S) (N - P.length - 1) c
      rw [show N - P.length - 1 + 1 = N - P.length by omega, List.length_append, htl, hSl] at hset
      have hr2 := hr1.set (i := k + B.length) (by simp only [List.length_append, htl, hSl, List.length_replicate]; omega) c
      rw [hset] at hr2
      have HR2 := Lib.hid hr2
      have HMUL := Lib.hid hmul
      have HL2 : Hid ((P.take k ++ S ++ [c]).length = B.length + (k + 1)) := Lib.hid (by simp only [List.length_append, htl, hSl, List.length_cons, List.length_nil]; omega)
      have HF2 : Hid (Fits (P.take k ++ S ++ [c])) := Lib.hid (fits_snoc (fits_append (fits_take HPF.out k) hSf) hc)
      have HB2 : Hid (Below g w (w1.setCell ⟨g, k + B.length, none⟩ (.int .u64 (c : Int)))) := Lib.hid ((HBL.out.trans (hw.below (by have := HSG.out.block; omega) (Nat.le_refl _))).setCell (p := ⟨g, k + B.length, none⟩) (Nat.le_refl _) _)
      have HZ2 : Hid (N - P.length - 1 = N - (P.take k ++ S ++ [c]).length) := Lib.hid (by simp only [List.length_append, htl, hSl, List.length_cons, List.length_nil]; omega)
      clear hSl hSf hc heq hs hw hpl hnn htl g1 g2 g3 g4 hr1 hmul hset hr2
      go_wp2_with fail
      go_roundw
      case rel => exact ⟨k + 1, P.take k ++ S ++ [c], hlt, by go_num, HL2.out, HF2.out, HMUL.out, by rw [← HZ2.out]; exact HR2.out, HB2.out⟩
      case measure => simp [intOf]; omega
    · obtain rfl : k = A.length := by omega
      have HE : Hid (P ++ List.replicate (N - P.length) 0 = P) := Lib.hid (by rw [show N - P.length = 0 by have := HP.out; have := HNN.out; omega]; simp)
      have HE2 : Hid (lv P = lv A * lv B) := Lib.hid (by have := HPV.out; rw [List.take_length] at this; rw [this]; exact Nat.mul_comm _ _)
      go_wp2_with fail
      go_ret
      have hgg := HG.out
      subst hgg
      exact ⟨_, P, rfl, by rw [← HE.out]; exact HR.out, HPF.out, HE2.out, by have := HP.out; omega, HBL.out⟩

theorem multiply_any (a b : Option Addr) (ca cb : Nat) (A B : List Nat) (w : World) (hA : A.length ≤ 549755813887) (hB : B.length ≤ 549755813887) (hA0 : 0 < A.length) (hB0 : 0 < B.length) (fA : Fits A) (fB : Fits B) (ma : NatAt w a A) (mb : NatAt w b B) :
    Calls Try.prog 47 #[.slice a A.length ca, .slice b B.length cb] w (MulPost (A.length + B.length) (lv A * lv B) w) := by
  by_cases h : A.length < B.length
  · exact mult_lt a b ca cb A B w hA hB hA0 hB0 h fA fB ma mb
  · exact mult_ge a b ca cb A B w hA hB hA0 hB0 h fA fB ma mb
end Go.Proofs.Ytcdedaihkfpafaa
