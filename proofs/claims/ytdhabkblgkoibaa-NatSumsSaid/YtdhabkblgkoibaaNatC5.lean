/-
  LAYER 3: the texts NatSumsW, one behind the other.
-/
import Derived.Test.YtdhabkblgkoibaaNatC3
import Derived.Test.YtdhabkblgkoibaaNatC4
import Derived.Laws.AppendOwnNone
import Derived.BigQuiet

namespace Go.Proofs.Ytdhabkblgkoibaa
open Go.RowKit

/-- 'append([]T(nil), x...)': a copy. -/
theorem wpList_clone {w : World} {ops : Array Oper} {rest : List Oper} {o : Oper} {a : Act} {Q : Exit → Act → World → Prop} (hgd : o.guard = none) (s x : Operand)
    (ho : o.op = .call { callee := .builtin .append, args := #[s, x], argTypes := #[23, 23] }) 
    (A : Option Addr) (cap : Nat) (L : List Nat) (hs : a.eval s = .slice none 0 0) (hx : a.eval x = .slice A L.length cap) (hn : A = none → cap = 0) (hl : L.length ≤ 1099511627776) (hm : NatAt w A L)
    (hK : ∀ v' w', NRow w.heap.size w' v' L → Below w.heap.size w w' → wpList Try.prog ops Q rest (a.put o.dst v') w') : wpList Try.prog ops Q (o :: rest) a w := by
  obtain ⟨i0, hi, hz0, hz1, hz2⟩ := info_parts info_u64
  rcases A with _ | ad
  · obtain rfl := hn rfl
    have hL : L = [] := by
      rcases L with _ | ⟨y, L⟩
      · rfl
      · obtain ⟨b, off, e, _⟩ := hm 0 (by simp)
        cases e
    subst hL
    exact wpList_append_own_none hgd s x 23 ho w.heap.size 36 i0 1 Try.underlying23 hi (.slice none 0 0) 0 [] hs (World.ownsRow_nil _ _ _ _) hx (hK _ _ (NRow.nil _ _) (Below.refl _ _))
  · refine wpList_append_own (w := w) hgd s x 23 ho w.heap.size 36 i0 _ 1 8 Try.underlying23 hi hz0 hz1 hz2 rfl (by omega) (.slice none 0 0) 0 [] hs (World.ownsRow_nil _ _ _ _) ad L.length cap (U L) hx (by rw [U_length, Nat.mul_one]) (news_all hm) (U_one _) (by unfold maxLen; omega) (by omega) (Nat.le_refl _) ?_
    intro v1 w1 hown1 hg1 _
    exact hK v1 w1 (by unfold NRow; simpa using hown1) ((Below.refl _ _).grown hg1 (Nat.le_refl _) (fun k hk => by cases hk))

theorem sums_great (a b : Option Addr) (la lb ca cb : Nat) (j : Int) (w : World) (h : 6 < la ∨ 6 < lb) :
    Calls Try.prog 3 #[.slice a la ca, .slice b lb cb, .int .i64 j] w fun e w' => e = .returned (.bool true) ∧ Below w.heap.size w w' := by
  have HG := Lib.hid (great_any a b none la lb 0 ca cb 0 w)
  have e : (decide (6 < la) || (decide (6 < lb) || decide (6 < 0))) = true := by simp; omega
  rw [e] at HG
  have HG := Lib.hid HG.out
  clear e h
  go_enter Try.func3, Try.ntmps3
  go_wp2_with fail
  refine HG.out.mono ?_
  rintro e w1 ⟨rfl, rfl⟩
  go_wp2_with fail
  refine (head_any w).mono ?_
  rintro e w2 ⟨rfl, hb⟩
  go_wp2_with fail
  go_ret
  exact ⟨rfl, hb⟩

/-- Where the number that Norm told is written over, place by place. -/
def OverAt (B2 B n : Nat) (an : Option Addr) (cn : Nat) (vx : Value) (L : List Nat) (w : World) (i : Value) (W : World) : Prop :=
  ∃ (k : Nat) (R : List Nat), k ≤ n ∧ i = .int .i64 (k : Int) ∧ R.length = n ∧ NRow B2 W (.slice an n cn) R ∧ NRow B W vx L ∧ Below w.heap.size w W
def LookAt (ax A : Option Addr) (L : List Nat) (w : World) (i : Value) (W : World) : Prop := ∃ k : Nat, k ≤ L.length ∧ i = .int .i64 (k : Int) ∧ NatAt W ax L ∧ NatAt W A L ∧ Below w.heap.size w W
theorem NRow.head {B n c : Nat} {w : World} {a : Option Addr} {R : List Nat} (h : NRow B w (.slice a n c) R) (hl : 0 < R.length) : ∃ g, a = some ⟨g, 0, none⟩ ∧ B ≤ g := by
  rcases h.2 with ⟨_, h0⟩ | ⟨g, cap, _, hv, hg, _⟩
  · omega
  · cases hv; exact ⟨g, rfl, hg⟩
theorem NRow.low {B : Nat} {w : World} {v : Value} {L : List Nat} (h : NRow B w v L) : ∀ bl o n c, v = .slice (some ⟨bl, o, none⟩) n c → bl < w.heap.size := by
  intro bl o n c e
  subst e
  exact h.seg.2.2.2.2.2.block
theorem NRow.away {B b2 g : Nat} {w : World} {v : Value} {L : List Nat} (h : NRow B w v L) (hx : ∀ bl o n c, v = .slice (some ⟨bl, o, none⟩) n c → bl < b2) (hg : b2 ≤ g) (k : Nat) (u : Value) : NRow B (w.setCell ⟨g, k, none⟩ u) v L := by
  have h' := h
  rcases h.2 with ⟨rfl, h0⟩ | ⟨g1, cap1, cur, rfl, _⟩
  · exact ⟨h.1, .inl ⟨rfl, h0⟩⟩
  · have hlt := hx _ _ _ _ rfl
    exact h'.of_block (Below.heap_setCell _ _ _ _ (fun e => by have e2 : g1 = g := e; omega))

set_option maxRecDepth 100000 in
set_option maxHeartbeats 8000000 in
theorem sums_any (A B : Option Addr) (ca cb : Nat) (L M : List Nat) (j : Int) (w : World) (h1 : L.length ≤ 6) (h2 : M.length ≤ 6) (hj : j ≤ 9223372036854775807)
    (hca : L.length ≤ ca) (hcb : M.length ≤ cb) (hnA : A = none → ca = 0) (hnB : B = none → cb = 0) (fL : Fits L) (fM : Fits M) (mL : NatAt w A L) (mM : NatAt w B M) :
    Calls Try.prog 3 #[.slice A L.length ca, .slice B M.length cb, .int .i64 j] w fun e w' => e = .returned (.bool true) ∧ Below w.heap.size w w' := by
  have HG := Lib.hid (great_any A B none L.length M.length 0 ca cb 0 w)
  have e : (decide (6 < L.length) || (decide (6 < M.length) || decide (6 < 0))) = false := by simp; omega
  rw [e] at HG
  have HG := Lib.hid HG.out
  obtain ⟨na, hna⟩ : ∃ na, na = lv L := ⟨_, rfl⟩
  obtain ⟨nb, hnb⟩ : ∃ nb, nb = lv M := ⟨_, rfl⟩
  have Ha : Hid (NNum 6 w (.slice A L.length ca) na) := Lib.hid (by rw [hna]; exact NNum.of_arg hca hnA fL mL h1)
  have Hb : Hid (NNum 6 w (.slice B M.length cb) nb) := Lib.hid (by rw [hnb]; exact NNum.of_arg hcb hnB fM mM h2)
  have HNR := fun (X : Nat) (w' : World) (v : Value) (h : NRow X w' v L) => h.num fL h1
  have HNS := fun (X : Nat) (w' : World) (v : Value) (h : NRow X w' v M) => h.num fM h2
  rw [← hna] at HNR
  rw [← hnb] at HNS
  have HNR := Lib.hid HNR
  have HNS := Lib.hid HNS
  obtain ⟨t, ht⟩ : ∃ t : Bool, t = ((bitV na j : Int) == 1) := ⟨_, rfl⟩
  have HT1 : Hid (∀ w', Below w.heap.size w w' → Calls Try.prog 24 #[.slice A L.length ca, .int .i64 j] w' fun e w'' => e = .returned (.bool t) ∧ w'' = w') := Lib.hid (fun w' hb => by
    rw [ht, hna]; exact bit_any A ca L j w' (by omega) hj fL (mL.below hb (Nat.le_refl _)))
  have HT2 : Hid (∀ w', Below w.heap.size w w' → Calls Try.prog 25 #[.slice A L.length ca, .int .i64 j] w' fun e w'' => e = .returned (.bool t) ∧ w' = w'') := Lib.hid (fun w' hb => by
    rw [ht, hna]; exact nBit_any A ca L j w' (by omega) hj fL (mL.below hb (Nat.le_refl _)))
  have HLA := Lib.hid mL
  have HMB := Lib.hid mM
  have HNA := Lib.hid hnA
  have HNB := Lib.hid hnB
  have HLL := Lib.hid h1
  have HML := Lib.hid h2
  have HB := Lib.hid (Below.refl w.heap.size w)
  clear e h1 h2 hj hca hcb hnA hnB fL fM mL mM hna hnb ht
  go_enter Try.func3, Try.ntmps3
  go_wp2_with fail
  refine HG.out.mono ?_
  rintro e w0 ⟨rfl, rfl⟩
  go_wp2_with (first
    | (at_builtin; refine wpList_clone rfl (.const (.slice none 0 0)) (.tmp 24) rfl A ca L rfl rfl HNA.out (by have := HLL.out; omega) HLA.out ?_; intro vx w1 hx hb1; have HX := Lib.hid hx; have HB1 := Lib.hid hb1; clear hx hb1)
    | (at_builtin; refine wpList_clone rfl (.const (.slice none 0 0)) (.tmp 26) rfl B cb M rfl rfl HNB.out (by have := HML.out; omega) (HMB.out.below HB1.out (Nat.le_refl _)) ?_; intro vy w2 hy hb2; have HY := Lib.hid hy; have HB := Lib.hid (HB1.out.trans (hb2.mono HB1.out.size)); have HX := Lib.hid (HX.out.below hb2 (Nat.le_refl _)); clear hy hb2))
  have HXn := Lib.hid (HNR.out _ _ _ HX.out)
  have HYn := Lib.hid (HNS.out _ _ _ HY.out)
  have HW2 := Lib.hid HB.out
  have HXB := Lib.hid (NRow.low HX.out)
  obtain ⟨b2, hb2⟩ : ∃ b2, b2 = w2.heap.size := ⟨_, rfl⟩
  have HB2 := Lib.hid hb2
  clear hb2 HY
  have HSA : Hid (na < 2 ^ (64 * 6)) := Lib.hid Ha.out.lt
  have HSB : Hid (nb < 2 ^ (64 * 6)) := Lib.hid Hb.out.lt
  go_wp2_with fail
  refine (norm_p HXn.out (by omega) (short_of HSA.out (by omega))).mono ?_
  rintro e w' ⟨vn, rfl, hn, hb⟩
  have HB := Lib.hid (HB.out.trans (hb.mono HB.out.size))
  have HX := Lib.hid (HX.out.below hb (Nat.le_refl _))
  have HXn := Lib.hid (HXn.out.below hb)
  have HYn := Lib.hid (HYn.out.below hb)
  have HN := Lib.hid hn
  clear hn hb
  obtain ⟨an, cn, rfl, _, _, _⟩ := HN.out.at_
  obtain ⟨N', hN'⟩ : ∃ N', N' = (nrow na).length := ⟨_, rfl⟩
  have hNI : (N' : Int) ≤ 2048 := by have h : (nrow na).length ≤ 6 := nrow_length_le HSA.out; omega
  rw [← hN'] at HN ⊢
  have HN := Lib.hid HN.out
  have HNL := Lib.hid hN'
  clear hN'
  go_wp2_with fail
  refine (add_p HXn.out HYn.out (by omega) (by omega) (short_of HSA.out (by omega)) (short_of HSB.out (by omega)) (short_of (add_lt HSA.out HSB.out) (by omega))).mono ?_
  rintro e w' ⟨vs, rfl, hs, hb⟩
  have HB := Lib.hid (HB.out.trans (hb.mono HB.out.size))
  have HX := Lib.hid (HX.out.below hb (Nat.le_refl _))
  have HXn := Lib.hid (HXn.out.below hb)
  have HYn := Lib.hid (HYn.out.below hb)
  have HN := Lib.hid (HN.out.below hb (Nat.le_refl _))
  have HS := Lib.hid hs
  clear hs hb
  go_wp2_with fail
  refine (mul_p HXn.out HYn.out (by omega)).mono ?_
  rintro e w' ⟨vm, rfl, hm, hb⟩
  have HB := Lib.hid (HB.out.trans (hb.mono HB.out.size))
  have HX := Lib.hid (HX.out.below hb (Nat.le_refl _))
  have HXn := Lib.hid (HXn.out.below hb)
  have HYn := Lib.hid (HYn.out.below hb)
  have HN := Lib.hid (HN.out.below hb (Nat.le_refl _))
  have HS := Lib.hid (HS.out.below hb (Nat.le_refl _))
  have HM := Lib.hid hm
  clear hm hb
  by_cases hlt : na < nb
  · have HC : Hid (cmpV na nb = -1) := Lib.hid (cmpV_lt hlt)
    go_wp2_with fail
    refine (sub_none HXn.out HYn.out (by omega) (by omega) (short_of HSA.out (by omega)) (short_of HSB.out (by omega)) hlt).mono ?_
    rintro e w' ⟨rfl, hb⟩
    have HB := Lib.hid (HB.out.trans (hb.mono HB.out.size))
    have HX := Lib.hid (HX.out.below hb (Nat.le_refl _))
    have HXn := Lib.hid (HXn.out.below hb)
    have HYn := Lib.hid (HYn.out.below hb)
    have HN := Lib.hid (HN.out.below hb (Nat.le_refl _))
    have HS := Lib.hid (HS.out.below hb (Nat.le_refl _))
    have HM := Lib.hid (HM.out.below hb (Nat.le_refl _))
    clear hb
    go_wp2_with fail
    refine (norm_v (K := 6) (by omega) (Ha.out.below HB.out)).mono ?_
    rintro e w' ⟨vk, rfl, hk, hb⟩
    have HB := Lib.hid (HB.out.trans (hb.mono HB.out.size))
    have HX := Lib.hid (HX.out.below hb (Nat.le_refl _))
    have HXn := Lib.hid (HXn.out.below hb)
    have HYn := Lib.hid (HYn.out.below hb)
    have HN := Lib.hid (HN.out.below hb (Nat.le_refl _))
    have HS := Lib.hid (HS.out.below hb (Nat.le_refl _))
    have HM := Lib.hid (HM.out.below hb (Nat.le_refl _))
    have HK := Lib.hid hk
    clear hk hb
    go_wp2_with fail
    refine (same_t HN.out HK.out (short_of HSA.out (by omega))).mono ?_
    rintro e w' ⟨rfl, hb⟩
    have HB := Lib.hid (HB.out.trans (hb.mono HB.out.size))
    have HX := Lib.hid (HX.out.below hb (Nat.le_refl _))
    have HXn := Lib.hid (HXn.out.below hb)
    have HYn := Lib.hid (HYn.out.below hb)
    have HN := Lib.hid (HN.out.below hb (Nat.le_refl _))
    have HS := Lib.hid (HS.out.below hb (Nat.le_refl _))
    have HM := Lib.hid (HM.out.below hb (Nat.le_refl _))
    have HK := Lib.hid (HK.out.below hb (Nat.le_refl _))
    clear hb
    go_wp2_with fail
    refine (add_v (K := 6) (by omega) (Ha.out.below HB.out) (Hb.out.below HB.out)).mono ?_
    rintro e w' ⟨vk, rfl, hk, hb⟩
    have HB := Lib.hid (HB.out.trans (hb.mono HB.out.size))
    have HX := Lib.hid (HX.out.below hb (Nat.le_refl _))
    have HXn := Lib.hid (HXn.out.below hb)
    have HYn := Lib.hid (HYn.out.below hb)
    have HN := Lib.hid (HN.out.below hb (Nat.le_refl _))
    have HS := Lib.hid (HS.out.below hb (Nat.le_refl _))
    have HM := Lib.hid (HM.out.below hb (Nat.le_refl _))
    have HK := Lib.hid hk
    clear hk hb
    go_wp2_with fail
    refine (same_t HS.out HK.out (short_of (add_lt HSA.out HSB.out) (by omega))).mono ?_
    rintro e w' ⟨rfl, hb⟩
    have HB := Lib.hid (HB.out.trans (hb.mono HB.out.size))
    have HX := Lib.hid (HX.out.below hb (Nat.le_refl _))
    have HXn := Lib.hid (HXn.out.below hb)
    have HYn := Lib.hid (HYn.out.below hb)
    have HN := Lib.hid (HN.out.below hb (Nat.le_refl _))
    have HS := Lib.hid (HS.out.below hb (Nat.le_refl _))
    have HM := Lib.hid (HM.out.below hb (Nat.le_refl _))
    have HK := Lib.hid (HK.out.below hb (Nat.le_refl _))
    clear hb
    go_wp2_with fail
    refine (mul_v (K := 6) (by omega) (Ha.out.below HB.out) (Hb.out.below HB.out)).mono ?_
    rintro e w' ⟨vk, rfl, hk, hb⟩
    have HB := Lib.hid (HB.out.trans (hb.mono HB.out.size))
    have HX := Lib.hid (HX.out.below hb (Nat.le_refl _))
    have HXn := Lib.hid (HXn.out.below hb)
    have HYn := Lib.hid (HYn.out.below hb)
    have HN := Lib.hid (HN.out.below hb (Nat.le_refl _))
    have HS := Lib.hid (HS.out.below hb (Nat.le_refl _))
    have HM := Lib.hid (HM.out.below hb (Nat.le_refl _))
    have HK := Lib.hid hk
    clear hk hb
    go_wp2_with fail
    refine (same_t HM.out HK.out (short_of (mul_lt HSA.out HSB.out) (by omega))).mono ?_
    rintro e w' ⟨rfl, hb⟩
    have HB := Lib.hid (HB.out.trans (hb.mono HB.out.size))
    have HX := Lib.hid (HX.out.below hb (Nat.le_refl _))
    have HXn := Lib.hid (HXn.out.below hb)
    have HYn := Lib.hid (HYn.out.below hb)
    have HN := Lib.hid (HN.out.below hb (Nat.le_refl _))
    have HS := Lib.hid (HS.out.below hb (Nat.le_refl _))
    have HM := Lib.hid (HM.out.below hb (Nat.le_refl _))
    have HK := Lib.hid (HK.out.below hb (Nat.le_refl _))
    clear hb
    go_wp2_with fail
    refine (cmp_v (K := 6) (by omega) (Ha.out.below HB.out) (Hb.out.below HB.out)).mono ?_
    rintro e w' ⟨rfl, rfl⟩
    rw [HC.out]
    go_wp2_with fail
    refine (cmp_t (K := 6) (K' := 6) HXn.out HYn.out (by omega) (by omega)).mono ?_
    rintro e w' ⟨rfl, hb⟩
    have HB := Lib.hid (HB.out.trans (hb.mono HB.out.size))
    have HX := Lib.hid (HX.out.below hb (Nat.le_refl _))
    have HXn := Lib.hid (HXn.out.below hb)
    have HYn := Lib.hid (HYn.out.below hb)
    have HN := Lib.hid (HN.out.below hb (Nat.le_refl _))
    have HS := Lib.hid (HS.out.below hb (Nat.le_refl _))
    have HM := Lib.hid (HM.out.below hb (Nat.le_refl _))
    clear hb
    rw [HC.out]
    go_wp2_with fail
    refine (bits_p (Ha.out.below HB.out) (by omega)).mono ?_
    rintro e w' ⟨rfl, rfl⟩
    go_wp2_with fail
    refine (bits_v (K := 6) (by omega) (Ha.out.below HB.out)).mono ?_
    rintro e w' ⟨y, hy, rfl, rfl⟩
    subst hy
    generalize ((blen na : Nat) : Int) = bl
    go_wp2_with fail
    refine (HT1.out _ HB.out).mono ?_
    rintro e w' ⟨rfl, rfl⟩
    go_wp2_with fail
    refine (HT2.out _ HB.out).mono ?_
    rintro e w' ⟨rfl, rfl⟩
    go_wp2_with fail
    go_loopw [18] (fun i W => OverAt w2.heap.size w.heap.size N' an cn vx L w i W) (fun i _ => N' - (intOf i).toNat)
    case atStart => exact ⟨0, nrow na, Nat.zero_le _, rfl, HNL.out.symm, HN.out, HX.out, HB.out⟩
    case round =>
      obtain ⟨k, R, hk, rfl, hR, hrn, hrx, hbb⟩ := hrel
      have HRN := Lib.hid hrn
      have HRX := Lib.hid hrx
      have HBB := Lib.hid hbb
      have HRL := Lib.hid hR
      clear hrn hrx hbb
      by_cases hlt : k < N'
      · obtain ⟨g, rfl, hg⟩ := HRN.out.head (by omega)
        have hkI : (k : Int) < (N' : Int) := by omega
        have hk0 : (0 : Int) ≤ (k : Int) := by omega
        have hsg := HRN.out.seg.2.2.2.2.2
        have hcell := hsg.cell (i := k) (by omega)
        rw [Nat.zero_add] at hcell
        have hfr := hsg.frozen k
        have HNX : Hid (OverAt w2.heap.size w.heap.size N' (some ⟨g, 0, none⟩) cn vx L w (.int .i64 ((k + 1 : Nat) : Int)) (wr.setCell ⟨g, k, none⟩ (.int .u64 7))) := Lib.hid
          ⟨k + 1, R.set k 7, hlt, rfl, by rw [List.length_set]; exact HRL.out, HRN.out.set (by have := HRL.out; omega) 7, HRX.out.away HXB.out hg k _, HBB.out.setCell (Nat.le_trans HW2.out.size hg) _⟩
        generalize ((R.getD k 0 : Nat) : Int) = z at hcell
        clear hsg
        go_wp2_with fail
        go_roundw
        case rel => have h := HNX.out; simpa using h
        case measure => simp [intOf]; omega
      · have hkI : (N' : Int) ≤ (k : Int) := by omega
        obtain ⟨ax, cx, rfl, _, _, hax⟩ := HRX.out.at_
        have HAX := Lib.hid hax
        have HAA := Lib.hid (HLA.out.below HBB.out (Nat.le_refl _))
        clear hax hlt
        go_wp2_with fail
        go_loopw [19] (fun i W => LookAt ax A L w i W) (fun i _ => L.length - (intOf i).toNat)
        case atStart => exact ⟨0, Nat.zero_le _, rfl, HAX.out, HAA.out, HBB.out⟩
        case round =>
          obtain ⟨m, hm, rfl, h1, h2, h3⟩ := hrel
          have H1 := Lib.hid h1
          have H2 := Lib.hid h2
          have H3 := Lib.hid h3
          clear h1 h2 h3
          have hm0 : (0 : Int) ≤ (m : Int) := by omega
          have hLI : (L.length : Int) ≤ 6 := by have := HLL.out; omega
          by_cases hlt : m < L.length
          · have hmI : (m : Int) < (L.length : Int) := by omega
            obtain ⟨b, off, rfl, e1⟩ := H1.out m hlt
            obtain ⟨b', off', rfl, e2⟩ := H2.out m hlt
            generalize ((L.getD m 0 : Nat) : Int) = x at e1 e2
            go_wp2_with fail
            go_quiet (fail)
            go_wp2_with fail
            go_roundw
            case rel => exact ⟨m + 1, hlt, by go_num, H1.out, H2.out, below_drewN H3.out _⟩
            case measure => simp [intOf]; omega
          · have hmI : (L.length : Int) ≤ (m : Int) := by omega
            go_wp2_with fail
            refine (head_any _).mono ?_
            rintro e w' ⟨rfl, hb⟩
            have HB := Lib.hid (H3.out.trans (hb.mono H3.out.size))
            clear hb
            go_wp2_with fail
            go_ret
            exact ⟨rfl, HB.out⟩
  · have hle : nb ≤ na := Nat.le_of_not_lt hlt
    obtain ⟨c, hc⟩ : ∃ c, c = cmpV na nb := ⟨_, rfl⟩
    have c0 : 0 ≤ c := by rw [hc]; unfold cmpV; rw [if_neg hlt]; split <;> omega
    have c1 : decide (0 ≤ c) = true := by simpa using c0
    have c2 : decide (c < 0) = false := by simpa using c0
    have c3 : ¬ c < 0 := by omega
    have HC : Hid (cmpV na nb = c) := Lib.hid hc.symm
    clear hc hlt
    go_wp2_with fail
    refine (sub_p HXn.out HYn.out (by omega) (by omega) (short_of HSA.out (by omega)) hle).mono ?_
    rintro e w' ⟨vd, rfl, hd, hb⟩
    have HB := Lib.hid (HB.out.trans (hb.mono HB.out.size))
    have HX := Lib.hid (HX.out.below hb (Nat.le_refl _))
    have HXn := Lib.hid (HXn.out.below hb)
    have HYn := Lib.hid (HYn.out.below hb)
    have HN := Lib.hid (HN.out.below hb (Nat.le_refl _))
    have HS := Lib.hid (HS.out.below hb (Nat.le_refl _))
    have HM := Lib.hid (HM.out.below hb (Nat.le_refl _))
    have HD := Lib.hid hd
    clear hd hb
    obtain ⟨ad, cd, rfl, _, _, _⟩ := HD.out.at_
    go_wp2_with fail
    refine (norm_v (K := 6) (by omega) (Ha.out.below HB.out)).mono ?_
    rintro e w' ⟨vk, rfl, hk, hb⟩
    have HB := Lib.hid (HB.out.trans (hb.mono HB.out.size))
    have HX := Lib.hid (HX.out.below hb (Nat.le_refl _))
    have HXn := Lib.hid (HXn.out.below hb)
    have HYn := Lib.hid (HYn.out.below hb)
    have HN := Lib.hid (HN.out.below hb (Nat.le_refl _))
    have HS := Lib.hid (HS.out.below hb (Nat.le_refl _))
    have HM := Lib.hid (HM.out.below hb (Nat.le_refl _))
    have HD := Lib.hid (HD.out.below hb (Nat.le_refl _))
    have HK := Lib.hid hk
    clear hk hb
    go_wp2_with fail
    refine (same_t HN.out HK.out (short_of HSA.out (by omega))).mono ?_
    rintro e w' ⟨rfl, hb⟩
    have HB := Lib.hid (HB.out.trans (hb.mono HB.out.size))
    have HX := Lib.hid (HX.out.below hb (Nat.le_refl _))
    have HXn := Lib.hid (HXn.out.below hb)
    have HYn := Lib.hid (HYn.out.below hb)
    have HN := Lib.hid (HN.out.below hb (Nat.le_refl _))
    have HS := Lib.hid (HS.out.below hb (Nat.le_refl _))
    have HM := Lib.hid (HM.out.below hb (Nat.le_refl _))
    have HD := Lib.hid (HD.out.below hb (Nat.le_refl _))
    have HK := Lib.hid (HK.out.below hb (Nat.le_refl _))
    clear hb
    go_wp2_with fail
    refine (add_v (K := 6) (by omega) (Ha.out.below HB.out) (Hb.out.below HB.out)).mono ?_
    rintro e w' ⟨vk, rfl, hk, hb⟩
    have HB := Lib.hid (HB.out.trans (hb.mono HB.out.size))
    have HX := Lib.hid (HX.out.below hb (Nat.le_refl _))
    have HXn := Lib.hid (HXn.out.below hb)
    have HYn := Lib.hid (HYn.out.below hb)
    have HN := Lib.hid (HN.out.below hb (Nat.le_refl _))
    have HS := Lib.hid (HS.out.below hb (Nat.le_refl _))
    have HM := Lib.hid (HM.out.below hb (Nat.le_refl _))
    have HD := Lib.hid (HD.out.below hb (Nat.le_refl _))
    have HK := Lib.hid hk
    clear hk hb
    go_wp2_with fail
    refine (same_t HS.out HK.out (short_of (add_lt HSA.out HSB.out) (by omega))).mono ?_
    rintro e w' ⟨rfl, hb⟩
    have HB := Lib.hid (HB.out.trans (hb.mono HB.out.size))
    have HX := Lib.hid (HX.out.below hb (Nat.le_refl _))
    have HXn := Lib.hid (HXn.out.below hb)
    have HYn := Lib.hid (HYn.out.below hb)
    have HN := Lib.hid (HN.out.below hb (Nat.le_refl _))
    have HS := Lib.hid (HS.out.below hb (Nat.le_refl _))
    have HM := Lib.hid (HM.out.below hb (Nat.le_refl _))
    have HD := Lib.hid (HD.out.below hb (Nat.le_refl _))
    have HK := Lib.hid (HK.out.below hb (Nat.le_refl _))
    clear hb
    go_wp2_with fail
    refine (mul_v (K := 6) (by omega) (Ha.out.below HB.out) (Hb.out.below HB.out)).mono ?_
    rintro e w' ⟨vk, rfl, hk, hb⟩
    have HB := Lib.hid (HB.out.trans (hb.mono HB.out.size))
    have HX := Lib.hid (HX.out.below hb (Nat.le_refl _))
    have HXn := Lib.hid (HXn.out.below hb)
    have HYn := Lib.hid (HYn.out.below hb)
    have HN := Lib.hid (HN.out.below hb (Nat.le_refl _))
    have HS := Lib.hid (HS.out.below hb (Nat.le_refl _))
    have HM := Lib.hid (HM.out.below hb (Nat.le_refl _))
    have HD := Lib.hid (HD.out.below hb (Nat.le_refl _))
    have HK := Lib.hid hk
    clear hk hb
    go_wp2_with fail
    refine (same_t HM.out HK.out (short_of (mul_lt HSA.out HSB.out) (by omega))).mono ?_
    rintro e w' ⟨rfl, hb⟩
    have HB := Lib.hid (HB.out.trans (hb.mono HB.out.size))
    have HX := Lib.hid (HX.out.below hb (Nat.le_refl _))
    have HXn := Lib.hid (HXn.out.below hb)
    have HYn := Lib.hid (HYn.out.below hb)
    have HN := Lib.hid (HN.out.below hb (Nat.le_refl _))
    have HS := Lib.hid (HS.out.below hb (Nat.le_refl _))
    have HM := Lib.hid (HM.out.below hb (Nat.le_refl _))
    have HD := Lib.hid (HD.out.below hb (Nat.le_refl _))
    have HK := Lib.hid (HK.out.below hb (Nat.le_refl _))
    clear hb
    go_wp2_with fail
    refine (cmp_v (K := 6) (by omega) (Ha.out.below HB.out) (Hb.out.below HB.out)).mono ?_
    rintro e w' ⟨rfl, rfl⟩
    rw [HC.out]
    go_wp2_with fail
    refine (cmp_t (K := 6) (K' := 6) HXn.out HYn.out (by omega) (by omega)).mono ?_
    rintro e w' ⟨rfl, hb⟩
    have HB := Lib.hid (HB.out.trans (hb.mono HB.out.size))
    have HX := Lib.hid (HX.out.below hb (Nat.le_refl _))
    have HXn := Lib.hid (HXn.out.below hb)
    have HYn := Lib.hid (HYn.out.below hb)
    have HN := Lib.hid (HN.out.below hb (Nat.le_refl _))
    have HS := Lib.hid (HS.out.below hb (Nat.le_refl _))
    have HM := Lib.hid (HM.out.below hb (Nat.le_refl _))
    have HD := Lib.hid (HD.out.below hb (Nat.le_refl _))
    clear hb
    rw [HC.out]
    go_wp2_with fail
    refine (sub_v (K := 6) (by omega) (Ha.out.below HB.out) (Hb.out.below HB.out) hle).mono ?_
    rintro e w' ⟨vk, rfl, hk, hb⟩
    have HB := Lib.hid (HB.out.trans (hb.mono HB.out.size))
    have HX := Lib.hid (HX.out.below hb (Nat.le_refl _))
    have HXn := Lib.hid (HXn.out.below hb)
    have HYn := Lib.hid (HYn.out.below hb)
    have HN := Lib.hid (HN.out.below hb (Nat.le_refl _))
    have HS := Lib.hid (HS.out.below hb (Nat.le_refl _))
    have HM := Lib.hid (HM.out.below hb (Nat.le_refl _))
    have HD := Lib.hid (HD.out.below hb (Nat.le_refl _))
    have HK := Lib.hid hk
    clear hk hb
    go_wp2_with fail
    refine (same_t HD.out HK.out (Nat.le_trans (nrow_length_le (Nat.lt_of_le_of_lt (Nat.sub_le _ _) HSA.out)) (by omega))).mono ?_
    rintro e w' ⟨rfl, hb⟩
    have HB := Lib.hid (HB.out.trans (hb.mono HB.out.size))
    have HX := Lib.hid (HX.out.below hb (Nat.le_refl _))
    have HXn := Lib.hid (HXn.out.below hb)
    have HYn := Lib.hid (HYn.out.below hb)
    have HN := Lib.hid (HN.out.below hb (Nat.le_refl _))
    have HS := Lib.hid (HS.out.below hb (Nat.le_refl _))
    have HM := Lib.hid (HM.out.below hb (Nat.le_refl _))
    have HD := Lib.hid (HD.out.below hb (Nat.le_refl _))
    have HK := Lib.hid (HK.out.below hb (Nat.le_refl _))
    clear hb
    go_wp2_with fail
    refine (bits_p (Ha.out.below HB.out) (by omega)).mono ?_
    rintro e w' ⟨rfl, rfl⟩
    go_wp2_with fail
    refine (bits_v (K := 6) (by omega) (Ha.out.below HB.out)).mono ?_
    rintro e w' ⟨y, hy, rfl, rfl⟩
    subst hy
    generalize ((blen na : Nat) : Int) = bl
    go_wp2_with fail
    refine (HT1.out _ HB.out).mono ?_
    rintro e w' ⟨rfl, rfl⟩
    go_wp2_with fail
    refine (HT2.out _ HB.out).mono ?_
    rintro e w' ⟨rfl, rfl⟩
    go_wp2_with fail
    go_loopw [18] (fun i W => OverAt w2.heap.size w.heap.size N' an cn vx L w i W) (fun i _ => N' - (intOf i).toNat)
    case atStart => exact ⟨0, nrow na, Nat.zero_le _, rfl, HNL.out.symm, HN.out, HX.out, HB.out⟩
    case round =>
      obtain ⟨k, R, hk, rfl, hR, hrn, hrx, hbb⟩ := hrel
      have HRN := Lib.hid hrn
      have HRX := Lib.hid hrx
      have HBB := Lib.hid hbb
      have HRL := Lib.hid hR
      clear hrn hrx hbb
      by_cases hlt : k < N'
      · obtain ⟨g, rfl, hg⟩ := HRN.out.head (by omega)
        have hkI : (k : Int) < (N' : Int) := by omega
        have hk0 : (0 : Int) ≤ (k : Int) := by omega
        have hsg := HRN.out.seg.2.2.2.2.2
        have hcell := hsg.cell (i := k) (by omega)
        rw [Nat.zero_add] at hcell
        have hfr := hsg.frozen k
        have HNX : Hid (OverAt w2.heap.size w.heap.size N' (some ⟨g, 0, none⟩) cn vx L w (.int .i64 ((k + 1 : Nat) : Int)) (wr.setCell ⟨g, k, none⟩ (.int .u64 7))) := Lib.hid
          ⟨k + 1, R.set k 7, hlt, rfl, by rw [List.length_set]; exact HRL.out, HRN.out.set (by have := HRL.out; omega) 7, HRX.out.away HXB.out hg k _, HBB.out.setCell (Nat.le_trans HW2.out.size hg) _⟩
        generalize ((R.getD k 0 : Nat) : Int) = z at hcell
        clear hsg
        go_wp2_with fail
        go_roundw
        case rel => have h := HNX.out; simpa using h
        case measure => simp [intOf]; omega
      · have hkI : (N' : Int) ≤ (k : Int) := by omega
        obtain ⟨ax, cx, rfl, _, _, hax⟩ := HRX.out.at_
        have HAX := Lib.hid hax
        have HAA := Lib.hid (HLA.out.below HBB.out (Nat.le_refl _))
        clear hax hlt
        go_wp2_with fail
        go_loopw [19] (fun i W => LookAt ax A L w i W) (fun i _ => L.length - (intOf i).toNat)
        case atStart => exact ⟨0, Nat.zero_le _, rfl, HAX.out, HAA.out, HBB.out⟩
        case round =>
          obtain ⟨m, hm, rfl, h1, h2, h3⟩ := hrel
          have H1 := Lib.hid h1
          have H2 := Lib.hid h2
          have H3 := Lib.hid h3
          clear h1 h2 h3
          have hm0 : (0 : Int) ≤ (m : Int) := by omega
          have hLI : (L.length : Int) ≤ 6 := by have := HLL.out; omega
          by_cases hlt : m < L.length
          · have hmI : (m : Int) < (L.length : Int) := by omega
            obtain ⟨b, off, rfl, e1⟩ := H1.out m hlt
            obtain ⟨b', off', rfl, e2⟩ := H2.out m hlt
            generalize ((L.getD m 0 : Nat) : Int) = x at e1 e2
            go_wp2_with fail
            go_quiet (fail)
            go_wp2_with fail
            go_roundw
            case rel => exact ⟨m + 1, hlt, by go_num, H1.out, H2.out, below_drewN H3.out _⟩
            case measure => simp [intOf]; omega
          · have hmI : (L.length : Int) ≤ (m : Int) := by omega
            go_wp2_with fail
            refine (head_any _).mono ?_
            rintro e w' ⟨rfl, hb⟩
            have HB := Lib.hid (H3.out.trans (hb.mono H3.out.size))
            clear hb
            go_wp2_with fail
            go_ret
            exact ⟨rfl, HB.out⟩
end Go.Proofs.Ytdhabkblgkoibaa
