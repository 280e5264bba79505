/-
  LAYER 11: tokens rise: what stands between them, and the text of their texts. (No program.)
-/
import Derived.Test.YtomcpgogiglpkaaDoorTokJoinM
import Derived.Test.YtomcpgogiglpkaaDoorTokTokR
namespace Go.Proofs.YtomcpgogiglpkaaDoor
open Go

/-- What is left out holds blanks and remarks only. -/
theorem trm_gap (c : Bool) (l : List UInt8) : ∃ g, l = g ++ trm c l ∧ trm c g = [] := by
  induction l generalizing c with
  | nil => cases c <;> exact ⟨[], rfl, rfl⟩
  | cons b r ih =>
    cases c
    · by_cases h : isB b = true
      · obtain ⟨g, h1, h2⟩ := ih false
        refine ⟨b :: g, ?_, ?_⟩
        · rw [trm_blank h]; exact congrArg (b :: ·) h1
        · rw [trm_blank h]; exact h2
      · by_cases h2 : b.toNat = 47 ∧ (bAt r 0).toNat = 47
        · have e : ∀ x, (bAt x 0).toNat = 47 → trm false (b :: x) = trm true x := fun x hx => by
            conv => lhs; unfold trm
            rw [if_neg h, if_pos ⟨h2.1, hx⟩]
          obtain ⟨g, h3, h4⟩ := ih true
          have hg : (bAt g 0).toNat = 47 := by
            cases g with
            | nil =>
              exfalso
              match r, h2.2, h3 with
              | a :: r', h5, h6 =>
                have h7 : a.toNat = 47 := h5
                rw [List.nil_append] at h6
                have h8 : trm true (a :: r') = trm true r' := trm_cons_true (by omega)
                rw [h8] at h6
                have h9 := trm_len true r'
                rw [← h6] at h9
                rw [List.length_cons] at h9
                omega
            | cons a g' =>
              have h5 := h2.2
              rw [h3] at h5
              exact h5
          refine ⟨b :: g, ?_, ?_⟩
          · rw [e r h2.2]; exact congrArg (b :: ·) h3
          · rw [e g hg]; exact h4
        · refine ⟨[], ?_, rfl⟩
          have e1 : trm false (b :: r) = b :: r := by
            conv => lhs; unfold trm
            rw [if_neg h, if_neg h2]
          rw [e1]; rfl
    · by_cases h : b.toNat = 10
      · have e : ∀ x, trm true (b :: x) = trm false x := fun x => by
          conv => lhs; unfold trm
          rw [if_pos h]
        obtain ⟨g, h1, h2⟩ := ih false
        refine ⟨b :: g, ?_, ?_⟩
        · rw [e]; exact congrArg (b :: ·) h1
        · rw [e]; exact h2
      · obtain ⟨g, h1, h2⟩ := ih true
        refine ⟨b :: g, ?_, ?_⟩
        · rw [trm_cons_true h]; exact congrArg (b :: ·) h1
        · rw [trm_cons_true h]; exact h2

/-- Where the k-th token may begin. -/
def edg (l : List UInt8) : Nat → Nat
  | 0 => 0
  | k + 1 => plc l k + (tok (st l k)).2
/-- What stands ahead of the k-th token. -/
def gap (l : List UInt8) (k : Nat) : List UInt8 := (l.drop (edg l k)).take (plc l k - edg l k)
theorem edg_drop {l : List UInt8} {k : Nat} (hk : k ≤ tkN l) : trm false (l.drop (edg l k)) = st l k ∧ edg l k ≤ plc l k ∧ plc l k ≤ l.length ∧ edg l k ≤ l.length := by
  cases k with
  | zero =>
    refine ⟨rfl, Nat.zero_le _, ?_, Nat.zero_le _⟩
    unfold plc; omega
  | succ k =>
    have h1 := st_drop l k (by omega)
    have h2 := st_len l k (by omega)
    have h3 := tok_le (st l k)
    have h5 : (st l (k + 1)).length ≤ (st l k).length - (tok (st l k)).2 := by
      have := trm_len false ((st l k).drop (tok (st l k)).2)
      rw [List.length_drop] at this
      exact this
    refine ⟨?_, ?_, ?_, ?_⟩
    · show trm false (l.drop (plc l k + (tok (st l k)).2)) = nxt (st l k)
      unfold nxt
      rw [← List.drop_drop, h1]
    · show plc l k + _ ≤ plc l (k + 1)
      unfold plc; omega
    · unfold plc; omega
    · show plc l k + _ ≤ _
      unfold plc; omega
theorem gap_trm {l : List UInt8} {k : Nat} (hk : k ≤ tkN l) : trm false (gap l k) = [] := by
  obtain ⟨h1, h2, h3, h4⟩ := edg_drop hk
  obtain ⟨g, h5, h6⟩ := trm_gap false (l.drop (edg l k))
  rw [h1] at h5
  have h7 : g.length = plc l k - edg l k := by
    have := congrArg List.length h5
    rw [List.length_append, List.length_drop] at this
    unfold plc at *; omega
  have h8 : gap l k = g := by
    unfold gap
    rw [h5, ← h7, List.take_left']
    rfl
  rw [h8]; exact h6
/-- Of blanks and remarks, nothing is told. -/
theorem told_none {g : List UInt8} (h : trm false g = []) (hl : g.length ≤ 6000) : flt g = (0, 0) ∧ told g = [] := by
  have hN : tkN g = 0 := tkN_uniq (fun k hk => absurd hk (by omega)) (by show live (trm false g) = false; rw [h]; rfl)
  have hb : bad g = false := by unfold bad; rw [hN]; show (!(trm false g).isEmpty) = false; rw [h]; rfl
  have e : flt g = (0, 0) := by
    unfold flt
    rw [if_neg (by omega), hN, if_neg (by omega), hb]; rfl
  refine ⟨e, ?_⟩
  unfold told
  rw [e, hN]; rfl

/-- What a test says of a byte of a beginning. -/
theorem bAt_take {r : List UInt8} {m i : Nat} (h : i < m) : bAt (r.take m) i = bAt r i := by
  unfold bAt
  rw [List.getD_eq_getElem?_getD, List.getD_eq_getElem?_getD, List.getElem?_take_of_lt h]
theorem bAt_take_ge {r : List UInt8} {m i : Nat} (h : m ≤ i) : bAt (r.take m) i = 0 := bAt_ge (Nat.le_trans (List.length_take_le _ _) h)
theorem rEnd_take (q : UInt8 → Bool) (h0 : q 0 = false) {r : List UInt8} {m i : Nat} (hm : rEnd q r i ≤ m) : rEnd q (r.take m) i = rEnd q r i := by
  induction hn : m - i generalizing i with
  | zero =>
    have := rEnd_ge q r i
    have h1 : rEnd q r i = i := by omega
    rw [h1]
    refine rEnd_stop ?_
    rw [bAt_take_ge (by omega)]; exact h0
  | succ n ih =>
    have hi : i < m := by omega
    cases hq : q (bAt r i)
    · rw [rEnd_stop hq]
      refine rEnd_stop ?_
      rw [bAt_take hi]; exact hq
    · rw [rEnd_step h0 hq] at hm ⊢
      rw [rEnd_step h0 (by rw [bAt_take hi]; exact hq)]
      exact ih hm (by omega)
theorem rEnd_gt {q : UInt8 → Bool} (h0 : q 0 = false) {r : List UInt8} {i : Nat} (h : q (bAt r i) = true) : i < rEnd q r i := by
  rw [rEnd_step h0 h]
  exact rEnd_ge q r (i + 1)

theorem nameL_take {r : List UInt8} (h : 0 < nameL r) : nameL (r.take (nameL r)) = nameL r := by
  have hn : nameL r = rEnd isLD r 1 := by
    unfold nameL at h ⊢
    split
    · rfl
    · rename_i h1; rw [if_neg h1] at h; omega
  have hc : (isL (bAt r 0) && !(bAt r 0).toNat == 95) = true := by
    unfold nameL at h
    split at h
    · rename_i h1; exact h1
    · omega
  rw [hn]
  rw [hn] at h
  conv => lhs; unfold nameL
  rw [bAt_take h, if_pos hc, rEnd_take isLD rfl (Nat.le_refl _)]
theorem nameL_stays {r : List UInt8} {m : Nat} (h : nameL r = 0) (hm : 0 < m) : nameL (r.take m) = 0 := by
  have hc : ¬ (isL (bAt r 0) && !(bAt r 0).toNat == 95) = true := by
    intro hc
    unfold nameL at h
    rw [if_pos hc] at h
    have := rEnd_ge isLD r 1
    omega
  unfold nameL
  rw [bAt_take hm, if_neg hc]
theorem fracE_ge (l : List UInt8) (n : Nat) : n ≤ fracE l n := by
  unfold fracE
  split
  · have := rEnd_ge isD l (n + 1); omega
  · exact Nat.le_refl _
theorem fracE_take {r : List UInt8} {m n : Nat} (hm : fracE r n ≤ m) : fracE (r.take m) n = fracE r n := by
  have hn := fracE_ge r n
  unfold fracE at hm hn ⊢
  by_cases hc : ((bAt r n).toNat == 46 && isD (bAt r (n + 1))) = true
  · rw [if_pos hc] at hm hn ⊢
    have hd : isD (bAt r (n + 1)) = true := by
      rw [Bool.and_eq_true] at hc; exact hc.2
    have := rEnd_gt isD_zero hd
    rw [bAt_take (by omega), bAt_take (by omega), if_pos hc, rEnd_take isD rfl hm]
  · rw [if_neg hc] at hm hn ⊢
    rw [if_neg]
    intro h
    apply hc
    rw [Bool.and_eq_true] at h ⊢
    have h1 : n < m := by
      rcases Nat.lt_or_ge n m with h1 | h1
      · exact h1
      · rw [bAt_take_ge h1] at h; simp at h
    have h2 : n + 1 < m := by
      rcases Nat.lt_or_ge (n + 1) m with h2 | h2
      · exact h2
      · rw [bAt_take_ge h2] at h; exact absurd h.2 (by rw [isD_zero]; simp)
    rw [bAt_take h1, bAt_take h2] at h
    exact h
theorem numL_take {r : List UInt8} (h : 0 < numL r) : numL (r.take (numL r)) = numL r := by
  obtain ⟨m, hm⟩ : ∃ m, m = numL r := ⟨_, rfl⟩
  rw [← hm] at h ⊢
  have h0 : rEnd isD r 0 ≠ 0 := by
    intro h0
    unfold numL at hm
    rw [if_pos h0] at hm; omega
  have hm2 : m = tailE r (fracE r (rEnd isD r 0)) := by
    unfold numL at hm
    rw [if_neg h0] at hm; exact hm
  have hge := fracE_ge r (rEnd isD r 0)
  obtain ⟨f, hf⟩ : ∃ f, f = fracE r (rEnd isD r 0) := ⟨_, rfl⟩
  rw [← hf] at hm2 hge
  have key : f ≤ m ∧ tailE (r.take m) f = m := by
    unfold tailE at hm2
    by_cases he : 0 < expoE r f
    · rw [if_pos he] at hm2
      have hx : ((bAt r f).toNat == 101 && isD (bAt r (signE r (f + 1)))) = true := by
        unfold expoE at he
        split at he
        · rename_i h1; exact h1
        · omega
      have hex : expoE r f = signE r (f + 1) := by unfold expoE; rw [if_pos hx]
      have hsg : f + 1 ≤ signE r (f + 1) := by unfold signE; split <;> omega
      have hdg : isD (bAt r (expoE r f)) = true := by
        rw [hex]; rw [Bool.and_eq_true] at hx; exact hx.2
      have hgt := rEnd_gt isD_zero hdg
      by_cases h4 : 4 < rEnd isD r (expoE r f) - expoE r f
      · rw [if_pos h4] at hm2; omega
      · rw [if_neg h4] at hm2
        have hend : m = rEnd isD r (expoE r f) := by
          unfold endE at hm2
          split at hm2
          · omega
          · exact hm2
        have hs2 : signE (r.take m) (f + 1) = signE r (f + 1) := by
          unfold signE
          rw [bAt_take (by omega)]
        have he2 : expoE (r.take m) f = expoE r f := by
          unfold expoE
          rw [hs2, bAt_take (by omega), bAt_take (by omega)]
        refine ⟨by omega, ?_⟩
        unfold tailE
        rw [he2, if_pos he, rEnd_take isD rfl (by omega), if_neg h4, ← hend]
        unfold endE
        rw [bAt_take_ge (Nat.le_refl _)]; rfl
    · rw [if_neg he] at hm2
      have hend : m = f := by
        unfold endE at hm2
        split at hm2
        · omega
        · exact hm2
      subst hend
      refine ⟨Nat.le_refl _, ?_⟩
      have he2 : expoE (r.take m) m = 0 := by
        unfold expoE
        rw [bAt_take_ge (Nat.le_refl _)]; rfl
      unfold tailE
      rw [he2, if_neg (by omega)]
      unfold endE
      rw [bAt_take_ge (Nat.le_refl _)]; rfl
  unfold numL
  rw [rEnd_take isD rfl (by omega), if_neg h0, fracE_take (by omega), ← hf]
  exact key.2
theorem sgn_some (ss : List (List UInt8)) (r : List UInt8) (h : 0 < sgn ss r) : ∃ s ∈ ss, sgn ss r = s.length ∧ r.take s.length = s := by
  induction ss with
  | nil => simp [sgn] at h
  | cons s ss ih =>
    unfold sgn at h ⊢
    by_cases hp : Go.Lib.hasPrefix r s = true
    · rw [if_pos hp]
      refine ⟨s, by simp, rfl, ?_⟩
      have : s <+: r := List.isPrefixOf_iff_prefix.1 hp
      exact (List.prefix_iff_eq_take.1 this).symm
    · rw [if_neg hp] at h ⊢
      obtain ⟨s', h1, h2, h3⟩ := ih h
      exact ⟨s', by simp [h1], h2, h3⟩
theorem sgs_tok : ∀ s ∈ sgs, tok s = (3, s.length) := by decide +kernel

/-- A token's text alone is that token. -/
theorem tok_take {r : List UInt8} (h : (tok r).1 ≠ 0) : tok (r.take (tok r).2) = tok r := by
  by_cases h1 : 0 < nameL r
  · have e : tok r = (1, nameL r) := by unfold tok; rw [if_pos h1]
    rw [e]
    show tok (r.take (nameL r)) = (1, nameL r)
    unfold tok
    rw [nameL_take h1, if_pos h1]
  · by_cases h2 : 0 < numL r
    · have e : tok r = (2, numL r) := by unfold tok; rw [if_neg h1, if_pos h2]
      rw [e]
      show tok (r.take (numL r)) = (2, numL r)
      unfold tok
      rw [nameL_stays (by omega) h2, if_neg (by omega), numL_take h2, if_pos h2]
    · by_cases h3 : 0 < signL r
      · have e : tok r = (3, signL r) := by unfold tok; rw [if_neg h1, if_neg h2, if_pos h3]
        rw [e]
        show tok (r.take (signL r)) = (3, signL r)
        obtain ⟨s, hs, h4, h5⟩ := sgn_some sgs r h3
        have h6 : signL r = s.length := h4
        rw [h6, h5]
        exact sgs_tok s hs
      · exfalso
        apply h
        unfold tok
        rw [if_neg h1, if_neg h2, if_neg h3]

/-- The texts of the tokens from the k-th on, a blank ahead of each. -/
def jn (l : List UInt8) : Nat → Nat → List UInt8
  | _, 0 => []
  | k, f + 1 => 32 :: ((tk l k).text ++ jn l (k + 1) f)
/-- The texts of the first k tokens, a blank ahead of each. -/
def acc (l : List UInt8) : Nat → List UInt8
  | 0 => []
  | k + 1 => acc l k ++ 32 :: (tk l k).text
theorem acc_jn (l : List UInt8) (k f : Nat) : acc l k ++ jn l k f = acc l (k + f) := by
  induction f generalizing k with
  | zero => simp [jn]
  | succ f ih =>
    have h := ih (k + 1)
    rw [show k + (f + 1) = k + 1 + f by omega, ← h]
    show acc l k ++ 32 :: ((tk l k).text ++ jn l (k + 1) f) = (acc l k ++ 32 :: (tk l k).text) ++ jn l (k + 1) f
    simp
theorem jn_all (l : List UInt8) (n : Nat) : jn l 0 n = acc l n := by
  have := acc_jn l 0 n
  rw [Nat.zero_add] at this
  rw [← this]; rfl
theorem jn_form (l : List UInt8) (k f : Nat) : jn l k f = [] ∨ ∃ u, jn l k f = 32 :: u := by
  cases f with
  | zero => exact .inl rfl
  | succ f => exact .inr ⟨_, rfl⟩

/-- Where the trimming stops. -/
theorem trm_head (c : Bool) (l : List UInt8) {b : UInt8} {r : List UInt8} (h : trm c l = b :: r) : isB b = false ∧ ¬ (b.toNat = 47 ∧ (bAt r 0).toNat = 47) := by
  induction l generalizing c with
  | nil => cases c <;> simp [trm] at h
  | cons a x ih =>
    cases c
    · by_cases h1 : isB a = true
      · rw [trm_blank h1] at h; exact ih false h
      · by_cases h2 : a.toNat = 47 ∧ (bAt x 0).toNat = 47
        · have e : trm false (a :: x) = trm true x := by
            conv => lhs; unfold trm
            rw [if_neg h1, if_pos h2]
          rw [e] at h; exact ih true h
        · have e : trm false (a :: x) = a :: x := by
            conv => lhs; unfold trm
            rw [if_neg h1, if_neg h2]
          rw [e] at h
          cases h
          exact ⟨by simpa using h1, h2⟩
    · by_cases h1 : a.toNat = 10
      · have e : trm true (a :: x) = trm false x := by
          conv => lhs; unfold trm
          rw [if_pos h1]
        rw [e] at h; exact ih false h
      · rw [trm_cons_true h1] at h; exact ih true h
theorem st_trm (l : List UInt8) (k : Nat) : ∃ x, st l k = trm false x := by
  cases k with
  | zero => exact ⟨l, rfl⟩
  | succ k => exact ⟨(st l k).drop (tok (st l k)).2, rfl⟩

/-- The text of a token. -/
theorem text_len {l : List UInt8} {k : Nat} : (tk l k).text.length = (tok (st l k)).2 := by
  show ((st l k).take _).length = _
  rw [List.length_take]
  have := tok_le (st l k)
  omega
theorem text_pos {l : List UInt8} {k : Nat} (hk : k < tkN l) : 0 < (tk l k).text.length := by
  rw [text_len]
  exact tok_some (live_iff.1 (live_lt hk)).2
/-- A token's text behind a blank, and another blank, or nothing, behind it. -/
theorem trm_text {l : List UInt8} {k : Nat} (hk : k < tkN l) {v : List UInt8} (hv : v = [] ∨ ∃ u, v = 32 :: u) : trm false (32 :: ((tk l k).text ++ v)) = (tk l k).text ++ v := by
  have hp := text_pos hk
  obtain ⟨x, hx⟩ := st_trm l k
  have hne := st_ne hk
  cases hr : st l k with
  | nil => exact absurd hr hne
  | cons b r =>
    rw [hr] at hx
    obtain ⟨h1, h2⟩ := trm_head false x hx.symm
    obtain ⟨t, ht⟩ : ∃ t, (tk l k).text = b :: t ∧ t = r.take ((tok (st l k)).2 - 1) := by
      refine ⟨r.take ((tok (st l k)).2 - 1), ?_, rfl⟩
      show (st l k).take (tok (st l k)).2 = _
      have h3 : (tok (st l k)).2 = ((tok (st l k)).2 - 1) + 1 := by rw [text_len] at hp; omega
      conv => lhs; rw [h3, hr]
      rw [List.take_succ_cons, ← hr]
    rw [trm_blank (by rfl), ht.1]
    show trm false (b :: (t ++ v)) = b :: (t ++ v)
    conv => lhs; unfold trm
    rw [if_neg (by simp [h1]), if_neg]
    rintro ⟨h3, h4⟩
    refine h2 ⟨h3, ?_⟩
    match ht2 : t with
    | [] =>
      exfalso
      rcases hv with rfl | ⟨u, rfl⟩
      · simp [bAt] at h4
      · simp [bAt] at h4
    | a :: t' =>
      have e := ht.2
      have h5 : 0 < (tok (st l k)).2 - 1 := by
        rcases Nat.eq_zero_or_pos ((tok (st l k)).2 - 1) with h | h
        · rw [h] at e; simp at e
        · exact h
      rw [← bAt_take h5, ← e]
      exact h4
theorem tok_text {l : List UInt8} {k : Nat} (hk : k < tkN l) {v : List UInt8} (hv : v = [] ∨ ∃ u, v = 32 :: u) : tok ((tk l k).text ++ v) = tok (st l k) := by
  have hp := text_pos hk
  have h1 : tok (tk l k).text = tok (st l k) := tok_take (live_iff.1 (live_lt hk)).2
  rcases hv with rfl | ⟨u, rfl⟩
  · rw [List.append_nil]; exact h1
  · rw [tok_app ends_sp u (fun h => by rw [h] at hp; simp at hp)]; exact h1
/-- What is left of the text of the texts. -/
theorem st_acc {l : List UInt8} {k f : Nat} (hk : k + f + 1 = tkN l) : st (acc l (tkN l)) k = (tk l k).text ++ jn l (k + 1) f := by
  induction k generalizing f with
  | zero =>
    show trm false (acc l (tkN l)) = _
    rw [← jn_all, ← hk, show 0 + f + 1 = f + 1 by omega]
    exact trm_text (by omega) (jn_form _ _ _)
  | succ k ih =>
    show nxt (st (acc l (tkN l)) k) = _
    rw [ih (f := f + 1) (by omega)]
    unfold nxt
    rw [tok_text (by omega) (jn_form _ _ _), ← text_len, List.drop_left]
    exact trm_text (by omega) (jn_form _ _ _)
theorem st_acc_end (l : List UInt8) : st (acc l (tkN l)) (tkN l) = [] := by
  rcases Nat.eq_zero_or_pos (tkN l) with h | h
  · rw [h]; rfl
  · obtain ⟨n, hn⟩ : ∃ n, tkN l = n + 1 := ⟨tkN l - 1, by omega⟩
    have h1 := st_acc (l := l) (k := n) (f := 0) (by omega)
    conv => lhs; arg 2; rw [hn]
    show nxt (st (acc l (tkN l)) n) = []
    rw [h1]
    unfold nxt
    rw [tok_text (by omega) (jn_form _ _ _), ← text_len, List.drop_left]
    rfl
/-- The texts, with a blank ahead of each, are read as the same tokens. -/
theorem rise_again (l : List UInt8) : tkN (acc l (tkN l)) = tkN l ∧ bad (acc l (tkN l)) = false ∧ ∀ k, k < tkN l → (tk (acc l (tkN l)) k).kind = (tk l k).kind ∧ (tk (acc l (tkN l)) k).text = (tk l k).text := by
  have hst : ∀ k, k < tkN l → ∃ v, (v = [] ∨ ∃ u, v = 32 :: u) ∧ st (acc l (tkN l)) k = (tk l k).text ++ v := fun k hk => by
    obtain ⟨f, hf⟩ : ∃ f, k + f + 1 = tkN l := ⟨tkN l - k - 1, by omega⟩
    exact ⟨_, jn_form _ _ _, st_acc hf⟩
  have hN : tkN (acc l (tkN l)) = tkN l := by
    refine tkN_uniq (fun k hk => ?_) ?_
    · obtain ⟨v, hv, h⟩ := hst k hk
      rw [h, live_iff, tok_text hk hv]
      have h1 := live_iff.1 (live_lt hk)
      have hp := text_pos hk
      refine ⟨fun h => ?_, h1.2⟩
      have := congrArg List.length h
      simp at this
      rw [this.1] at hp; simp at hp
    · rw [st_acc_end]; rfl
  refine ⟨hN, ?_, fun k hk => ?_⟩
  · unfold bad
    rw [hN, st_acc_end]; rfl
  · obtain ⟨v, hv, h⟩ := hst k hk
    have h2 := tok_text hk hv
    refine ⟨?_, ?_⟩
    · show (tok (st _ k)).1 = (tok (st l k)).1
      rw [h, h2]
    · show (st _ k).take (tok (st _ k)).2 = _
      rw [h, h2, ← text_len, List.take_left]
theorem acc_len {l : List UInt8} {k : Nat} (hk : k ≤ tkN l) : (acc l k).length + 2 * (st l k).length ≤ 2 * l.length := by
  induction k with
  | zero =>
    show 0 + 2 * (trm false l).length ≤ _
    have := trm_len false l
    omega
  | succ k ih =>
    have h1 := ih (by omega)
    have h2 := text_pos (l := l) (k := k) (by omega)
    have h3 := tok_le (st l k)
    have h5 : (st l (k + 1)).length ≤ (st l k).length - (tok (st l k)).2 := by
      have := trm_len false ((st l k).drop (tok (st l k)).2)
      rw [List.length_drop] at this
      exact this
    show (acc l k ++ 32 :: (tk l k).text).length + _ ≤ _
    rw [List.length_append, List.length_cons]
    rw [text_len] at h2 ⊢
    omega
end Go.Proofs.YtomcpgogiglpkaaDoor
