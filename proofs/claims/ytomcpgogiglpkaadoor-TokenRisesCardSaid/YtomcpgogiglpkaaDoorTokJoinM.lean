/-
  LAYER 11: texts behind each other: what is told of them. (No program.)
-/
import Derived.Test.YtomcpgogiglpkaaDoorTokMath
namespace Go.Proofs.YtomcpgogiglpkaaDoor
open Go

theorem bAt_app {r v : List UInt8} {i : Nat} (h : i < r.length) : bAt (r ++ v) i = bAt r i := by
  unfold bAt
  rw [List.getD_eq_getElem?_getD, List.getD_eq_getElem?_getD, List.getElem?_append_left h]
theorem bAt_len (r : List UInt8) (c : UInt8) (u : List UInt8) : bAt (r ++ c :: u) r.length = c := by
  unfold bAt
  rw [List.getD_eq_getElem?_getD, List.getElem?_append_right (Nat.le_refl _), Nat.sub_self]; rfl

/-- A byte behind which nothing is looked at: it is in no name, no number, no sign. -/
structure Ends (c : UInt8) : Prop where
  ld : isLD c = false
  d : isD c = false
  l : isL c = false
  dot : (c.toNat == 46) = false
  e : (c.toNat == 101) = false
  p : (c.toNat == 43) = false
  m : (c.toNat == 45) = false
  sg : ∀ s ∈ sgs, c ∉ s
theorem ends_nl : Ends 10 := ⟨rfl, rfl, rfl, rfl, rfl, rfl, rfl, by decide⟩
theorem ends_sp : Ends 32 := ⟨rfl, rfl, rfl, rfl, rfl, rfl, rfl, by decide⟩

section
variable {c : UInt8} (hc : Ends c) (u : List UInt8)
/-- What a test says of a byte at a place that is not behind the end. -/
theorem test_app (q : UInt8 → Bool) (h0 : q 0 = false) (h1 : q c = false) {r : List UInt8} {i : Nat} (h : i ≤ r.length) : q (bAt (r ++ c :: u) i) = q (bAt r i) := by
  rcases Nat.lt_or_ge i r.length with h2 | h2
  · rw [bAt_app h2]
  · obtain rfl : i = r.length := by omega
    rw [bAt_len, bAt_ge (Nat.le_refl _), h0, h1]
theorem rEnd_app (q : UInt8 → Bool) (h0 : q 0 = false) (h1 : q c = false) {r : List UInt8} {i : Nat} (h : i ≤ r.length) : rEnd q (r ++ c :: u) i = rEnd q r i := by
  induction hn : r.length - i generalizing i with
  | zero =>
    rw [rEnd_stop, rEnd_stop]
    · rw [bAt_ge (by omega)]; exact h0
    · rw [test_app u q h0 h1 h, bAt_ge (by omega)]; exact h0
  | succ n ih =>
    cases hq : q (bAt r i)
    · rw [rEnd_stop hq, rEnd_stop (by rw [test_app u q h0 h1 h]; exact hq)]
    · rw [rEnd_step h0 hq, rEnd_step h0 (by rw [test_app u q h0 h1 h]; exact hq)]
      exact ih (by omega) (by omega)
include hc
theorem dig_app {r : List UInt8} {i : Nat} (h : i ≤ r.length) : isD (bAt (r ++ c :: u) i) = isD (bAt r i) := test_app u isD rfl hc.d h
omit hc in
theorem byte_app (k : Nat) (hk : 0 < k) (h1 : (c.toNat == k) = false) {r : List UInt8} {i : Nat} (h : i ≤ r.length) : ((bAt (r ++ c :: u) i).toNat == k) = ((bAt r i).toNat == k) :=
  test_app u (fun b => b.toNat == k) (by simp; omega) h1 h
omit hc in
theorem lt_of_byte' {r : List UInt8} {i k : Nat} (hk : 0 < k) (h : ((bAt r i).toNat == k) = true) : i < r.length := by
  rcases Nat.lt_or_ge i r.length with h1 | h1
  · exact h1
  · rw [bAt_ge h1] at h; simp at h; omega
theorem fracE_app {r : List UInt8} {n : Nat} (h : n ≤ r.length) : fracE (r ++ c :: u) n = fracE r n := by
  unfold fracE
  rw [byte_app u 46 (by omega) hc.dot h]
  cases hd : (bAt r n).toNat == 46
  · rfl
  · have hn := lt_of_byte' (by omega) hd
    rw [dig_app hc u (by omega), rEnd_app u isD rfl hc.d (by omega)]
theorem signE_app {r : List UInt8} {n : Nat} (h : n ≤ r.length) : signE (r ++ c :: u) n = signE r n := by
  unfold signE
  rw [byte_app u 43 (by omega) hc.p h, byte_app u 45 (by omega) hc.m h]
omit hc in
theorem signE_len {r : List UInt8} {n : Nat} (h : n ≤ r.length) : signE r n ≤ r.length := by
  unfold signE
  split
  · rename_i h1
    have : n < r.length := by
      cases h2 : (bAt r n).toNat == 43
      · rw [h2] at h1
        exact lt_of_byte' (k := 45) (by omega) (by simpa using h1)
      · exact lt_of_byte' (by omega) h2
    omega
  · exact h
theorem expoE_app {r : List UInt8} {n : Nat} (h : n ≤ r.length) : expoE (r ++ c :: u) n = expoE r n := by
  unfold expoE
  rw [byte_app u 101 (by omega) hc.e h]
  cases he : (bAt r n).toNat == 101
  · rfl
  · have hn := lt_of_byte' (by omega) he
    rw [signE_app hc u (by omega), dig_app hc u (signE_len (by omega))]
theorem endE_app {r : List UInt8} {n : Nat} (h : n ≤ r.length) : endE (r ++ c :: u) n = endE r n := by
  unfold endE
  rw [test_app u isL rfl hc.l h, byte_app u 46 (by omega) hc.dot h]
theorem tailE_app {r : List UInt8} {n : Nat} (h : n ≤ r.length) : tailE (r ++ c :: u) n = tailE r n := by
  unfold tailE
  rw [expoE_app hc u h, rEnd_app u isD rfl hc.d (expoE_le r n), endE_app hc u h, endE_app hc u (rEnd_le _ _ _ (expoE_le r n))]
theorem numL_app (r : List UInt8) : numL (r ++ c :: u) = numL r := by
  unfold numL
  have h1 := rEnd_le isD r 0 (Nat.zero_le _)
  rw [rEnd_app u isD rfl hc.d (Nat.zero_le _), fracE_app hc u h1, tailE_app hc u (fracE_le _ _ h1)]
theorem nameL_app {r : List UInt8} (h : r ≠ []) : nameL (r ++ c :: u) = nameL r := by
  have hl : 0 < r.length := by cases r with | nil => exact absurd rfl h | cons a r => simp
  unfold nameL
  rw [bAt_app hl, rEnd_app u isLD rfl hc.ld (by omega)]
omit hc in
theorem pre_app {s : List UInt8} (hs : c ∉ s) (r : List UInt8) : Go.Lib.hasPrefix (r ++ c :: u) s = Go.Lib.hasPrefix r s := by
  induction s generalizing r with
  | nil => simp [Go.Lib.hasPrefix]
  | cons a s ih =>
    have ha : a ≠ c := fun e => hs (by rw [e]; simp)
    have hs2 : c ∉ s := fun e => hs (by simp [e])
    cases r with
    | nil =>
      show (a == c && _) = false
      rw [beq_eq_false_iff_ne.2 ha]; rfl
    | cons b r =>
      have := ih hs2 r
      simp only [Go.Lib.hasPrefix] at this
      show (a == b && s.isPrefixOf (r ++ c :: u)) = (a == b && s.isPrefixOf r)
      rw [this]
theorem signL_app (r : List UInt8) : signL (r ++ c :: u) = signL r := by
  have key : ∀ ss : List (List UInt8), (∀ s ∈ ss, c ∉ s) → sgn ss (r ++ c :: u) = sgn ss r := by
    intro ss
    induction ss with
    | nil => intro _; rfl
    | cons s ss ih =>
      intro h
      have hh := ih (fun s hs => h s (by simp [hs]))
      unfold sgn
      rw [pre_app u (h s (by simp)) r, hh]
  exact key sgs hc.sg
/-- What stands behind such a byte is not looked at. -/
theorem tok_app {r : List UInt8} (h : r ≠ []) : tok (r ++ c :: u) = tok r := by
  unfold tok
  rw [nameL_app hc u h, numL_app hc u r, signL_app hc u r]
end

/-- Without blanks and comments, a line feed between. -/
theorem trm_app (c : Bool) (l u : List UInt8) : trm c (l ++ 10 :: u) = if (trm c l).isEmpty then trm false u else trm c l ++ 10 :: u := by
  induction l generalizing c with
  | nil => cases c <;> rfl
  | cons b r ih =>
    cases c
    · by_cases hb : isB b = true
      · rw [List.cons_append, trm_blank hb, trm_blank hb, ih false]
      · by_cases h2 : b.toNat = 47 ∧ (bAt r 0).toNat = 47
        · have hr : 0 < r.length := lt_of_byte' (k := 47) (by omega) (by simpa using h2.2)
          have e1 : trm false (b :: r) = trm true r := by
            conv => lhs; unfold trm
            rw [if_neg hb, if_pos h2]
          have e2 : trm false (b :: (r ++ 10 :: u)) = trm true (r ++ 10 :: u) := by
            conv => lhs; unfold trm
            rw [if_neg hb, if_pos (by rw [bAt_app hr]; exact h2)]
          rw [List.cons_append, e1, e2, ih true]
        · have e1 : trm false (b :: r) = b :: r := by
            conv => lhs; unfold trm
            rw [if_neg hb, if_neg h2]
          have e2 : trm false (b :: (r ++ 10 :: u)) = b :: (r ++ 10 :: u) := by
            conv => lhs; unfold trm
            rw [if_neg hb, if_neg]
            rintro ⟨h3, h4⟩
            refine h2 ⟨h3, ?_⟩
            have h5 := byte_app (c := 10) u 47 (by omega) rfl (r := r) (i := 0) (Nat.zero_le _)
            have : ((bAt r 0).toNat == 47) = true := by rw [← h5]; simpa using h4
            simpa using this
          rw [List.cons_append, e1, e2]
          rfl
    · by_cases hb : b.toNat = 10
      · have e : ∀ x, trm true (b :: x) = trm false x := fun x => by
          conv => lhs; unfold trm
          rw [if_pos hb]
        rw [List.cons_append, e, e, ih false]
      · have e : ∀ x, trm true (b :: x) = trm true x := fun x => by
          conv => lhs; unfold trm
          rw [if_neg hb]
        rw [List.cons_append, e, e, ih true]

theorem nxt_app {r : List UInt8} (u : List UInt8) (h : r ≠ []) : nxt (r ++ 10 :: u) = if (nxt r).isEmpty then trm false u else nxt r ++ 10 :: u := by
  unfold nxt
  rw [tok_app ends_nl u h, List.drop_append_of_le_length (tok_le r), trm_app]
theorem st_app (s u : List UInt8) (k : Nat) (h : ∀ j, j ≤ k → st s j ≠ []) : st (s ++ 10 :: u) k = st s k ++ 10 :: u := by
  induction k with
  | zero =>
    show trm false _ = trm false s ++ _
    rw [trm_app, if_neg]
    have : trm false s ≠ [] := h 0 (Nat.le_refl _)
    simpa using this
  | succ k ih =>
    show nxt (st _ k) = nxt (st s k) ++ _
    rw [ih (fun j hj => h j (by omega)), nxt_app u (h k (by omega)), if_neg]
    have : nxt (st s k) ≠ [] := h (k + 1) (Nat.le_refl _)
    simpa using this
theorem st_ne {s : List UInt8} {k : Nat} (h : k < tkN s) : st s k ≠ [] := (live_iff.1 (live_lt h)).1
theorem live_app {r : List UInt8} (u : List UInt8) (h : r ≠ []) : live (r ++ 10 :: u) = live r := by
  unfold live
  rw [tok_app ends_nl u h]
  cases r with
  | nil => exact absurd rfl h
  | cons b r => rfl
theorem tk_app {s : List UInt8} (u : List UInt8) {k : Nat} (h : ∀ j, j ≤ k → st s j ≠ []) : tk (s ++ 10 :: u) k = tk s k := by
  have h1 := st_app s u k h
  have h2 := h k (Nat.le_refl _)
  unfold tk
  rw [h1, tok_app ends_nl u h2, List.take_append_of_le_length (tok_le _), List.length_append, List.length_append]
  congr 1
  omega

/-- Behind a fault nothing is told. -/
theorem join_bad {s : List UInt8} (u : List UInt8) (h : bad s = true) : tkN (s ++ 10 :: u) = tkN s ∧ bad (s ++ 10 :: u) = true ∧ ∀ k, k ≤ tkN s → tk (s ++ 10 :: u) k = tk s k := by
  have hb := bad_tok h
  have hne : ∀ j, j ≤ tkN s → st s j ≠ [] := fun j hj => by
    rcases Nat.lt_or_ge j (tkN s) with h1 | h1
    · exact st_ne h1
    · obtain rfl : j = tkN s := by omega
      exact hb.1
  have hN : tkN (s ++ 10 :: u) = tkN s := by
    refine tkN_uniq (fun k hk => ?_) ?_
    · rw [st_app s u k (fun j hj => hne j (by omega)), live_app u (hne k (by omega))]; exact live_lt hk
    · rw [st_app s u _ hne, live_app u hb.1]; exact dead_N s
  refine ⟨hN, ?_, fun k hk => tk_app u (fun j hj => hne j (by omega))⟩
  unfold bad
  rw [hN, st_app s u _ hne]
  cases st s (tkN s) <;> rfl

/-- The place of a token, moved. -/
def Tk.moved (t : Tk) (d : Nat) : Tk := ⟨t.kind, t.text, t.spot + d⟩
theorem st_behind {s : List UInt8} (u : List UInt8) (h : bad s = false) (j : Nat) : st (s ++ 10 :: u) (tkN s + j) = st u j := by
  have hend := good_end h
  induction j with
  | zero =>
    rw [Nat.add_zero]
    rcases Nat.eq_zero_or_pos (tkN s) with h0 | h0
    · rw [h0] at hend ⊢
      show trm false _ = trm false u
      rw [trm_app, if_pos]
      have : trm false s = [] := hend
      rw [this]; rfl
    · obtain ⟨m, hm⟩ : ∃ m, tkN s = m + 1 := ⟨tkN s - 1, by omega⟩
      rw [hm] at hend ⊢
      show nxt (st _ m) = trm false u
      rw [st_app s u m (fun j hj => st_ne (by omega)), nxt_app u (st_ne (by omega)), if_pos]
      have : nxt (st s m) = [] := hend
      rw [this]; rfl
  | succ j ih =>
    show nxt (st _ (tkN s + j)) = nxt (st u j)
    rw [ih]
theorem join_good {s : List UInt8} (u : List UInt8) (h : bad s = false) :
    tkN (s ++ 10 :: u) = tkN s + tkN u ∧ bad (s ++ 10 :: u) = bad u ∧ (∀ k, k < tkN s → tk (s ++ 10 :: u) k = tk s k) ∧ ∀ j, j ≤ tkN u → tk (s ++ 10 :: u) (tkN s + j) = (tk u j).moved (s.length + 1) := by
  have hN : tkN (s ++ 10 :: u) = tkN s + tkN u := by
    refine tkN_uniq (fun k hk => ?_) ?_
    · rcases Nat.lt_or_ge k (tkN s) with h1 | h1
      · rw [st_app s u k (fun j hj => st_ne (by omega)), live_app u (st_ne h1)]; exact live_lt h1
      · obtain ⟨j, rfl⟩ : ∃ j, k = tkN s + j := ⟨k - tkN s, by omega⟩
        rw [st_behind u h]; exact live_lt (by omega)
    · rw [st_behind u h]; exact dead_N u
  refine ⟨hN, ?_, fun k hk => tk_app u (fun j hj => st_ne (by omega)), fun j hj => ?_⟩
  · unfold bad
    rw [hN, st_behind u h]
  · have hl := st_len u j hj
    unfold tk Tk.moved
    rw [st_behind u h, List.length_append, List.length_cons]
    congr 1
    show s.length + (u.length + 1) - (st u j).length = u.length - (st u j).length + (s.length + 1)
    omega
/-- A remark at the end. -/
theorem join_remark (t : List UInt8) : tkN (t ++ [10, 47, 47, 32, 120]) = tkN t ∧ bad (t ++ [10, 47, 47, 32, 120]) = bad t ∧ ∀ k, (k < tkN t ∨ (k = tkN t ∧ bad t = true)) → tk (t ++ [10, 47, 47, 32, 120]) k = tk t k := by
  have h0 : tkN [47, 47, 32, 120] = 0 := by decide +kernel
  have h1 : bad [47, 47, 32, 120] = false := by decide +kernel
  cases hb : bad t
  · obtain ⟨e1, e2, e3, _⟩ := join_good (s := t) [47, 47, 32, 120] hb
    refine ⟨by rw [e1, h0]; rfl, by rw [e2, h1], fun k hk => ?_⟩
    rcases hk with hk | ⟨_, hk⟩
    · exact e3 k hk
    · cases hk
  · obtain ⟨e1, e2, e3⟩ := join_bad (s := t) [47, 47, 32, 120] hb
    exact ⟨e1, e2, fun k hk => e3 k (by rcases hk with h | ⟨h, _⟩ <;> omega)⟩
end Go.Proofs.YtomcpgogiglpkaaDoor
