/-
  PLAIN MATHEMATICS OF LAYER 11 (no Go, no program): what stands at the beginning of bytes: blanks and comments, a name, a number, a sign.
-/
import Derived.Test.YtomcpgogiglpkaaDoorNotchMath
import Derived.Lib.Strings
import Derived.Lib.Bytealg
namespace Go.Proofs.YtomcpgogiglpkaaDoor
open Go

/-- The byte at a place: 0 behind the end. -/
def bAt (l : List UInt8) (i : Nat) : UInt8 := l.getD i 0
def isB (b : UInt8) : Bool := b.toNat == 32 || b.toNat == 9 || b.toNat == 10 || b.toNat == 13
def isD (b : UInt8) : Bool := decide (48 ≤ b.toNat) && decide (b.toNat ≤ 57)
def isL (b : UInt8) : Bool := (decide (97 ≤ b.toNat) && decide (b.toNat ≤ 122)) || (decide (65 ≤ b.toNat) && decide (b.toNat ≤ 90)) || b.toNat == 95
def isLD (b : UInt8) : Bool := isL b || isD b

/-- Without the blanks and comments that bytes begin with; in a comment, or not. -/
def trm : Bool → List UInt8 → List UInt8
  | _, [] => []
  | true, b :: r => if b.toNat = 10 then trm false r else trm true r
  | false, b :: r => if isB b then trm false r else if b.toNat = 47 ∧ (bAt r 0).toNat = 47 then trm true r else b :: r

/-- Where a row of bytes of one sort ends that begins at a place. -/
def rEnd (p : UInt8 → Bool) (l : List UInt8) (i : Nat) : Nat := i + ((l.drop i).takeWhile p).length

theorem bAt_lt {l : List UInt8} {i : Nat} (h : i < l.length) : bAt l i = l[i] := by
  unfold bAt; rw [List.getD_eq_getElem?_getD, List.getElem?_eq_getElem h]; rfl
theorem bAt_ge {l : List UInt8} {i : Nat} (h : l.length ≤ i) : bAt l i = 0 := by
  unfold bAt; rw [List.getD_eq_getElem?_getD, List.getElem?_eq_none h]; rfl
theorem bAt_drop (l : List UInt8) (k i : Nat) : bAt (l.drop k) i = bAt l (k + i) := by
  unfold bAt; rw [List.getD_eq_getElem?_getD, List.getD_eq_getElem?_getD, List.getElem?_drop]
theorem bAt_cons (b : UInt8) (l : List UInt8) (i : Nat) : bAt (b :: l) (i + 1) = bAt l i := rfl
theorem drop_at {l : List UInt8} {i : Nat} (h : i < l.length) : l.drop i = bAt l i :: l.drop (i + 1) := by
  rw [bAt_lt h, List.drop_eq_getElem_cons h]

theorem rEnd_step {p : UInt8 → Bool} {l : List UInt8} {i : Nat} (h0 : p 0 = false) (h : p (bAt l i) = true) : rEnd p l i = rEnd p l (i + 1) := by
  have hi : i < l.length := by
    rcases Nat.lt_or_ge i l.length with h1 | h1
    · exact h1
    · rw [bAt_ge h1, h0] at h; cases h
  unfold rEnd
  rw [drop_at hi, List.takeWhile_cons, h]
  simp; omega
theorem rEnd_stop {p : UInt8 → Bool} {l : List UInt8} {i : Nat} (h : p (bAt l i) = false) : rEnd p l i = i := by
  unfold rEnd
  rcases Nat.lt_or_ge i l.length with h1 | h1
  · rw [drop_at h1, List.takeWhile_cons, h]; simp
  · rw [List.drop_eq_nil_of_le h1]; simp
theorem rEnd_ge (p : UInt8 → Bool) (l : List UInt8) (i : Nat) : i ≤ rEnd p l i := by unfold rEnd; omega
theorem takeWhile_le (p : UInt8 → Bool) (l : List UInt8) : (l.takeWhile p).length ≤ l.length := by
  induction l with
  | nil => simp
  | cons a l ih => rw [List.takeWhile_cons]; split <;> simp <;> omega
theorem rEnd_le (p : UInt8 → Bool) (l : List UInt8) (i : Nat) (h : i ≤ l.length) : rEnd p l i ≤ l.length := by
  have := takeWhile_le p (l.drop i)
  rw [List.length_drop] at this
  unfold rEnd; omega
theorem lt_of_holds {p : UInt8 → Bool} {l : List UInt8} {i : Nat} (h0 : p 0 = false) (h : p (bAt l i) = true) : i < l.length := by
  rcases Nat.lt_or_ge i l.length with h1 | h1
  · exact h1
  · rw [bAt_ge h1, h0] at h; cases h
theorem isD_zero : isD 0 = false := rfl
theorem isL_zero : isL 0 = false := rfl
theorem isLD_zero : isLD 0 = false := rfl
theorem isB_zero : isB 0 = false := rfl

/-- A name's length: 0 where there is none. -/
def nameL (l : List UInt8) : Nat := if isL (bAt l 0) && !(bAt l 0).toNat == 95 then rEnd isLD l 1 else 0
/-- Behind a number's fraction. -/
def fracE (l : List UInt8) (n : Nat) : Nat := if (bAt l n).toNat == 46 && isD (bAt l (n + 1)) then rEnd isD l (n + 1) else n
/-- Behind an exponent's sign, if there is one. -/
def signE (l : List UInt8) (n : Nat) : Nat := if (bAt l n).toNat == 43 || (bAt l n).toNat == 45 then n + 1 else n
/-- Where an exponent's digits are: 0 if there is none. -/
def expoE (l : List UInt8) (n : Nat) : Nat := if (bAt l n).toNat == 101 && isD (bAt l (signE l (n + 1))) then signE l (n + 1) else 0
/-- A number's length, if that may be its end. -/
def endE (l : List UInt8) (n : Nat) : Nat := if isL (bAt l n) || (bAt l n).toNat == 46 then 0 else n
/-- From behind the fraction on. -/
def tailE (l : List UInt8) (n : Nat) : Nat :=
  if 0 < expoE l n then (if 4 < rEnd isD l (expoE l n) - expoE l n then 0 else endE l (rEnd isD l (expoE l n))) else endE l n
/-- A number's length: 0 where there is none, or that is at fault. -/
def numL (l : List UInt8) : Nat := if rEnd isD l 0 = 0 then 0 else tailE l (fracE l (rEnd isD l 0))

/-- The signs, in the order in which they are looked for. -/
def sgs : List (List UInt8) := [[61, 61], [33, 61], [60, 61], [62, 61], [43, 61], [123], [125], [91], [93], [40], [41], [60], [62], [61], [43], [45], [42], [47], [126], [44], [59], [58]]
def sgn : List (List UInt8) → List UInt8 → Nat
  | [], _ => 0
  | s :: r, l => if Go.Lib.hasPrefix l s then s.length else sgn r l
def signL (l : List UInt8) : Nat := sgn sgs l

/-- The kind, and the length, of the token that bytes begin with; 0: none. -/
def tok (l : List UInt8) : Nat × Nat :=
  if 0 < nameL l then (1, nameL l) else if 0 < numL l then (2, numL l) else if 0 < signL l then (3, signL l) else (0, 0)

/-- What is left behind a token. -/
def nxt (r : List UInt8) : List UInt8 := trm false (r.drop (tok r).2)
/-- Is there a token? -/
def live (r : List UInt8) : Bool := !r.isEmpty && !(tok r).1 == 0
/-- What is left ahead of the k-th token. -/
def st (l : List UInt8) : Nat → List UInt8
  | 0 => trm false l
  | k + 1 => nxt (st l k)
def cnt : Nat → List UInt8 → Nat
  | 0, _ => 0
  | f + 1, r => if live r then cnt f (nxt r) + 1 else 0
/-- How many tokens there are ahead of the first fault, or of the end. -/
def tkN (l : List UInt8) : Nat := cnt l.length (trm false l)
/-- Is there a fault? -/
def bad (l : List UInt8) : Bool := !(st l (tkN l)).isEmpty

theorem trm_len (c : Bool) (l : List UInt8) : (trm c l).length ≤ l.length := by
  induction l generalizing c with
  | nil => cases c <;> simp [trm]
  | cons b r ih =>
    have h1 := ih true
    have h2 := ih false
    cases c
    · unfold trm; split
      · simp; omega
      · split
        · simp; omega
        · simp
    · unfold trm; split <;> simp <;> omega

/-- What is behind the next line feed: nothing if there is none. -/
def aft : List UInt8 → List UInt8
  | [] => []
  | b :: r => if b.toNat = 10 then r else aft r
theorem trm_aft (l : List UInt8) : trm true l = trm false (aft l) := by
  induction l with
  | nil => rfl
  | cons b r ih =>
    show (if b.toNat = 10 then trm false r else trm true r) = trm false (if b.toNat = 10 then r else aft r)
    split
    · rfl
    · exact ih
theorem aft_len (l : List UInt8) : (aft l).length ≤ l.length := by
  induction l with
  | nil => simp [aft]
  | cons b r ih => unfold aft; split <;> simp <;> omega
theorem aft_lt {l : List UInt8} (h : 0 < l.length) : (aft l).length < l.length := by
  match l with
  | b :: r =>
    have := aft_len r
    show (if b.toNat = 10 then r else aft r).length < r.length + 1
    split <;> omega
theorem trm_blank {b : UInt8} {r : List UInt8} (h : isB b = true) : trm false (b :: r) = trm false r := by
  conv => lhs; unfold trm
  rw [if_pos h]
theorem trm_drop {l : List UInt8} (h : isB (bAt l 0) = true) : trm false (l.drop 1) = trm false l := by
  match l with
  | [] => rfl
  | b :: r => exact (trm_blank h).symm
theorem trm_slash {l : List UInt8} (h : isB (bAt l 0) = false) (h1 : Go.Lib.hasPrefix l [47, 47] = true) : trm false l = trm false (aft l) := by
  match l with
  | [] => simp [Go.Lib.hasPrefix] at h1
  | [b] => simp [Go.Lib.hasPrefix] at h1
  | b :: c :: r =>
    simp [Go.Lib.hasPrefix] at h1
    obtain ⟨rfl, rfl⟩ := h1
    show trm false (47 :: 47 :: r) = trm false (aft (47 :: 47 :: r))
    rw [← trm_aft]
    rfl
theorem trm_stop {l : List UInt8} (h : isB (bAt l 0) = false) (h1 : Go.Lib.hasPrefix l [47, 47] = false) : trm false l = l := by
  match l with
  | [] => rfl
  | b :: r =>
    have hb : isB b = false := h
    unfold trm
    rw [hb]
    simp only [Bool.false_eq_true, if_false]
    rw [if_neg]
    rintro ⟨h2, h3⟩
    match r with
    | [] => simp [bAt] at h3
    | c :: r =>
      have e1 : b = 47 := UInt8.toNat_inj.1 (by simpa using h2)
      have e2 : c = 47 := UInt8.toNat_inj.1 (by simpa [bAt] using h3)
      subst e1 e2
      simp [Go.Lib.hasPrefix] at h1
theorem aft_index (l : List UInt8) : (Go.Lib.indexByte l 10 = -1 ∧ aft l = []) ∨ ∃ k : Nat, k < l.length ∧ Go.Lib.indexByte l 10 = (k : Int) ∧ aft l = l.drop (k + 1) := by
  induction l with
  | nil => exact .inl ⟨rfl, rfl⟩
  | cons b r ih =>
    unfold Go.Lib.indexByte aft
    by_cases h : b = 10
    · subst h; exact .inr ⟨0, by simp, by simp, by simp⟩
    · have h2 : ¬ b.toNat = 10 := fun e => h (UInt8.toNat_inj.1 (by simpa using e))
      have h3 : (b == 10) = false := by simpa using h
      rw [h3, if_neg h2]
      rcases ih with ⟨e1, e2⟩ | ⟨k, hk, e1, e2⟩
      · exact .inl ⟨by rw [e1]; rfl, e2⟩
      · refine .inr ⟨k + 1, by simpa using hk, ?_, by rw [e2]; simp⟩
        have hne : ((Go.Lib.indexByte r 10) == -1) = false := by rw [e1]; rfl
        rw [hne, e1]
        simp

theorem tok_kind (r : List UInt8) : (tok r).1 ≤ 3 := by unfold tok; split <;> (try split) <;> (try split) <;> simp
theorem tok_none {r : List UInt8} (h : (tok r).1 = 0) : (tok r).2 = 0 := by
  unfold tok at h ⊢; split at h <;> (try split at h) <;> (try split at h) <;> simp_all
theorem tok_some {r : List UInt8} (h : (tok r).1 ≠ 0) : 0 < (tok r).2 := by
  unfold tok at h ⊢; split at h <;> (try split at h) <;> (try split at h) <;> simp_all

theorem nameL_le (l : List UInt8) : nameL l ≤ l.length := by
  unfold nameL
  split
  · rename_i h
    simp only [Bool.and_eq_true] at h
    exact rEnd_le _ _ _ (lt_of_holds isL_zero h.1)
  · omega
theorem fracE_le (l : List UInt8) (n : Nat) (h : n ≤ l.length) : fracE l n ≤ l.length := by
  unfold fracE
  split
  · rename_i h1
    simp only [Bool.and_eq_true] at h1
    exact rEnd_le _ _ _ (Nat.le_of_lt (lt_of_holds isD_zero h1.2))
  · exact h
theorem expoE_le (l : List UInt8) (n : Nat) : expoE l n ≤ l.length := by
  unfold expoE
  split
  · rename_i h1
    simp only [Bool.and_eq_true] at h1
    exact Nat.le_of_lt (lt_of_holds isD_zero h1.2)
  · omega
theorem endE_le (l : List UInt8) (n : Nat) (h : n ≤ l.length) : endE l n ≤ l.length := by unfold endE; split <;> omega
theorem numL_le (l : List UInt8) : numL l ≤ l.length := by
  unfold numL tailE
  split
  · omega
  · have h1 := fracE_le l _ (rEnd_le isD l 0 (Nat.zero_le _))
    split
    · split
      · omega
      · exact endE_le _ _ (rEnd_le _ _ _ (expoE_le _ _))
    · exact endE_le _ _ h1
theorem prefix_le {s l : List UInt8} (h : Go.Lib.hasPrefix l s = true) : s.length ≤ l.length := by
  unfold Go.Lib.hasPrefix at h
  have := List.IsPrefix.length_le (List.isPrefixOf_iff_prefix.1 h)
  exact this
theorem sgn_le (ss : List (List UInt8)) (l : List UInt8) : sgn ss l ≤ l.length := by
  induction ss with
  | nil => simp [sgn]
  | cons s ss ih =>
    unfold sgn; split
    · rename_i h; exact prefix_le h
    · exact ih
theorem tok_le (r : List UInt8) : (tok r).2 ≤ r.length := by
  have h1 := nameL_le r
  have h2 := numL_le r
  have h3 := sgn_le sgs r
  unfold tok signL at *
  split
  · exact h1
  · split
    · exact h2
    · split
      · exact h3
      · simp

theorem live_iff {r : List UInt8} : live r = true ↔ r ≠ [] ∧ (tok r).1 ≠ 0 := by
  unfold live; cases r <;> simp
theorem nxt_len {r : List UInt8} (h : live r = true) : (nxt r).length < r.length := by
  have h1 := live_iff.1 h
  have h2 := tok_some h1.2
  have h3 := tok_le r
  have h4 := trm_len false (r.drop (tok r).2)
  rw [List.length_drop] at h4
  unfold nxt; omega

theorem cnt_live (f : Nat) (r : List UInt8) : ∀ k, k < cnt f r → live (Nat.rec r (fun _ x => nxt x) k) = true := by
  induction f generalizing r with
  | zero => intro k hk; simp [cnt] at hk
  | succ f ih =>
    intro k hk
    unfold cnt at hk
    split at hk
    · rename_i hl
      cases k with
      | zero => exact hl
      | succ k =>
        have h1 := ih (nxt r) k (by omega)
        have e : ∀ k, (Nat.rec r (fun _ x => nxt x) (k + 1) : List UInt8) = Nat.rec (nxt r) (fun _ x => nxt x) k := by
          intro k
          induction k with
          | zero => rfl
          | succ k ih2 => exact congrArg nxt ih2
        rw [e k]; exact h1
    · omega
theorem st_rec (l : List UInt8) (k : Nat) : st l k = Nat.rec (trm false l) (fun _ x => nxt x) k := by
  induction k with
  | zero => rfl
  | succ k ih => show nxt (st l k) = nxt _; rw [ih]
/-- Ahead of the last one, there is a token. -/
theorem live_lt {l : List UInt8} {k : Nat} (h : k < tkN l) : live (st l k) = true := by
  rw [st_rec]; exact cnt_live _ _ k h
theorem cnt_stop (f : Nat) (r : List UInt8) (hf : r.length ≤ f) : live (Nat.rec r (fun _ x => nxt x) (cnt f r)) = false := by
  induction f generalizing r with
  | zero =>
    have : r = [] := List.eq_nil_of_length_eq_zero (by omega)
    subst this; rfl
  | succ f ih =>
    unfold cnt
    split
    · rename_i hl
      have h1 := ih (nxt r) (by have := nxt_len hl; omega)
      have e : ∀ k, (Nat.rec r (fun _ x => nxt x) (k + 1) : List UInt8) = Nat.rec (nxt r) (fun _ x => nxt x) k := by
        intro k
        induction k with
        | zero => rfl
        | succ k ih2 => exact congrArg nxt ih2
      rw [e]; exact h1
    · rename_i hl
      show live r = false
      simpa using hl
/-- Behind the last one, there is none. -/
theorem dead_N (l : List UInt8) : live (st l (tkN l)) = false := by
  rw [st_rec]; exact cnt_stop _ _ (trm_len _ _)
theorem bad_tok {l : List UInt8} (h : bad l = true) : st l (tkN l) ≠ [] ∧ (tok (st l (tkN l))).1 = 0 := by
  have h1 := dead_N l
  unfold bad at h
  unfold live at h1
  generalize st l (tkN l) = r at h h1
  cases r with
  | nil => simp at h
  | cons b r => simp at h1; exact ⟨by simp, h1⟩
theorem good_end {l : List UInt8} (h : bad l = false) : st l (tkN l) = [] := by
  unfold bad at h
  generalize st l (tkN l) = r at h
  cases r with
  | nil => rfl
  | cons b r => simp at h
theorem st_len (l : List UInt8) (k : Nat) (h : k ≤ tkN l) : (st l k).length + k ≤ l.length := by
  induction k with
  | zero => simp [st, trm_len]
  | succ k ih =>
    have h1 := ih (by omega)
    have h2 := nxt_len (live_lt (l := l) (k := k) (by omega))
    show (nxt (st l k)).length + (k + 1) ≤ _
    omega
theorem tkN_le (l : List UInt8) : tkN l ≤ l.length := by have := st_len l (tkN l) (Nat.le_refl _); omega
/-- The count, by what it is. -/
theorem tkN_uniq {l : List UInt8} {n : Nat} (h1 : ∀ k, k < n → live (st l k) = true) (h2 : live (st l n) = false) : tkN l = n := by
  rcases Nat.lt_trichotomy (tkN l) n with h | h | h
  · have := h1 _ h; rw [dead_N] at this; cases this
  · exact h
  · have := live_lt h; rw [h2] at this; cases this

/-- Tokens: the kind, the text, the place. -/
structure Tk where
  kind : Nat
  text : List UInt8
  spot : Nat
deriving DecidableEq
/-- The k-th token. -/
def tk (l : List UInt8) (k : Nat) : Tk := ⟨(tok (st l k)).1, (st l k).take (tok (st l k)).2, l.length - (st l k).length⟩
/-- The first k tokens. -/
def tks (l : List UInt8) (k : Nat) : List Tk := (List.range k).map (tk l)
theorem tks_succ (l : List UInt8) (k : Nat) : tks l (k + 1) = tks l k ++ [tk l k] := by simp [tks, List.range_succ]
theorem tks_length (l : List UInt8) (k : Nat) : (tks l k).length = k := by simp [tks]

/-- A fault: the error's number, the place; 0, 0: none. -/
def flt (l : List UInt8) : Nat × Nat :=
  if 20000 < l.length then (3, 0) else if 6000 < tkN l then (6, (tk l 6000).spot) else if bad l then (110, (tk l (tkN l)).spot) else (0, 0)
/-- The tokens that are told. -/
def told (l : List UInt8) : List Tk := if (flt l).1 = 0 then tks l (tkN l) else []
end Go.Proofs.YtomcpgogiglpkaaDoor
