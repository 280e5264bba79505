/-
  PLAIN MATHEMATICS OF LAYER 2 (no Go, no program): remainders of strings by the prime 2^61 - 1, sealed strings, and what is told of their neighbours.
-/
import Derived.Test.YtemekdoogocapaaDoorNotchMath
namespace Go.Proofs.YtemekdoogocapaaDoor
open Go

/-- The prime. -/
def PR : Nat := 2305843009213693951
theorem PR_eq : PR = 2305843009213693951 := rfl

/-- The remainder, gone on with byte by byte. -/
def cmore (r : Nat) (l : List UInt8) : Nat := l.foldl (fun a b => (256 * a + b.toNat) % PR) (r % PR)
def crest (l : List UInt8) : Nat := cmore 1 l
def cseal (l : List UInt8) : List UInt8 := l ++ digs 8 (crest l)

theorem PR_pos : 0 < PR := by rw [PR_eq]; omega
theorem cmore_nil (r : Nat) : cmore r [] = r % PR := rfl
theorem cmore_snoc (r : Nat) (l : List UInt8) (b : UInt8) : cmore r (l ++ [b]) = (256 * cmore r l + b.toNat) % PR := by simp [cmore]

theorem val_append (a b : List UInt8) : val (a ++ b) = val a * 256 ^ b.length + val b := by
  induction h : b.length generalizing b with
  | zero =>
    have : b = [] := List.eq_nil_of_length_eq_zero h
    subst this; simp [val]
  | succ k ih =>
    obtain ⟨r, c, rfl⟩ := snoc_of h
    have hk : r.length = k := by simpa using h
    rw [← List.append_assoc, val_snoc, val_snoc, ih r hk, Nat.pow_succ, Nat.mul_add]
    rw [← Nat.mul_assoc, ← Nat.mul_assoc, Nat.mul_comm 256 (val a), Nat.mul_assoc (val a) 256, Nat.mul_comm 256 (256 ^ k), ← Nat.mul_assoc]
    omega

theorem cmore_eq (r : Nat) (l : List UInt8) : cmore r l = (r * 256 ^ l.length + val l) % PR := by
  induction h : l.length generalizing l with
  | zero =>
    have : l = [] := List.eq_nil_of_length_eq_zero h
    subst this; simp [cmore, val]
  | succ k ih =>
    obtain ⟨s, c, rfl⟩ := snoc_of h
    have hk : s.length = k := by simpa using h
    rw [cmore_snoc, ih s hk, val_snoc, Nat.pow_succ]
    have e : r * (256 ^ k * 256) + (256 * val s + c.toNat) = 256 * (r * 256 ^ k + val s) + c.toNat := by
      rw [Nat.mul_add, ← Nat.mul_assoc, Nat.mul_comm (r * 256 ^ k) 256]; omega
    rw [e, Nat.add_mod, Nat.mul_mod, Nat.mod_mod, ← Nat.mul_mod, ← Nat.add_mod]

theorem cmore_lt (r : Nat) (l : List UInt8) : cmore r l < PR := by rw [cmore_eq]; exact Nat.mod_lt _ PR_pos
theorem crest_lt (l : List UInt8) : crest l < PR := cmore_lt 1 l
theorem cmore_mod (r : Nat) (l : List UInt8) : cmore (r % PR) l = cmore r l := by unfold cmore; rw [Nat.mod_mod]
theorem cmore_append (r : Nat) (a b : List UInt8) : cmore r (a ++ b) = cmore (cmore r a) b := by
  have h := cmore_lt r a
  have e : cmore r a % PR = cmore r a := Nat.mod_eq_of_lt h
  show (a ++ b).foldl _ _ = b.foldl _ (cmore r a % PR)
  rw [e, List.foldl_append]; rfl

theorem crest_eq (l : List UInt8) : crest l = (256 ^ l.length + val l) % PR := by unfold crest; rw [cmore_eq, Nat.one_mul]

theorem cseal_length (l : List UInt8) : (cseal l).length = l.length + 8 := by simp [cseal, digs_length]
theorem val_eight {n : Nat} (h : n < PR) : val (digs 8 n) = n := by
  rw [val_digs]; refine Nat.mod_eq_of_lt ?_
  rw [PR_eq] at h; omega
theorem val_cseal (l : List UInt8) : val (cseal l) = val l * 2 ^ 64 + crest l := by
  unfold cseal
  rw [val_append, digs_length, val_eight (crest_lt l)]

/-- Is it sealed, and what is within? -/
def copen (t : List UInt8) : List UInt8 × Bool := if 8 ≤ t.length ∧ cseal (t.take (t.length - 8)) = t then (t.take (t.length - 8), true) else ([], false)
theorem copen_seal (l : List UInt8) : copen (cseal l) = (l, true) := by
  have e : (cseal l).take ((cseal l).length - 8) = l := by
    rw [cseal_length, Nat.add_sub_cancel]; unfold cseal; rw [List.take_left' rfl]
  unfold copen
  rw [e, if_pos ⟨by rw [cseal_length]; omega, rfl⟩]
theorem copen_not {t : List UInt8} (h : ∀ u, t ≠ cseal u) : copen t = ([], false) := by
  unfold copen
  rw [if_neg]
  rintro ⟨_, e⟩
  exact h _ e.symm

/-! ### Neighbours -/
theorem two61 : 2 ^ 61 = PR + 1 := by rw [PR_eq]
theorem pow_mod_PR (k : Nat) : 2 ^ k % PR = 2 ^ (k % 61) := by
  have h1 : ∀ m, 2 ^ (61 * m) % PR = 1 := by
    intro m
    induction m with
    | zero => rw [PR_eq]
    | succ m ih =>
      rw [Nat.mul_add, Nat.pow_add, Nat.mul_one, Nat.mul_mod, ih, two61]
      rw [PR_eq]
  have h2 : 2 ^ k = 2 ^ (61 * (k / 61)) * 2 ^ (k % 61) := by rw [← Nat.pow_add, Nat.div_add_mod]
  have h3 : 2 ^ (k % 61) < PR := by
    have : 2 ^ (k % 61) ≤ 2 ^ 60 := Nat.pow_le_pow_right (by omega) (by omega)
    rw [PR_eq]; omega
  rw [h2, Nat.mul_mod, h1, Nat.one_mul, Nat.mod_mod, Nat.mod_eq_of_lt h3]

/-- A number below the prime, shifted, is no multiple of it. -/
theorem shift_free {d k : Nat} (h : d * 2 ^ k % PR = 0) (hd : d < PR) : d = 0 := by
  have h1 : d * 2 ^ (k + (61 - k % 61)) % PR = 0 := by rw [Nat.pow_add, ← Nat.mul_assoc, Nat.mul_mod, h]; simp
  have h2 : (k + (61 - k % 61)) % 61 = 0 := by omega
  rw [Nat.mul_mod, pow_mod_PR, h2] at h1
  rw [Nat.pow_zero, Nat.mul_one, Nat.mod_mod, Nat.mod_eq_of_lt hd] at h1
  exact h1

theorem pow256 (k : Nat) : 256 ^ k = 2 ^ (8 * k) := by rw [Nat.pow_mul]

theorem seven_lt {m : List UInt8} (h : m.length = 7) : val m < 72057594037927936 := by
  have := val_lt m
  rw [h] at this; exact this

/-- Two numbers that agree by the prime, and are shifted and moved by less than it. -/
theorem same_shift {a x y k c : Nat} (hx : x < PR) (hy : y < PR) (h : (a + x * 2 ^ k + c) % PR = (a + y * 2 ^ k + c) % PR) : x = y := by
  rcases Nat.le_total x y with hle | hle
  · have h1 : (y - x) * 2 ^ k % PR = 0 := by
      have e : a + y * 2 ^ k + c = (a + x * 2 ^ k + c) + (y - x) * 2 ^ k := by
        have : x * 2 ^ k + (y - x) * 2 ^ k = y * 2 ^ k := by rw [← Nat.add_mul]; congr 1; omega
        omega
      rw [e] at h
      have := Nat.sub_mod_eq_zero_of_mod_eq h.symm
      rwa [Nat.add_sub_cancel_left] at this
    have := shift_free h1 (by omega)
    omega
  · have h1 : (x - y) * 2 ^ k % PR = 0 := by
      have e : a + x * 2 ^ k + c = (a + y * 2 ^ k + c) + (x - y) * 2 ^ k := by
        have : y * 2 ^ k + (x - y) * 2 ^ k = x * 2 ^ k := by rw [← Nat.add_mul]; congr 1; omega
        omega
      rw [e] at h
      have := Nat.sub_mod_eq_zero_of_mod_eq h
      rwa [Nat.add_sub_cancel_left] at this
    have := shift_free h1 (by omega)
    omega

theorem near0 (e g D k : Int) (h1 : e * 18446744073709551616 + g = D * 1) (h2 : e = g + 2305843009213693951 * k) (hg : -2305843009213693951 < g) (hg2 : g < 2305843009213693951) (hD : -72057594037927936 < D) (hD2 : D < 72057594037927936) : D = 0 := by
  have he : e = 0 := by omega
  subst he
  have hk : k = -1 ∨ k = 0 ∨ k = 1 := by omega
  rcases hk with rfl | rfl | rfl <;> omega
theorem near1 (e g D k : Int) (h1 : e * 18446744073709551616 + g = D * 256) (h2 : e = g + 2305843009213693951 * k) (hg : -2305843009213693951 < g) (hg2 : g < 2305843009213693951) (hD : -72057594037927936 < D) (hD2 : D < 72057594037927936) : D = 0 := by
  have he : e = -1 ∨ e = 0 ∨ e = 1 := by omega
  have hk : k = -1 ∨ k = 0 ∨ k = 1 := by omega
  rcases he with rfl | rfl | rfl <;> rcases hk with rfl | rfl | rfl <;> omega
theorem near2 (e g D k : Int) (h1 : e * 18446744073709551616 + g = D * 65536) (h2 : e = g + 2305843009213693951 * k) (hg : -2305843009213693951 < g) (hg2 : g < 2305843009213693951) (hD : -72057594037927936 < D) (hD2 : D < 72057594037927936) : D = 0 := by
  obtain ⟨h, rfl⟩ : ∃ h, g = h * 65536 := ⟨g / 65536, by omega⟩
  have h3 : D = e * 281474976710656 + h := by omega
  subst h3
  have hk : k = -1 ∨ k = 0 ∨ k = 1 := by omega
  rcases hk with rfl | rfl | rfl <;> omega
theorem near3 (e g D k : Int) (h1 : e * 18446744073709551616 + g = D * 16777216) (h2 : e = g + 2305843009213693951 * k) (hg : -2305843009213693951 < g) (hg2 : g < 2305843009213693951) (hD : -72057594037927936 < D) (hD2 : D < 72057594037927936) : D = 0 := by
  obtain ⟨h, rfl⟩ : ∃ h, g = h * 16777216 := ⟨g / 16777216, by omega⟩
  have h3 : D = e * 1099511627776 + h := by omega
  subst h3
  have hk : k = -1 ∨ k = 0 ∨ k = 1 := by omega
  rcases hk with rfl | rfl | rfl <;> omega
theorem near4 (e g D k : Int) (h1 : e * 18446744073709551616 + g = D * 4294967296) (h2 : e = g + 2305843009213693951 * k) (hg : -2305843009213693951 < g) (hg2 : g < 2305843009213693951) (hD : -72057594037927936 < D) (hD2 : D < 72057594037927936) : D = 0 := by
  obtain ⟨h, rfl⟩ : ∃ h, g = h * 4294967296 := ⟨g / 4294967296, by omega⟩
  have h3 : D = e * 4294967296 + h := by omega
  subst h3
  have hk : k = -1 ∨ k = 0 ∨ k = 1 := by omega
  rcases hk with rfl | rfl | rfl <;> omega
theorem near5 (e g D k : Int) (h1 : e * 18446744073709551616 + g = D * 1099511627776) (h2 : e = g + 2305843009213693951 * k) (hg : -2305843009213693951 < g) (hg2 : g < 2305843009213693951) (hD : -72057594037927936 < D) (hD2 : D < 72057594037927936) : D = 0 := by
  obtain ⟨h, rfl⟩ : ∃ h, g = h * 1099511627776 := ⟨g / 1099511627776, by omega⟩
  have h3 : D = e * 16777216 + h := by omega
  subst h3
  have hk : k = -1 ∨ k = 0 ∨ k = 1 := by omega
  rcases hk with rfl | rfl | rfl <;> omega
theorem near6 (e g D k : Int) (h1 : e * 18446744073709551616 + g = D * 281474976710656) (h2 : e = g + 2305843009213693951 * k) (hg : -2305843009213693951 < g) (hg2 : g < 2305843009213693951) (hD : -72057594037927936 < D) (hD2 : D < 72057594037927936) : D = 0 := by
  obtain ⟨h, rfl⟩ : ∃ h, g = h * 281474976710656 := ⟨g / 281474976710656, by omega⟩
  have h3 : D = e * 65536 + h := by omega
  subst h3
  have hk : k = -1 ∨ k = 0 ∨ k = 1 := by omega
  rcases hk with rfl | rfl | rfl <;> omega
theorem near7 (e g D k : Int) (h1 : e * 18446744073709551616 + g = D * 72057594037927936) (h2 : e = g + 2305843009213693951 * k) (hg : -2305843009213693951 < g) (hg2 : g < 2305843009213693951) (hD : -72057594037927936 < D) (hD2 : D < 72057594037927936) : D = 0 := by
  obtain ⟨h, rfl⟩ : ∃ h, g = h * 72057594037927936 := ⟨g / 72057594037927936, by omega⟩
  have h3 : D = e * 256 + h := by omega
  subst h3
  have hk : k = -1 ∨ k = 0 ∨ k = 1 := by omega
  rcases hk with rfl | rfl | rfl <;> omega

theorem near_free {j : Nat} (hj : j ≤ 7) (e g D k : Int) (h1 : e * 18446744073709551616 + g = D * ((256 ^ j : Nat) : Int)) (h2 : e = g + 2305843009213693951 * k) (hg : -2305843009213693951 < g) (hg2 : g < 2305843009213693951) (hD : -72057594037927936 < D) (hD2 : D < 72057594037927936) : D = 0 := by
  have hj8 : j = 0 ∨ j = 1 ∨ j = 2 ∨ j = 3 ∨ j = 4 ∨ j = 5 ∨ j = 6 ∨ j = 7 := by omega
  rcases hj8 with rfl | rfl | rfl | rfl | rfl | rfl | rfl | rfl
  · exact near0 e g D k h1 h2 hg hg2 hD hD2
  · exact near1 e g D k h1 h2 hg hg2 hD hD2
  · exact near2 e g D k h1 h2 hg hg2 hD hD2
  · exact near3 e g D k h1 h2 hg hg2 hD hD2
  · exact near4 e g D k h1 h2 hg hg2 hD hD2
  · exact near5 e g D k h1 h2 hg hg2 hD hD2
  · exact near6 e g D k h1 h2 hg hg2 hD hD2
  · exact near7 e g D k h1 h2 hg hg2 hD hD2

theorem val_inj {a b : List UInt8} (hl : a.length = b.length) (h : val a = val b) : a = b := by
  rw [← digs_val a.length a rfl, ← digs_val b.length b rfl, h, hl]

/-- Of what is sealed, seven bytes beside each other turned: it is not sealed. -/
theorem cast_near {s u p m m' q : List UInt8} (h7 : m.length = 7) (h7' : m'.length = 7) (hne : m ≠ m') (h : cseal s = p ++ (m ++ q)) : p ++ (m' ++ q) ≠ cseal u := by
  intro h'
  have hls : s.length + 8 = p.length + (7 + q.length) := by have := congrArg List.length h; simpa [cseal_length, h7] using this
  have hlu : p.length + (7 + q.length) = u.length + 8 := by have := congrArg List.length h'; simpa [cseal_length, h7'] using this
  have hR := crest_lt s
  have hR' := crest_lt u
  have hM := seven_lt h7
  have hM' := seven_lt h7'
  have es := crest_eq s
  have eu := crest_eq u
  have hlen : s.length = u.length := by omega
  by_cases hq : 8 ≤ q.length
  · obtain ⟨q0, q8, rfl, hq8⟩ : ∃ a b, q = a ++ b ∧ b.length = 8 := ⟨q.take (q.length - 8), q.drop (q.length - 8), by simp, by simp; omega⟩
    have k1 : s ++ digs 8 (crest s) = (p ++ (m ++ q0)) ++ q8 := by simpa [cseal] using h
    have k2 : u ++ digs 8 (crest u) = (p ++ (m' ++ q0)) ++ q8 := by simpa [cseal] using h'.symm
    obtain ⟨a1, a2⟩ := List.append_inj' k1 (by rw [digs_length, hq8])
    obtain ⟨b1, b2⟩ := List.append_inj' k2 (by rw [digs_length, hq8])
    have hRR : crest s = crest u := by rw [← val_eight hR, ← val_eight hR', a2, b2]
    rw [es, eu, a1, b1, val_append, val_append, val_append, val_append] at hRR
    have hx : val m < PR := by rw [PR_eq]; omega
    have hy : val m' < PR := by rw [PR_eq]; omega
    have hll : (m ++ q0).length = (m' ++ q0).length := by simp [h7, h7']
    have hl2 : (p ++ (m ++ q0)).length = (p ++ (m' ++ q0)).length := by simp [h7, h7']
    rw [hll, hl2, pow256 q0.length] at hRR
    have hv : val m = val m' := by
      refine same_shift (a := 256 ^ (p ++ (m' ++ q0)).length + val p * 256 ^ (m' ++ q0).length) (k := 8 * q0.length) (c := val q0) hx hy ?_
      rw [show 256 ^ (p ++ (m' ++ q0)).length + val p * 256 ^ (m' ++ q0).length + val m * 2 ^ (8 * q0.length) + val q0 = 256 ^ (p ++ (m' ++ q0)).length + (val p * 256 ^ (m' ++ q0).length + (val m * 2 ^ (8 * q0.length) + val q0)) by omega, hRR]
      congr 1; omega
    exact hne (val_inj (by rw [h7, h7']) hv)
  · have T := val_cseal s
    have T' := val_cseal u
    rw [h, val_append, val_append] at T
    rw [← h', val_append, val_append] at T'
    have hll : (m ++ q).length = (m' ++ q).length := by simp [h7, h7']
    rw [hll] at T
    rw [← hlen] at eu
    have d1 := Nat.div_add_mod (256 ^ s.length + val s) PR
    have d2 := Nat.div_add_mod (256 ^ s.length + val u) PR
    rw [← es] at d1
    rw [← eu] at d2
    have hv : (val m : Int) - (val m' : Int) = 0 := by
      rw [PR_eq] at d1 d2 hR hR'
      have hc : ((val m : Int) - (val m' : Int)) * ((256 ^ q.length : Nat) : Int) = ((val m * 256 ^ q.length : Nat) : Int) - ((val m' * 256 ^ q.length : Nat) : Int) := by
        rw [Int.sub_mul]; simp
      refine near_free (j := q.length) (by omega) ((val s : Int) - (val u : Int)) ((crest s : Int) - (crest u : Int)) _ (((256 ^ s.length + val s) / 2305843009213693951 : Nat) - ((256 ^ s.length + val u) / 2305843009213693951 : Nat)) ?_ ?_ (by omega) (by omega) (by omega) (by omega)
      · rw [hc]
        generalize val m * 256 ^ q.length = A at *
        generalize val m' * 256 ^ q.length = A' at *
        generalize val p * 256 ^ (m' ++ q).length = Z at *
        omega
      · generalize (256 ^ s.length + val s) / 2305843009213693951 = x at *
        generalize (256 ^ s.length + val u) / 2305843009213693951 = y at *
        generalize 256 ^ s.length = z at *
        omega
    exact hne (val_inj (by rw [h7, h7']) (by omega))

/-! ### Bytes 0, and bytes changed for each other -/
theorem val_zeros (n : Nat) : val (List.replicate n 0) = 0 := by
  induction n with
  | zero => rfl
  | succ n ih => rw [List.replicate_succ', val_snoc, ih]; rfl
theorem crest_zeros (n : Nat) : crest (List.replicate n 0) = 2 ^ (8 * n % 61) := by
  rw [crest_eq, val_zeros, List.length_replicate, Nat.add_zero, pow256, pow_mod_PR]
theorem mod_cancel {a b v : Nat} : (a + v) % PR = (b + v) % PR ↔ a % PR = b % PR := by rw [PR_eq]; omega
theorem crest_seen (n : Nat) (s : List UInt8) : crest (List.replicate n 0 ++ s) = crest s ↔ 8 * n % 61 = 0 := by
  rw [crest_eq, crest_eq, val_append, val_zeros, Nat.zero_mul, Nat.zero_add, mod_cancel, List.length_append, List.length_replicate, pow256, pow256, pow_mod_PR, pow_mod_PR]
  rw [Nat.pow_right_inj (by omega)]
  omega

theorem val_sum : ∀ (n : Nat) (a b c d : List UInt8), a.length = n → b.length = n → c.length = n → d.length = n → (∀ i, i < n → (a.getD i 0).toNat + (b.getD i 0).toNat = (c.getD i 0).toNat + (d.getD i 0).toNat) → val a + val b = val c + val d := by
  intro n
  induction n with
  | zero =>
    intro a b c d ha hb hc hd _
    rw [List.eq_nil_of_length_eq_zero ha, List.eq_nil_of_length_eq_zero hb, List.eq_nil_of_length_eq_zero hc, List.eq_nil_of_length_eq_zero hd]
  | succ n ih =>
    intro a b c d ha hb hc hd h
    obtain ⟨a, x, rfl⟩ := snoc_of ha
    obtain ⟨b, y, rfl⟩ := snoc_of hb
    obtain ⟨c, z, rfl⟩ := snoc_of hc
    obtain ⟨d, t, rfl⟩ := snoc_of hd
    simp only [List.length_append, List.length_singleton, Nat.add_right_cancel_iff] at ha hb hc hd
    have h1 := ih a b c d ha hb hc hd (fun i hi => by
      have := h i (by omega)
      simpa [List.getD_eq_getElem?_getD, List.getElem?_append_left, ha, hb, hc, hd, hi] using this)
    have h2 := h n (by omega)
    have hx : x.toNat + y.toNat = z.toNat + t.toNat := by
      have e : ∀ (l : List UInt8) (w : UInt8), l.length = n → (l ++ [w]).getD n 0 = w := fun l w hl => by subst hl; simp
      rw [e a x ha, e b y hb, e c z hc, e d t hd] at h2
      exact h2
    rw [val_snoc, val_snoc, val_snoc, val_snoc]; omega
theorem crest_sum {n : Nat} {a b c d : List UInt8} (ha : a.length = n) (hb : b.length = n) (hc : c.length = n) (hd : d.length = n) (h : ∀ i, i < n → (a.getD i 0).toNat + (b.getD i 0).toNat = (c.getD i 0).toNat + (d.getD i 0).toNat) :
    (crest a + crest b) % PR = (crest c + crest d) % PR := by
  have hv := val_sum n a b c d ha hb hc hd h
  rw [crest_eq, crest_eq, crest_eq, crest_eq, ha, hb, hc, hd, ← Nat.add_mod, ← Nat.add_mod]
  congr 1; omega

end Go.Proofs.YtemekdoogocapaaDoor
