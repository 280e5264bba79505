/-
  LAYER 17: the laws: small tapes.
-/
import Derived.Test.YtofpcdjoljjnoaaDoorTapZ27
import Derived.Test.YtofpcdjoljjnoaaDoorTapZ28
namespace Go.Proofs.YtofpcdjoljjnoaaDoor
open Go.RowKit Go.Maps

/-- What Small tells of a tape. -/
def SmallPost (L : List Nd) (T : List (List UInt8 × Int)) (w : World) (e : Ending) (w' : World) : Prop :=
  (e = .returned (.bool true) ∧ L.length ≤ 200 ∧ T.length ≤ 50 ∧ (∀ (i : Nat) (x : Nd), L[i]? = some x → x.c.m.length ≤ 3 ∧ x.c.d.length ≤ 3) ∧ Grow w w') ∨ (e = .returned (.bool false) ∧ Grow w w')
def SmallRel (L : List Nd) (z : Nat) (cs : Array Value) (w : World) (i : Value) (wr : World) : Prop :=
  ∃ k : Nat, k ≤ L.length ∧ i = .int .i64 (k : Int) ∧ BlkOf wr z cs 46 ∧ (∀ (j : Nat) (x : Nd), j < k → L[j]? = some x → x.c.m.length ≤ 3 ∧ x.c.d.length ≤ 3) ∧ Grow w wr
def SmallRel2 (n : Nat) (z : Nat) (cs : Array Value) (w : World) (i : Value) (wr : World) : Prop :=
  ∃ k : Nat, k ≤ n ∧ i = .int .i64 (k : Int) ∧ BlkOf wr z cs 46 ∧ Grow w wr

set_option maxRecDepth 100000 in
set_option maxHeartbeats 8000000 in
theorem small17_any {pars out : Int} {A B : Option Addr} {ca cb : Nat} {L : List Nd} {T : List (List UInt8 × Int)} {w : World} (hL : NdsRaw w A L) (hT : TlsAt w B T) (hl : L.length ≤ 9223372036854775807) (ht : T.length ≤ 9223372036854775807) (hs : ∀ t ∈ T, t.1.length ≤ 9223372036854775807) :
    Calls Tryd.prog 18 #[.agg #[.int .i64 pars, .int .i64 out, .slice A L.length ca, .slice B T.length cb]] w (SmallPost L T w) := by
  obtain ⟨N, hN⟩ : ∃ N, N = L.length := ⟨_, rfl⟩
  obtain ⟨M, hM⟩ : ∃ M, M = T.length := ⟨_, rfl⟩
  rw [← hN] at hl ⊢
  rw [← hM] at ht ⊢
  have HN := Lib.hid hN
  have HM := Lib.hid hM
  have HL := Lib.hid hL
  have HT := Lib.hid hT
  have HS := Lib.hid hs
  have b0 : BlkOf (w.alloc (.cells #[.int .i64 pars, .int .i64 out, .slice A N ca, .slice B M cb] 46)) w.heap.size #[.int .i64 pars, .int .i64 out, .slice A N ca, .slice B M cb] 46 := BlkOf.new w _ _
  have HB := Lib.hid b0
  have HG := Lib.hid (Grow.alloc w (.cells #[.int .i64 pars, .int .i64 out, .slice A N ca, .slice B M cb] 46))
  have c2 := b0.at 2 rfl
  have c3 := b0.at 3 rfl
  clear hN hM hL hT hs b0
  by_cases h1 : N ≤ 200
  · have h1i : ¬ (200 : Int) < (N : Int) := by omega
    have h1d : decide ((200 : Int) < (N : Int)) = false := by simp; omega
    by_cases h2 : M ≤ 50
    · have h2i : ¬ (50 : Int) < (M : Int) := by omega
      have h2d : decide ((50 : Int) < (M : Int)) = false := by simp; omega
      go_enter Tryd.func18, Tryd.ntmps18
      go_wp2_with fail
      clear c2 c3
      go_loopw [3] (fun i wr => SmallRel L w.heap.size #[.int .i64 pars, .int .i64 out, .slice A N ca, .slice B M cb] w i wr) (fun i _ => N - (intOf i).toNat)
      case atStart => exact ⟨0, by omega, rfl, HB.out, fun j x hj => by omega, HG.out⟩
      case round =>
        obtain ⟨k, hk, rfl, hb, hsm, hgr⟩ := hrel
        have hkN : k ≤ N := by rw [HN.out]; exact hk
        have HB1 := Lib.hid hb
        have HSM := Lib.hid hsm
        have HG1 := Lib.hid hgr
        have c2 := hb.at 2 rfl
        have c3 := hb.at 3 rfl
        by_cases hlt : k < N
        · have hltI : (k : Int) < (N : Int) := by omega
          obtain ⟨x, hx⟩ : ∃ x, L[k]? = some x := ⟨_, List.getElem?_eq_getElem (by have := HN.out; omega)⟩
          obtain ⟨b, off, vn, vd, rfl, hc, hok⟩ := HL.out k x hx
          have hcell : ∀ j v, (ndCells x vn vd)[j]? = some v → wr.cell? ⟨b, off + k * 6 + j, none⟩ = some v := fun j v hv => by
            have hbl := World.block_lt_of_cell? w _ (hc 0 _ rfl)
            exact (hgr.cell (p := ⟨b, off + k * 6 + j, none⟩) hbl).trans (hc j v hv)
          have d3 := hcell 3 _ rfl
          obtain ⟨_, _, _, ⟨an, cn, rfl, _⟩, ⟨ad, cd, rfl, _⟩, hlm, hld⟩ := hok
          have d4 := hcell 4 _ rfl
          have d5 := hcell 5 _ rfl
          have HSA := Lib.hid (small_any x.c.s an ad x.c.m.length x.c.d.length cn cd wr hlm hld)
          have HX := Lib.hid hx
          obtain ⟨r, hr⟩ : ∃ r, r = (decide (x.c.m.length ≤ 3) && decide (x.c.d.length ≤ 3)) := ⟨_, rfl⟩
          rw [← hr] at HSA
          have HR := Lib.hid hr
          clear hk hb hsm hgr hx hc hcell hlm hld hr
          cases r with
          | true =>
            go_wp2_with (first | (go_at_call 9; refine HSA.out.mono ?_; rintro e w3 ⟨rfl, hb3⟩; have HG3 := Lib.hid (HG1.out.trans hb3); have HB3 := Lib.hid (HB1.out.below hb3 HB1.out.lt); clear hb3) | fail)
            go_roundw
            case rel =>
              refine ⟨k + 1, by have := HN.out; omega, by go_num, HB3.out, fun j y hj hy => ?_, HG3.out⟩
              rcases Nat.lt_or_ge j k with h | h
              · exact HSM.out j y h hy
              · obtain rfl : j = k := by omega
                rw [HX.out] at hy
                cases hy
                have := HR.out
                simpa using this.symm
            case measure => simp [intOf]; omega
          | false =>
            go_wp2_with (first | (go_at_call 9; refine HSA.out.mono ?_; rintro e w3 ⟨rfl, hb3⟩; have HG3 := Lib.hid (HG1.out.trans hb3); clear hb3) | fail)
            go_ret
            exact .inr ⟨rfl, HG3.out⟩
        · obtain rfl : k = N := by omega
          have HALL : Hid (∀ (i : Nat) (x : Nd), L[i]? = some x → x.c.m.length ≤ 3 ∧ x.c.d.length ≤ 3) := Lib.hid (fun i x hx => HSM.out i x (by have := (List.getElem?_eq_some_iff.1 hx).1; have := HN.out; omega) hx)
          clear hk hb hsm hgr
          go_wp2_with fail
          clear c2 c3
          have W1eq : ∃ W1, W1 = wr := ⟨_, rfl⟩
          obtain ⟨W1, hW1⟩ := W1eq
          rw [← hW1] at HB1 HG1 ⊢
          clear hW1
          go_loopw [4] (fun i wr => SmallRel2 M w.heap.size #[.int .i64 pars, .int .i64 out, .slice A k ca, .slice B M cb] w i wr) (fun i _ => M - (intOf i).toNat)
          case atStart => exact ⟨0, by omega, rfl, HB1.out, HG1.out⟩
          case round =>
            obtain ⟨q, hq, rfl, hb, hgr⟩ := hrel
            have HB2 := Lib.hid hb
            have HG2 := Lib.hid hgr
            have c2 := hb.at 2 rfl
            have c3 := hb.at 3 rfl
            by_cases hlt : q < M
            · have hltI : (q : Int) < (M : Int) := by omega
              obtain ⟨x, hx⟩ : ∃ x, T[q]? = some x := ⟨_, List.getElem?_eq_getElem (by have := HM.out; omega)⟩
              obtain ⟨_, b, off, rfl, hc0, _⟩ := HT.out q x hx
              have d0 : wr.cell? ⟨b, off + q * 2, none⟩ = some (.string (mk x.1)) := (hgr.cell (p := ⟨b, off + q * 2, none⟩) (World.block_lt_of_cell? w _ hc0)).trans hc0
              have hsz : (mk x.1).size = x.1.length := mk_size _
              have hxl := HS.out x (List.mem_of_getElem? hx)
              obtain ⟨z, hz⟩ : ∃ z, z = x.1.length := ⟨_, rfl⟩
              rw [← hz] at hsz hxl
              clear hb hgr hx hc0 hz
              by_cases h200 : z ≤ 200
              · have e1 : ¬ (200 : Int) < (z : Int) := by omega
                go_wp2_with fail
                go_roundw
                case rel => exact ⟨q + 1, by omega, by go_num, HB2.out, HG2.out⟩
                case measure => simp [intOf]; omega
              · have e1 : (200 : Int) < (z : Int) := by omega
                go_wp2_with fail
                go_ret
                exact .inr ⟨rfl, HG2.out⟩
            · obtain rfl : q = M := by omega
              clear hb hgr
              go_wp2_with fail
              go_ret
              exact .inl ⟨rfl, by have := HN.out; omega, by have := HM.out; omega, HALL.out, HG2.out⟩
    · have h2i : (50 : Int) < (M : Int) := by omega
      have h2d : decide ((50 : Int) < (M : Int)) = true := by simp; omega
      go_enter Tryd.func18, Tryd.ntmps18
      go_wp2_with fail
      go_ret
      exact .inr ⟨rfl, HG.out⟩
  · have h1i : (200 : Int) < (N : Int) := by omega
    have h1d : decide ((200 : Int) < (N : Int)) = true := by simp; omega
    go_enter Tryd.func18, Tryd.ntmps18
    go_wp2_with fail
    go_ret
    exact .inr ⟨rfl, HG.out⟩
end Go.Proofs.YtofpcdjoljjnoaaDoor
