/- slices.Compare of lists of numbers of whatever length, and cmp.Or of three numbers. -/
import Derived.Test.YtbnjbnjgfjpegaaTimFront
import Derived.Test.YtbnjbnjgfjpegaaOwns
namespace Go.Proofs.Ytbnjbnjgfjpegaa
open Go.RowKit Go.Shelf

/-- which of two lists comes ahead: by the first number that is not the same; then the shorter one -/
def cmpG : List Int → List Int → Int
  | [], [] => 0
  | [], _ :: _ => -1
  | _ :: _, [] => 1
  | a :: z, b :: y => if cmpZ a b = 0 then cmpG z y else cmpZ a b
theorem cmpG_step {zs ys : List Int} {k : Nat} (h1 : k < zs.length) (h2 : k < ys.length) : cmpG (zs.drop k) (ys.drop k) = if cmpZ (zd zs k) (zd ys k) = 0 then cmpG (zs.drop (k + 1)) (ys.drop (k + 1)) else cmpZ (zd zs k) (zd ys k) := by
  have e1 : zd zs k = zs[k] := by unfold zd; rw [List.getD_eq_getElem?_getD, List.getElem?_eq_getElem h1]; rfl
  have e2 : zd ys k = ys[k] := by unfold zd; rw [List.getD_eq_getElem?_getD, List.getElem?_eq_getElem h2]; rfl
  rw [e1, e2, List.drop_eq_getElem_cons h1, List.drop_eq_getElem_cons h2]
  rfl
theorem cmpG_more {zs ys : List Int} {k : Nat} (h1 : k < zs.length) (h2 : ys.length ≤ k) : cmpG (zs.drop k) (ys.drop k) = 1 := by
  rw [List.drop_eq_getElem_cons h1, List.drop_eq_nil_of_le h2]; rfl
theorem cmpG_less {zs ys : List Int} {k : Nat} (h1 : zs.length ≤ k) (h2 : k < ys.length) : cmpG (zs.drop k) (ys.drop k) = -1 := by
  rw [List.drop_eq_getElem_cons h2, List.drop_eq_nil_of_le h1]; rfl
theorem cmpG_end {zs ys : List Int} {k : Nat} (h1 : zs.length ≤ k) (h2 : ys.length ≤ k) : cmpG (zs.drop k) (ys.drop k) = 0 := by
  rw [List.drop_eq_nil_of_le h1, List.drop_eq_nil_of_le h2]; rfl
theorem cmpZ_cases (a b : Int) : (a < b ∧ cmpZ a b = -1) ∨ (b < a ∧ cmpZ a b = 1) ∨ (a = b ∧ cmpZ a b = 0) := by
  unfold cmpZ
  by_cases h : a < b
  · exact .inl ⟨h, if_pos h⟩
  · by_cases h2 : b < a
    · exact .inr (.inl ⟨h2, (if_neg h).trans (if_pos h2)⟩)
    · exact .inr (.inr ⟨by omega, (if_neg h).trans (if_neg h2)⟩)
theorem zd_cons (a : Int) (z : List Int) (i : Nat) : zd (a :: z) (i + 1) = zd z i := rfl
theorem lexZ_cons {a b : Int} {z y : List Int} : LexZ (a :: z) (b :: y) ↔ a < b ∨ a = b ∧ LexZ z y := by
  constructor
  · rintro ⟨i, hi, hj, hk⟩
    cases i with
    | zero => exact .inl hk
    | succ i =>
      have h0 : a = b := hj 0 (by omega)
      exact .inr ⟨h0, i, by simpa using hi, fun j hj' => hj (j + 1) (by omega), hk⟩
  · rintro (h | ⟨rfl, i, hi, hj, hk⟩)
    · exact ⟨0, by simp, fun j hj => by omega, h⟩
    · refine ⟨i + 1, by simpa using hi, fun j hj' => ?_, hk⟩
      cases j with
      | zero => rfl
      | succ j => exact hj j (by omega)
theorem cmpG_neg : ∀ {zs ys : List Int}, zs.length = ys.length → (cmpG zs ys < 0 ↔ LexZ zs ys)
  | [], [], _ => ⟨fun h => absurd h (by decide), fun ⟨i, hi, _⟩ => by simp at hi⟩
  | [], _ :: _, h => by simp at h
  | _ :: _, [], h => by simp at h
  | a :: z, b :: y, h => by
    rw [lexZ_cons]
    have ih := cmpG_neg (zs := z) (ys := y) (by simpa using h)
    show (if cmpZ a b = 0 then cmpG z y else cmpZ a b) < 0 ↔ _
    rcases cmpZ_cases a b with ⟨h1, h2⟩ | ⟨h1, h2⟩ | ⟨h1, h2⟩
    · rw [h2]; simp; omega
    · rw [h2]
      simp only [show ¬ ((1 : Int) = 0) by omega, if_false]
      constructor
      · intro h; omega
      · rintro (h | ⟨h, _⟩) <;> omega
    · rw [h2, if_pos rfl, ih]
      constructor
      · intro h; exact .inr ⟨h1, h⟩
      · rintro (h | ⟨_, h⟩)
        · omega
        · exact h

set_option maxRecDepth 100000 in
set_option maxHeartbeats 1000000 in
theorem gcmp_any (a : Option Addr) (ca : Nat) (zs : List Int) (b : Option Addr) (cb : Nat) (ys : List Int) (n₀ : Nat) (h63 : zs.length ≤ 9223372036854775807) (w : World) (hz : ZInts n₀ w a zs) (hy : ZInts n₀ w b ys) :
    Calls Try.prog 36 #[.slice a zs.length ca, .slice b ys.length cb] w fun e w' => e = .returned (.int .i64 (cmpG zs ys)) ∧ w' = w := by
  go_enter Try.func36, Try.ntmps36
  go_wp2
  go_loop [11] (fun i => ∃ k : Nat, k ≤ zs.length ∧ i = .int .i64 k ∧ k ≤ ys.length ∧ Hid (cmpG zs ys = cmpG (zs.drop k) (ys.drop k))) (fun i => zs.length - (intOf i).toNat)
  case atStart => exact ⟨0, Nat.zero_le _, rfl, Nat.zero_le _, rfl⟩
  case round =>
    obtain ⟨k, hk, rfl, hky, HS⟩ := hrel
    by_cases hlt : k < zs.length
    · by_cases hlt2 : k < ys.length
      · have dn : decide ((ys.length : Int) ≤ (k : Int)) = false := by simp; omega
        obtain ⟨bz, oz, rfl, hbz, hcz⟩ := hz.at hlt
        obtain ⟨bb, oy, rfl, hby, hcy⟩ := hy.at hlt2
        have ck := hcz k hlt
        have dk := hcy k hlt2
        clear hcz hcy
        have hst := HS.out.trans (cmpG_step hlt hlt2)
        have hcm := cmpZ_any (zd zs k) (zd ys k)
        rcases cmpZ_cases (zd zs k) (zd ys k) with ⟨h1, h2⟩ | ⟨h1, h2⟩ | ⟨h1, h2⟩
        · rw [h2] at hcm hst
          have HF := hide (show cmpG zs ys = -1 by rw [hst]; rfl)
          clear h1 h2 hst HS
          go_wp2_with (go_at_call 35; refine (hcm _).mono ?_; rintro e w' ⟨rfl, rfl⟩)
          go_ret
          exact ⟨ret_int HF.out.symm, rfl⟩
        · rw [h2] at hcm hst
          have HF := hide (show cmpG zs ys = 1 by rw [hst]; rfl)
          clear h1 h2 hst HS
          go_wp2_with (go_at_call 35; refine (hcm _).mono ?_; rintro e w' ⟨rfl, rfl⟩)
          go_ret
          exact ⟨ret_int HF.out.symm, rfl⟩
        · rw [h2] at hcm hst
          have HF := hide (show cmpG zs ys = cmpG (zs.drop (k + 1)) (ys.drop (k + 1)) by rw [hst]; rfl)
          clear h1 h2 hst HS
          go_wp2_with (go_at_call 35; refine (hcm _).mono ?_; rintro e w' ⟨rfl, rfl⟩)
          go_round
          case rel => exact ⟨k + 1, by omega, by go_num, by omega, HF⟩
          case measure => simp [intOf]; omega
      · have dn : decide ((ys.length : Int) ≤ (k : Int)) = true := by simp; omega
        have HF := hide (HS.out.trans (cmpG_more hlt (by omega)))
        obtain ⟨bz, oz, rfl, hbz, hcz⟩ := hz.at hlt
        have ck := hcz k hlt
        clear hcz HS
        go_wp2
        go_ret
        exact ⟨ret_int HF.out.symm, rfl⟩
    · by_cases hlt2 : k < ys.length
      · have HF := hide (HS.out.trans (cmpG_less (by omega) hlt2))
        have dn : zs.length < ys.length := by omega
        clear HS
        go_wp2
        go_ret
        exact ⟨ret_int HF.out.symm, rfl⟩
      · have HF := hide (HS.out.trans (cmpG_end (by omega) (by omega)))
        have dn : ¬ zs.length < ys.length := by omega
        clear HS
        go_wp2
        go_ret
        exact ⟨ret_int HF.out.symm, rfl⟩
/-- the first one that is not 0 -/
def orI : List Int → Int
  | [] => 0
  | x :: l => if x = 0 then orI l else x
theorem orI_step {l : List Int} {k : Nat} (h : k < l.length) : orI (l.drop k) = if zd l k = 0 then orI (l.drop (k + 1)) else zd l k := by
  have e1 : zd l k = l[k] := by unfold zd; rw [List.getD_eq_getElem?_getD, List.getElem?_eq_getElem h]; rfl
  rw [e1, List.drop_eq_getElem_cons h]; rfl
set_option maxRecDepth 100000 in
set_option maxHeartbeats 1000000 in
theorem or_any (a : Option Addr) (ca : Nat) (zs : List Int) (n₀ : Nat) (h63 : zs.length ≤ 9223372036854775807) (w : World) (hz : ZInts n₀ w a zs) :
    Calls Try.prog 34 #[.slice a zs.length ca] w fun e w' => e = .returned (.int .i64 (orI zs)) ∧ w' = w := by
  go_enter Try.func34, Try.ntmps34
  go_wp2
  go_loop [8] (fun i => ∃ k : Nat, k ≤ zs.length ∧ i = .int .i64 k ∧ Hid (orI zs = orI (zs.drop k))) (fun i => zs.length - (intOf i).toNat)
  case atStart => exact ⟨0, Nat.zero_le _, rfl, rfl⟩
  case round =>
    obtain ⟨k, hk, rfl, HS⟩ := hrel
    by_cases hlt : k < zs.length
    · obtain ⟨bz, oz, rfl, hbz, hcz⟩ := hz.at hlt
      have ck := hcz k hlt
      have hst := HS.out.trans (orI_step hlt)
      clear hcz HS
      by_cases h0 : zd zs k = 0
      · rw [if_pos h0] at hst
        have HF := hide hst
        have g0 : (zd zs k != 0) = false := by rw [bne_eq_false_iff_eq]; exact h0
        clear hst h0
        go_wp2
        go_round
        case rel => exact ⟨k + 1, by omega, by go_num, HF⟩
        case measure => simp [intOf]; omega
      · rw [if_neg h0] at hst
        have HF := hide hst
        have g0 : (zd zs k != 0) = true := by rw [bne_iff_ne]; exact h0
        clear hst h0
        go_wp2
        go_ret
        exact ⟨ret_int HF.out.symm, rfl⟩
    · have HF := hide (HS.out.trans (by rw [List.drop_eq_nil_of_le (by omega)]; rfl : _ = (0 : Int)))
      clear HS
      go_wp2
      go_ret
      exact ⟨ret_int HF.out.symm, rfl⟩
end Go.Proofs.Ytbnjbnjgfjpegaa
