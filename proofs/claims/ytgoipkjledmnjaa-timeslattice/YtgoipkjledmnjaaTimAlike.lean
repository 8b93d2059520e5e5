/- The contracts of watershedkeep's alike and joined. -/
import Derived.Test.YtgoipkjledmnjaaTimJoin
import Derived.Test.YtgoipkjledmnjaaZList
namespace Go.Proofs.Ytgoipkjledmnjaa
open Go.RowKit Go.Shelf

def AlikeP (L : List Sl) : Prop := ∀ i, i < L.length → codeT (nth L i).zs = 0 ∧ (nth L i).zs.length = (nth L 0).zs.length
def decAlikeP (L : List Sl) : Decidable (AlikeP L) := by unfold AlikeP; infer_instance
def alikeB (L : List Sl) : Bool := @decide (AlikeP L) (decAlikeP L)
theorem alikeB_true {L : List Sl} : alikeB L = true ↔ AlikeP L := by unfold alikeB; exact @decide_eq_true_iff _ (decAlikeP L)
theorem alikeB_false {L : List Sl} : alikeB L = false ↔ ¬ AlikeP L := by unfold alikeB; exact @decide_eq_false_iff_not _ (decAlikeP L)

set_option maxRecDepth 100000 in
set_option maxHeartbeats 2000000 in
theorem kalike_any (a : Option Addr) (cap : Nat) (L : List Sl) (n₀ : Nat) (h63 : L.length ≤ 9223372036854775807) (w : World) (hw : ZLists n₀ w a L) :
    Calls Try.prog 33 #[.slice a L.length cap] w fun e w' => e = .returned (.bool (alikeB L)) ∧ w' = w := by
  go_enter Try.func33, Try.ntmps33
  go_wp2
  go_loop [7] (fun i => ∃ k : Nat, k ≤ L.length ∧ i = .int .i64 k ∧ Hid (∀ j, j < k → codeT (nth L j).zs = 0 ∧ (nth L j).zs.length = (nth L 0).zs.length)) (fun i => L.length - (intOf i).toNat)
  case atStart => exact ⟨0, Nat.zero_le _, rfl, hide fun j hj => by omega⟩
  case round =>
    obtain ⟨k, hk, rfl, HS⟩ := hrel
    by_cases hlt : k < L.length
    · obtain ⟨b, off, rfl, hb, hc⟩ := hw.outer.at hlt
      have ck := hc k hlt
      have c0 := hc 0 (by omega)
      have h0 : 0 < L.length := by omega
      obtain ⟨iz, il⟩ := hw.inner k hlt
      rw [Nat.add_zero] at c0
      have HN := hide (show (∀ j, j = k → nth L j = nth L k) ∧ nth L 0 = nth L 0 from ⟨fun j e => by rw [e], rfl⟩)
      have HP := hide (show ∀ sk s0, nth L k = sk → nth L 0 = s0 → ¬ (codeT sk.zs = 0 ∧ sk.zs.length = s0.zs.length) → alikeB L = false from fun sk s0 e1 e0 h => alikeB_false.2 fun hA => h (by rw [← e1, ← e0]; exact hA k hlt))
      have HG := hide (show ∀ sk s0, nth L k = sk → nth L 0 = s0 → codeT sk.zs = 0 ∧ sk.zs.length = s0.zs.length → ∀ j, j < k + 1 → codeT (nth L j).zs = 0 ∧ (nth L j).zs.length = (nth L 0).zs.length from fun sk s0 e1 e0 h j hj => by
        by_cases e : j = k
        · rw [e, e1, e0]; exact h
        · exact HS.out j (by omega))
      obtain ⟨sk, ek⟩ : ∃ sk, nth L k = sk := ⟨_, rfl⟩
      obtain ⟨s0, e0⟩ : ∃ s0, nth L 0 = s0 := ⟨_, rfl⟩
      have HP' := HP.out sk s0 ek e0
      have HG' := HG.out sk s0 ek e0
      rw [ek] at ck iz il
      rw [e0] at c0
      clear hc hw ek e0 HN HP HG
      obtain ⟨ak, qk, zk⟩ := sk
      obtain ⟨a0, q0, z0⟩ := s0
      unfold slv at ck c0
      dsimp only at ck c0 iz il HP' HG'
      have hck := tcheck_any ak qk zk n₀ il w iz
      by_cases hz : codeT zk = 0
      · rw [hz] at hck
        by_cases hl : zk.length = z0.length
        · have HL := hide (HG' ⟨hz, hl⟩)
          have e1 : ((zk.length : Int) != (z0.length : Int)) = false := by rw [bne_eq_false_iff_eq]; omega
          clear hz hl HP' HG'
          go_wp2_with (go_at_call 12; refine hck.mono ?_; rintro e w' ⟨rfl, rfl⟩)
          go_round
          case rel => exact ⟨k + 1, by omega, by go_num, hide HL.out⟩
          case measure => simp [intOf]; omega
        · have HF := hide (HP' fun h => hl h.2)
          have e1 : ((zk.length : Int) != (z0.length : Int)) = true := by rw [bne_iff_ne]; omega
          clear hz hl HP' HG'
          go_wp2_with (go_at_call 12; refine hck.mono ?_; rintro e w' ⟨rfl, rfl⟩)
          go_ret
          exact ⟨ret_bool HF.out.symm, rfl⟩
      · have HF := hide (HP' fun h => hz h.1)
        have e1 : (codeT zk != 0) = true := by rw [bne_iff_ne]; exact hz
        clear hz HP' HG'
        generalize codeT zk = c at *
        go_wp2_with (go_at_call 12; refine hck.mono ?_; rintro e w' ⟨rfl, rfl⟩)
        go_ret
        exact ⟨ret_bool HF.out.symm, rfl⟩
    · have HF := hide (alikeB_true.2 (show AlikeP L from fun i hi => HS.out i (by omega)))
      go_wp2
      go_ret
      exact ⟨ret_bool HF.out.symm, rfl⟩

/-- the three slices of a call with three -/
theorem three_lists (w : World) (t : TypeId) (s1 s2 s3 : Sl) (n₀ : Nat) (hn₀ : n₀ ≤ w.heap.size) (h1 : ZInts n₀ w s1.a s1.zs) (h2 : ZInts n₀ w s2.a s2.zs) (h3 : ZInts n₀ w s3.a s3.zs) (l1 : s1.zs.length ≤ 9223372036854775807) (l2 : s2.zs.length ≤ 9223372036854775807) (l3 : s3.zs.length ≤ 9223372036854775807) :
    ZLists (w.heap.size + 1) (w.alloc (.cells #[slv s1, slv s2, slv s3] t)) (some ⟨w.heap.size, 0, none⟩) [s1, s2, s3] := by
  have hb : Below w.heap.size w (w.alloc (.cells #[slv s1, slv s2, slv s3] t)) := (Below.refl _ _).alloc (Nat.le_refl _) _
  have r := Row.new w t [slv s1, slv s2, slv s3]
  refine ⟨Row.outer (L := [s1, s2, s3]) r (Nat.lt_succ_self _), fun i hi => ?_⟩
  match i, hi with
  | 0, _ => exact ⟨(h1.below (hb.mono hn₀)).mono (by omega), l1⟩
  | 1, _ => exact ⟨(h2.below (hb.mono hn₀)).mono (by omega), l2⟩
  | 2, _ => exact ⟨(h3.below (hb.mono hn₀)).mono (by omega), l3⟩
theorem alike3 {s1 s2 s3 : Sl} : alikeB [s1, s2, s3] = true ↔ codeT s1.zs = 0 ∧ codeT s2.zs = 0 ∧ codeT s3.zs = 0 ∧ s2.zs.length = s1.zs.length ∧ s3.zs.length = s1.zs.length := by
  rw [alikeB_true]
  constructor
  · intro h
    exact ⟨(h 0 (by simp)).1, (h 1 (by simp)).1, (h 2 (by simp)).1, (h 1 (by simp)).2, (h 2 (by simp)).2⟩
  · rintro ⟨h1, h2, h3, h4, h5⟩ i hi
    match i, hi with
    | 0, _ => exact ⟨h1, rfl⟩
    | 1, _ => exact ⟨h2, h4⟩
    | 2, _ => exact ⟨h3, h5⟩
/-- alike of three lists that came in -/
theorem kalike3_any (a : Option Addr) (ca : Nat) (zs : List Int) (b : Option Addr) (cb : Nat) (ys : List Int) (c : Option Addr) (cc : Nat) (xs : List Int) (n₀ : Nat) (h63 : zs.length ≤ 9223372036854775807) (h64 : ys.length ≤ 9223372036854775807) (h65 : xs.length ≤ 9223372036854775807) (w : World) (hz : ZInts n₀ w a zs) (hy : ZInts n₀ w b ys) (hx : ZInts n₀ w c xs) (hn₀ : n₀ ≤ w.heap.size) :
    Calls Try.prog 33 #[.slice (some ⟨w.heap.size, 0, none⟩) 3 3] (w.alloc (.cells #[.slice a zs.length ca, .slice b ys.length cb, .slice c xs.length cc] 22)) fun e w' => e = .returned (.bool (alikeB [⟨a, ca, zs⟩, ⟨b, cb, ys⟩, ⟨c, cc, xs⟩])) ∧ Below w.heap.size w w' := by
  refine (kalike_any (some ⟨w.heap.size, 0, none⟩) 3 [⟨a, ca, zs⟩, ⟨b, cb, ys⟩, ⟨c, cc, xs⟩] (w.heap.size + 1) (by simp) _ (three_lists w 22 ⟨a, ca, zs⟩ ⟨b, cb, ys⟩ ⟨c, cc, xs⟩ n₀ hn₀ hz hy hx h63 h64 h65)).mono ?_
  rintro e w' ⟨h1, h2⟩
  exact ⟨h1, by rw [h2]; exact (Below.refl _ _).alloc (Nat.le_refl _) _⟩

set_option maxRecDepth 100000 in
set_option maxHeartbeats 1000000 in
/-- joined, of times that may be -/
theorem kjoined_any (up : Bool) (a : Option Addr) (ca : Nat) (zs : List Int) (b : Option Addr) (cb : Nat) (ys : List Int) (n₀ : Nat) (h63 : zs.length ≤ 9223372036854775807) (h64 : ys.length ≤ 9223372036854775807) (hc : codeP zs ys = 0) (w : World) (hz : ZInts n₀ w a zs) (hy : ZInts n₀ w b ys) (hn₀ : n₀ ≤ w.heap.size) :
    Calls Try.prog 34 #[.slice a zs.length ca, .slice b ys.length cb, .bool up] w fun e w' => ∃ B, e = .returned (.slice (some ⟨B, 0, none⟩) zs.length zs.length) ∧ Below w.heap.size w w' ∧ w.heap.size ≤ B ∧ Row w' B 3 (zvals (joinT up zs ys)) := by
  have s1 := (Meet_any a ca zs b cb ys n₀ h63 h64 w hz hy hn₀).mono (R' := fun e w' => ∃ B, e = .returned (.tuple #[.slice (some ⟨B, 0, none⟩) zs.length zs.length, .int .i64 0]) ∧ Below w.heap.size w w' ∧ w.heap.size ≤ B ∧ Row w' B 3 (zvals (joinT false zs ys))) (by
    rintro e w' ⟨hb, hh⟩
    obtain ⟨_, B, h1, h2, h3⟩ := hh.resolve_left fun h => h.1 hc
    exact ⟨B, h1, hb, h2, h3⟩)
  cases up
  · go_enter Try.func34, Try.ntmps34
    go_wp2_with fail
    with_reducible refine s1.mono ?_
    rintro e w1 ⟨B, rfl, hb1, hge, r1⟩
    go_wp2_with fail
    go_ret
    exact ⟨B, rfl, hb1, hge, r1⟩
  · have s2 : ∀ W, Below w.heap.size w W → _ := fun W hW => (Join_any a ca zs b cb ys n₀ h63 h64 W (hz.below (hW.mono hn₀)) (hy.below (hW.mono hn₀)) (by have := hW.size; omega)).mono (R' := fun e w' => ∃ B, e = .returned (.tuple #[.slice (some ⟨B, 0, none⟩) zs.length zs.length, .int .i64 0]) ∧ Below W.heap.size W w' ∧ W.heap.size ≤ B ∧ Row w' B 3 (zvals (joinT true zs ys))) (by
      rintro e w' ⟨hb, hh⟩
      obtain ⟨_, B, h1, h2, h3⟩ := hh.resolve_left fun h => h.1 hc
      exact ⟨B, h1, hb, h2, h3⟩)
    go_enter Try.func34, Try.ntmps34
    go_wp2_with fail
    with_reducible refine s1.mono ?_
    rintro e w1 ⟨B1, rfl, hb1, hge, r1⟩
    have s3 := s2 w1 hb1
    have hs1 := hb1.size
    clear s1 s2
    go_wp2_with fail
    with_reducible refine s3.mono ?_
    rintro e w2 ⟨B, rfl, hb2, hge2, r2⟩
    go_wp2_with fail
    go_ret
    exact ⟨B, rfl, hb1.trans (hb2.mono hs1), by omega, r2⟩
end Go.Proofs.Ytgoipkjledmnjaa
