/- slices' IndexFunc and ContainsFunc of summaries, at package summary's two closures. -/
import Derived.Test.YtbnjbnjgfjpegaaSumSort
import Derived.Test.YtbnjbnjgfjpegaaTimOpen
namespace Go.Proofs.Ytbnjbnjgfjpegaa
open Go.RowKit Go.Shelf

set_option maxRecDepth 100000 in
set_option maxHeartbeats 1000000 in
theorem idx_sleast_any (q : Nat) (a : Option Addr) (cap : Nat) (L : List Su) (p : Nat → Bool) (r : Bool) (hr : r = true ↔ AnyTo p L.length) (n₀ : Nat) (h63 : L.length ≤ 9223372036854775807) (w : World) (hw : OuterU n₀ w a L) (hn₀ : n₀ ≤ w.heap.size) (hc : ∀ i, i < L.length → ∀ W, Below w.heap.size w W → Calls Try.prog 25 #[(nthU L i).val, .pointer (some ⟨q, 0, none⟩)] W fun e w' => e = .returned (.bool (p i)) ∧ Below W.heap.size W w') :
    Calls Try.prog 31 #[.slice a L.length cap, .func (.func 25) #[] #[.pointer (some ⟨q, 0, none⟩)]] w fun e w' => ∃ x : Int, e = .returned (.int .i64 x) ∧ Below w.heap.size w w' ∧ decide (0 ≤ x) = r := by
  go_enter Try.func31, Try.ntmps31
  go_wp2
  go_loopw [8] (fun i wr => ∃ k : Nat, k ≤ L.length ∧ i = .int .i64 k ∧ Below w.heap.size w wr ∧ Hid (∀ j, j < k → p j = false)) (fun i _ => L.length - (intOf i).toNat)
  case atStart => exact ⟨0, Nat.zero_le _, rfl, Below.refl _ _, hide fun j hj => by omega⟩
  case round =>
    obtain ⟨k, hk, rfl, hB, HS⟩ := hrel
    by_cases hlt : k < L.length
    · obtain ⟨b, off, rfl, hb, hcc⟩ := (hw.below (hB.mono hn₀)).at hlt
      obtain ⟨ck, dk, fk⟩ := hcc k hlt
      have hck := hc k hlt wr hB
      have HN := hide (show ∀ j, j = k → p j = p k from fun j e => by rw [e])
      clear hcc hc
      obtain ⟨sk, ek⟩ : ∃ sk, nthU L k = sk := ⟨_, rfl⟩
      rw [ek] at ck dk fk hck
      clear ek
      obtain ⟨kk, dd, ak, qk, zk⟩ := sk
      unfold Su.val at hck
      dsimp only at ck dk fk hck
      have hbw : b < wr.heap.size := by have := hB.size; omega
      cases hu : p k with
      | true =>
        have HR := hide (hr.2 ⟨k, hlt, hu⟩)
        rw [hu] at hck
        clear hu hr
        go_wp2_with (go_at_call 25; with_reducible refine hck.mono ?_; rintro e w' ⟨rfl, hb1⟩)
        go_ret
        exact ⟨_, rfl, hB.trans (hb1.mono hB.size), by rw [HR.out]; simp⟩
      | false =>
        have HU := hide hu
        rw [hu] at hck
        clear hu
        go_wp2_with (go_at_call 25; with_reducible refine hck.mono ?_; rintro e w' ⟨rfl, hb1⟩)
        go_roundw
        case rel => exact ⟨k + 1, by omega, by go_num, hB.trans (hb1.mono hB.size), hide fun j hj => by
          by_cases e : j = k
          · rw [e]; exact HU.out
          · exact HS.out j (by omega)⟩
        case measure => simp [intOf]; omega
    · have HR : Hid (r = false) := hide (by
        rw [Bool.eq_false_iff]
        intro h
        exact anyTo_false (fun j hj => HS.out j (by omega)) (hr.1 h))
      go_wp2
      go_ret
      exact ⟨_, rfl, hB, by rw [HR.out]; rfl⟩
set_option maxHeartbeats 1000000 in
theorem con_sleast_any (q : Nat) (a : Option Addr) (cap : Nat) (L : List Su) (p : Nat → Bool) (r : Bool) (hr : r = true ↔ AnyTo p L.length) (n₀ : Nat) (h63 : L.length ≤ 9223372036854775807) (w : World) (hw : OuterU n₀ w a L) (hn₀ : n₀ ≤ w.heap.size) (hc : ∀ i, i < L.length → ∀ W, Below w.heap.size w W → Calls Try.prog 25 #[(nthU L i).val, .pointer (some ⟨q, 0, none⟩)] W fun e w' => e = .returned (.bool (p i)) ∧ Below W.heap.size W w') :
    Calls Try.prog 20 #[.slice a L.length cap, .func (.func 25) #[] #[.pointer (some ⟨q, 0, none⟩)]] w fun e w' => e = .returned (.bool r) ∧ Below w.heap.size w w' := by
  have h1 := idx_sleast_any q a cap L p r hr n₀ h63 w hw hn₀ hc
  clear hr hc
  go_enter Try.func20, Try.ntmps20
  go_wp2_with fail
  with_reducible refine h1.mono ?_
  rintro e w' ⟨x, rfl, hb, hx⟩
  have HX := hide hx
  clear hx
  go_wp2_with fail
  go_ret
  exact ⟨ret_bool HX.out, hb⟩


set_option maxRecDepth 100000 in
set_option maxHeartbeats 1000000 in
theorem idx_slist_any (q : Nat) (a : Option Addr) (cap : Nat) (L : List Su) (p : Nat → Bool) (r : Bool) (hr : r = true ↔ AnyTo p L.length) (n₀ : Nat) (h63 : L.length ≤ 9223372036854775807) (w : World) (hw : OuterU n₀ w a L) (hn₀ : n₀ ≤ w.heap.size) (hc : ∀ i, i < L.length → ∀ W, Below w.heap.size w W → Calls Try.prog 21 #[(nthU L i).val, .pointer (some ⟨q, 0, none⟩)] W fun e w' => e = .returned (.bool (p i)) ∧ Below W.heap.size W w') :
    Calls Try.prog 31 #[.slice a L.length cap, .func (.func 21) #[] #[.pointer (some ⟨q, 0, none⟩)]] w fun e w' => ∃ x : Int, e = .returned (.int .i64 x) ∧ Below w.heap.size w w' ∧ decide (0 ≤ x) = r := by
  go_enter Try.func31, Try.ntmps31
  go_wp2
  go_loopw [8] (fun i wr => ∃ k : Nat, k ≤ L.length ∧ i = .int .i64 k ∧ Below w.heap.size w wr ∧ Hid (∀ j, j < k → p j = false)) (fun i _ => L.length - (intOf i).toNat)
  case atStart => exact ⟨0, Nat.zero_le _, rfl, Below.refl _ _, hide fun j hj => by omega⟩
  case round =>
    obtain ⟨k, hk, rfl, hB, HS⟩ := hrel
    by_cases hlt : k < L.length
    · obtain ⟨b, off, rfl, hb, hcc⟩ := (hw.below (hB.mono hn₀)).at hlt
      obtain ⟨ck, dk, fk⟩ := hcc k hlt
      have hck := hc k hlt wr hB
      have HN := hide (show ∀ j, j = k → p j = p k from fun j e => by rw [e])
      clear hcc hc
      obtain ⟨sk, ek⟩ : ∃ sk, nthU L k = sk := ⟨_, rfl⟩
      rw [ek] at ck dk fk hck
      clear ek
      obtain ⟨kk, dd, ak, qk, zk⟩ := sk
      unfold Su.val at hck
      dsimp only at ck dk fk hck
      have hbw : b < wr.heap.size := by have := hB.size; omega
      cases hu : p k with
      | true =>
        have HR := hide (hr.2 ⟨k, hlt, hu⟩)
        rw [hu] at hck
        clear hu hr
        go_wp2_with (go_at_call 21; with_reducible refine hck.mono ?_; rintro e w' ⟨rfl, hb1⟩)
        go_ret
        exact ⟨_, rfl, hB.trans (hb1.mono hB.size), by rw [HR.out]; simp⟩
      | false =>
        have HU := hide hu
        rw [hu] at hck
        clear hu
        go_wp2_with (go_at_call 21; with_reducible refine hck.mono ?_; rintro e w' ⟨rfl, hb1⟩)
        go_roundw
        case rel => exact ⟨k + 1, by omega, by go_num, hB.trans (hb1.mono hB.size), hide fun j hj => by
          by_cases e : j = k
          · rw [e]; exact HU.out
          · exact HS.out j (by omega)⟩
        case measure => simp [intOf]; omega
    · have HR : Hid (r = false) := hide (by
        rw [Bool.eq_false_iff]
        intro h
        exact anyTo_false (fun j hj => HS.out j (by omega)) (hr.1 h))
      go_wp2
      go_ret
      exact ⟨_, rfl, hB, by rw [HR.out]; rfl⟩
set_option maxHeartbeats 1000000 in
theorem con_slist_any (q : Nat) (a : Option Addr) (cap : Nat) (L : List Su) (p : Nat → Bool) (r : Bool) (hr : r = true ↔ AnyTo p L.length) (n₀ : Nat) (h63 : L.length ≤ 9223372036854775807) (w : World) (hw : OuterU n₀ w a L) (hn₀ : n₀ ≤ w.heap.size) (hc : ∀ i, i < L.length → ∀ W, Below w.heap.size w W → Calls Try.prog 21 #[(nthU L i).val, .pointer (some ⟨q, 0, none⟩)] W fun e w' => e = .returned (.bool (p i)) ∧ Below W.heap.size W w') :
    Calls Try.prog 20 #[.slice a L.length cap, .func (.func 21) #[] #[.pointer (some ⟨q, 0, none⟩)]] w fun e w' => e = .returned (.bool r) ∧ Below w.heap.size w w' := by
  have h1 := idx_slist_any q a cap L p r hr n₀ h63 w hw hn₀ hc
  clear hr hc
  go_enter Try.func20, Try.ntmps20
  go_wp2_with fail
  with_reducible refine h1.mono ?_
  rintro e w' ⟨x, rfl, hb, hx⟩
  have HX := hide hx
  clear hx
  go_wp2_with fail
  go_ret
  exact ⟨ret_bool HX.out, hb⟩


end Go.Proofs.Ytbnjbnjgfjpegaa
