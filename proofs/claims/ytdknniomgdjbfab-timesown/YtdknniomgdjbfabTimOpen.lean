/- The contracts of package times' Open and checkList, of slices' IndexFunc and ContainsFunc at their closures; and of the document's TimesOpen, TimesList. -/
import Derived.Test.YtdknniomgdjbfabTimFront
import Derived.Test.YtdknniomgdjbfabZList
namespace Go.Proofs.Ytdknniomgdjbfab
open Go.RowKit Go.Shelf

/-- the lists themselves -/
def zl (L : List Sl) : List (List Int) := L.map Sl.zs
theorem zl_len (L : List Sl) : (zl L).length = L.length := by unfold zl; simp
theorem zl_at {L : List Sl} {i : Nat} (h : i < L.length) : (zl L)[i]'(by rw [zl_len]; exact h) = (nth L i).zs := by
  unfold zl nth; simp [List.getD_eq_getElem?_getD, List.getElem?_eq_getElem h]
theorem mem_zl {L : List Sl} {t : List Int} : t ∈ zl L ↔ ∃ i, i < L.length ∧ (nth L i).zs = t := by
  unfold zl
  rw [List.mem_map]
  constructor
  · rintro ⟨s, hs, e⟩
    obtain ⟨i, hi, e'⟩ := mem_nth hs
    exact ⟨i, hi, by rw [e', e]⟩
  · rintro ⟨i, hi, e⟩
    exact ⟨nth L i, nth_mem hi, e⟩
/-- does one of the first k have p? -/
def AnyTo (p : Nat → Bool) (k : Nat) : Prop := ∃ i, i < k ∧ p i = true
theorem anyTo_false {p : Nat → Bool} {k : Nat} (h : ∀ j, j < k → p j = false) : ¬ AnyTo p k := fun ⟨i, hi, e⟩ => by rw [h i hi] at e; cases e
set_option maxRecDepth 100000 in
set_option maxHeartbeats 1000000 in
theorem idx_open_any (q : Nat) (a : Option Addr) (cap : Nat) (L : List Sl) (p : Nat → Bool) (r : Bool) (hr : r = true ↔ AnyTo p L.length) (n₀ : Nat) (h63 : L.length ≤ 9223372036854775807) (w : World) (hw : Outer n₀ w a L) (hn₀ : n₀ ≤ w.heap.size) (hc : ∀ i, i < L.length → ∀ W, Below w.heap.size w W → Calls Try.prog 24 #[slv (nth L i), .pointer (some ⟨q, 0, none⟩)] W fun e w' => e = .returned (.bool (p i)) ∧ Below W.heap.size W w') :
    Calls Try.prog 20 #[.slice a L.length cap, .func (.func 24) #[] #[.pointer (some ⟨q, 0, none⟩)]] w fun e w' => ∃ x : Int, e = .returned (.int .i64 x) ∧ Below w.heap.size w w' ∧ decide (0 ≤ x) = r := by
  go_enter Try.func20, Try.ntmps20
  go_wp2
  go_loopw [8] (fun i wr => ∃ k : Nat, k ≤ L.length ∧ i = .int .i64 k ∧ Below w.heap.size w wr ∧ Hid (∀ j, j < k → p j = false)) (fun i _ => L.length - (intOf i).toNat)
  case atStart => exact ⟨0, Nat.zero_le _, rfl, Below.refl _ _, hide fun j hj => by omega⟩
  case round =>
    obtain ⟨k, hk, rfl, hB, HS⟩ := hrel
    by_cases hlt : k < L.length
    · obtain ⟨b, off, rfl, hb, hcc⟩ := (hw.below (hB.mono hn₀)).at hlt
      have ck := hcc k hlt
      have hck := hc k hlt wr hB
      have HN := hide (show ∀ j, j = k → p j = p k from fun j e => by rw [e])
      clear hcc hc
      obtain ⟨sk, ek⟩ : ∃ sk, nth L k = sk := ⟨_, rfl⟩
      rw [ek] at ck hck
      clear ek
      obtain ⟨ak, qk, zk⟩ := sk
      unfold slv at ck hck
      dsimp only at ck hck
      cases hu : p k with
      | true =>
        have HR := hide (hr.2 ⟨k, hlt, hu⟩)
        rw [hu] at hck
        clear hu hr
        go_wp2_with (go_at_call 24; with_reducible refine hck.mono ?_; rintro e w' ⟨rfl, hb1⟩)
        go_ret
        exact ⟨_, rfl, hB.trans (hb1.mono hB.size), by rw [HR.out]; simp⟩
      | false =>
        have HU := hide hu
        rw [hu] at hck
        clear hu
        go_wp2_with (go_at_call 24; with_reducible refine hck.mono ?_; rintro e w' ⟨rfl, hb1⟩)
        go_roundw
        case rel => exact ⟨k + 1, by omega, by go_num, hB.trans (hb1.mono hB.size), hide fun j hj => by
          by_cases e : j = k
          · rw [e]; exact HU.out
          · exact HS.out j (by omega)⟩
        case measure => simp [intOf]; omega
    · have HR : Hid (r = false) := hide (by
        rw [Bool.eq_false_iff]
        intro h
        exact anyTo_false (fun j hj => HS.out j (by omega)) (hr.1 h))
      go_wp2
      go_ret
      exact ⟨_, rfl, hB, by rw [HR.out]; rfl⟩
set_option maxHeartbeats 1000000 in
theorem con_open_any (q : Nat) (a : Option Addr) (cap : Nat) (L : List Sl) (p : Nat → Bool) (r : Bool) (hr : r = true ↔ AnyTo p L.length) (n₀ : Nat) (h63 : L.length ≤ 9223372036854775807) (w : World) (hw : Outer n₀ w a L) (hn₀ : n₀ ≤ w.heap.size) (hc : ∀ i, i < L.length → ∀ W, Below w.heap.size w W → Calls Try.prog 24 #[slv (nth L i), .pointer (some ⟨q, 0, none⟩)] W fun e w' => e = .returned (.bool (p i)) ∧ Below W.heap.size W w') :
    Calls Try.prog 10 #[.slice a L.length cap, .func (.func 24) #[] #[.pointer (some ⟨q, 0, none⟩)]] w fun e w' => e = .returned (.bool r) ∧ Below w.heap.size w w' := by
  have h1 := idx_open_any q a cap L p r hr n₀ h63 w hw hn₀ hc
  clear hr hc
  go_enter Try.func10, Try.ntmps10
  go_wp2_with fail
  with_reducible refine h1.mono ?_
  rintro e w' ⟨x, rfl, hb, hx⟩
  have HX := hide hx
  clear hx
  go_wp2_with fail
  go_ret
  exact ⟨ret_bool HX.out, hb⟩

set_option maxRecDepth 100000 in
set_option maxHeartbeats 1000000 in
theorem idx_len_any (q : Nat) (a : Option Addr) (cap : Nat) (L : List Sl) (p : Nat → Bool) (r : Bool) (hr : r = true ↔ AnyTo p L.length) (n₀ : Nat) (h63 : L.length ≤ 9223372036854775807) (w : World) (hw : Outer n₀ w a L) (hn₀ : n₀ ≤ w.heap.size) (hc : ∀ i, i < L.length → ∀ W, Below w.heap.size w W → Calls Try.prog 11 #[slv (nth L i), .pointer (some ⟨q, 0, none⟩)] W fun e w' => e = .returned (.bool (p i)) ∧ Below W.heap.size W w') :
    Calls Try.prog 20 #[.slice a L.length cap, .func (.func 11) #[] #[.pointer (some ⟨q, 0, none⟩)]] w fun e w' => ∃ x : Int, e = .returned (.int .i64 x) ∧ Below w.heap.size w w' ∧ decide (0 ≤ x) = r := by
  go_enter Try.func20, Try.ntmps20
  go_wp2
  go_loopw [8] (fun i wr => ∃ k : Nat, k ≤ L.length ∧ i = .int .i64 k ∧ Below w.heap.size w wr ∧ Hid (∀ j, j < k → p j = false)) (fun i _ => L.length - (intOf i).toNat)
  case atStart => exact ⟨0, Nat.zero_le _, rfl, Below.refl _ _, hide fun j hj => by omega⟩
  case round =>
    obtain ⟨k, hk, rfl, hB, HS⟩ := hrel
    by_cases hlt : k < L.length
    · obtain ⟨b, off, rfl, hb, hcc⟩ := (hw.below (hB.mono hn₀)).at hlt
      have ck := hcc k hlt
      have hck := hc k hlt wr hB
      have HN := hide (show ∀ j, j = k → p j = p k from fun j e => by rw [e])
      clear hcc hc
      obtain ⟨sk, ek⟩ : ∃ sk, nth L k = sk := ⟨_, rfl⟩
      rw [ek] at ck hck
      clear ek
      obtain ⟨ak, qk, zk⟩ := sk
      unfold slv at ck hck
      dsimp only at ck hck
      cases hu : p k with
      | true =>
        have HR := hide (hr.2 ⟨k, hlt, hu⟩)
        rw [hu] at hck
        clear hu hr
        go_wp2_with (go_at_call 11; with_reducible refine hck.mono ?_; rintro e w' ⟨rfl, hb1⟩)
        go_ret
        exact ⟨_, rfl, hB.trans (hb1.mono hB.size), by rw [HR.out]; simp⟩
      | false =>
        have HU := hide hu
        rw [hu] at hck
        clear hu
        go_wp2_with (go_at_call 11; with_reducible refine hck.mono ?_; rintro e w' ⟨rfl, hb1⟩)
        go_roundw
        case rel => exact ⟨k + 1, by omega, by go_num, hB.trans (hb1.mono hB.size), hide fun j hj => by
          by_cases e : j = k
          · rw [e]; exact HU.out
          · exact HS.out j (by omega)⟩
        case measure => simp [intOf]; omega
    · have HR : Hid (r = false) := hide (by
        rw [Bool.eq_false_iff]
        intro h
        exact anyTo_false (fun j hj => HS.out j (by omega)) (hr.1 h))
      go_wp2
      go_ret
      exact ⟨_, rfl, hB, by rw [HR.out]; rfl⟩
set_option maxHeartbeats 1000000 in
theorem con_len_any (q : Nat) (a : Option Addr) (cap : Nat) (L : List Sl) (p : Nat → Bool) (r : Bool) (hr : r = true ↔ AnyTo p L.length) (n₀ : Nat) (h63 : L.length ≤ 9223372036854775807) (w : World) (hw : Outer n₀ w a L) (hn₀ : n₀ ≤ w.heap.size) (hc : ∀ i, i < L.length → ∀ W, Below w.heap.size w W → Calls Try.prog 11 #[slv (nth L i), .pointer (some ⟨q, 0, none⟩)] W fun e w' => e = .returned (.bool (p i)) ∧ Below W.heap.size W w') :
    Calls Try.prog 10 #[.slice a L.length cap, .func (.func 11) #[] #[.pointer (some ⟨q, 0, none⟩)]] w fun e w' => e = .returned (.bool r) ∧ Below w.heap.size w w' := by
  have h1 := idx_len_any q a cap L p r hr n₀ h63 w hw hn₀ hc
  clear hr hc
  go_enter Try.func10, Try.ntmps10
  go_wp2_with fail
  with_reducible refine h1.mono ?_
  rintro e w' ⟨x, rfl, hb, hx⟩
  have HX := hide hx
  clear hx
  go_wp2_with fail
  go_ret
  exact ⟨ret_bool HX.out, hb⟩

/-- a box that holds a slice -/
def BoxS (W : World) (q : Nat) (s : Sl) : Prop := W.cell? ⟨q, 0, none⟩ = some (slv s)
theorem BoxS.below {n : Nat} {A B : World} {q : Nat} {s : Sl} (h : BoxS A q s) (hb : Below n A B) (hq : q < n) : BoxS B q s := (hb.cell (p := ⟨q, 0, none⟩) hq).trans h
theorem box_new (w : World) (t : TypeId) (v : Value) : (w.alloc (.cells #[v] t)).cell? ⟨w.heap.size, 0, none⟩ = some v := (Row.new w t [v]).cell (i := 0) rfl

set_option maxHeartbeats 1000000 in
theorem open1_any (q : Nat) (s u : Sl) (n₀ : Nat) (hsl : s.zs.length ≤ 9223372036854775807) (hul : u.zs.length ≤ 9223372036854775807) (w : World) (hq : BoxS w q s) (hs : ZInts n₀ w s.a s.zs) (hu : ZInts n₀ w u.a u.zs) (hn₀ : n₀ ≤ w.heap.size) :
    Calls Try.prog 24 #[slv u, .pointer (some ⟨q, 0, none⟩)] w fun e w' => e = .returned (.bool (leqT u.zs s.zs)) ∧ Below w.heap.size w w' := by
  obtain ⟨a, ca, zs⟩ := s
  obtain ⟨b, cb, ys⟩ := u
  unfold BoxS at hq
  unfold slv at hq ⊢
  dsimp only at *
  have h1 := tleq_any b cb ys a ca zs n₀ hul hsl w hu hs hn₀
  go_enter Try.func24, Try.ntmps24
  go_wp2_with fail
  with_reducible refine h1.mono ?_
  rintro e w' ⟨rfl, hb⟩
  go_wp2_with fail
  go_ret
  exact ⟨rfl, hb⟩
theorem openB_any {L : List Sl} {t : List Int} : openB (zl L) t = true ↔ AnyTo (fun i => leqT (nth L i).zs t) L.length := by
  rw [openB_true]
  constructor
  · rintro ⟨u, hu, h⟩
    obtain ⟨i, hi, e⟩ := mem_zl.1 hu
    exact ⟨i, hi, by show leqT (nth L i).zs t = true; rw [e]; exact h⟩
  · rintro ⟨i, hi, h⟩
    exact ⟨_, mem_zl.2 ⟨i, hi, rfl⟩, h⟩
set_option maxRecDepth 100000 in
set_option maxHeartbeats 1000000 in
theorem topen_any (a : Option Addr) (cap : Nat) (L : List Sl) (b : Option Addr) (cb : Nat) (ys : List Int) (n₀ : Nat) (h63 : L.length ≤ 9223372036854775807) (h64 : ys.length ≤ 9223372036854775807) (w : World) (hw : ZLists n₀ w a L) (hy : ZInts n₀ w b ys) (hn₀ : n₀ ≤ w.heap.size) :
    Calls Try.prog 16 #[.slice a L.length cap, .slice b ys.length cb] w fun e w' => e = .returned (.bool (openB (zl L) ys)) ∧ Below w.heap.size w w' := by
  have hb0 : Below w.heap.size w (w.alloc (.cells #[.slice b ys.length cb] 23)) := (Below.refl _ _).alloc (Nat.le_refl _) _
  have h1 := con_open_any w.heap.size a cap L (fun i => leqT (nth L i).zs ys) (openB (zl L) ys) openB_any n₀ h63 _ (hw.outer.below (hb0.mono hn₀)) (by simp; omega) (fun i hi W hW => open1_any w.heap.size ⟨b, cb, ys⟩ (nth L i) n₀ h64 (hw.inner i hi).2 W (BoxS.below (box_new w _ _) hW (by simp)) ((hy.below (hb0.mono hn₀)).below (hW.mono (by simp; omega))) (((hw.inner i hi).1.below (hb0.mono hn₀)).below (hW.mono (by simp; omega))) (by have := hW.size; simp at this; omega))
  have HB := hide hb0
  clear hb0
  generalize openB (zl L) ys = r at *
  go_enter Try.func16, Try.ntmps16
  go_wp2_with fail
  with_reducible refine h1.mono ?_
  rintro e w' ⟨rfl, hb⟩
  go_wp2_with fail
  go_ret
  exact ⟨rfl, HB.out.trans (hb.mono (by simp))⟩
set_option maxHeartbeats 1000000 in
theorem len1_any (q : Nat) (a : Option Addr) (cap : Nat) (L : List Sl) (i : Nat) (hi : i < L.length) (n₀ : Nat) (w : World) (hq : w.cell? ⟨q, 0, none⟩ = some (.slice a L.length cap)) (hw : Outer n₀ w a L) :
    Calls Try.prog 11 #[slv (nth L i), .pointer (some ⟨q, 0, none⟩)] w fun e w' => e = .returned (.bool (decide ((nth L i).zs.length ≠ (nth L 0).zs.length))) ∧ w' = w := by
  obtain ⟨b, off, rfl, hb, hcc⟩ := hw.at hi
  have c0 := hcc 0 (by omega)
  have hL : 0 < L.length := by omega
  rw [Nat.add_zero] at c0
  clear hcc
  obtain ⟨s0, e0⟩ : ∃ s0, nth L 0 = s0 := ⟨_, rfl⟩
  obtain ⟨si, ei⟩ : ∃ si, nth L i = si := ⟨_, rfl⟩
  rw [ei, e0]
  rw [e0] at c0
  clear e0 ei
  obtain ⟨a0, q0, z0⟩ := s0
  obtain ⟨ai, qi, zi⟩ := si
  unfold slv at c0 ⊢
  dsimp only at c0 ⊢
  have HE : Hid (((zi.length : Int) != (z0.length : Int)) = decide (zi.length ≠ z0.length)) := hide (by rw [Bool.eq_iff_iff, bne_iff_ne, decide_eq_true_iff]; omega)
  go_enter Try.func11, Try.ntmps11
  go_wp2
  go_ret
  exact ⟨ret_bool HE.out, rfl⟩
theorem lens_any {L : List Sl} {b : Bool} (hb : b = !lensB (zl L)) : b = true ↔ AnyTo (fun i => decide ((nth L i).zs.length ≠ (nth L 0).zs.length)) L.length := by
  have hh : ∀ i, i < L.length → ((zl L).headD []).length = (nth L 0).zs.length := fun i hi => by
    cases L with
    | nil => simp at hi
    | cons s l => rfl
  subst hb
  rw [Bool.not_eq_true', lensB_false]
  constructor
  · intro h
    apply Classical.byContradiction
    intro hno
    apply h
    intro t ht
    obtain ⟨i, hi, e⟩ := mem_zl.1 ht
    rw [hh i hi, ← e]
    apply Decidable.byContradiction
    intro hne
    exact hno ⟨i, hi, by simpa using hne⟩
  · rintro ⟨i, hi, h⟩ hL
    have := hL _ (mem_zl.2 ⟨i, hi, rfl⟩)
    rw [hh i hi] at this
    simp at h
    exact h this

theorem firstC_zl {L : List Sl} {k : Nat} (hk : k < L.length) (h : ∀ j, j < k → codeT (nth L j).zs = 0) (hne : codeT (nth L k).zs ≠ 0) : firstC (zl L) = codeT (nth L k).zs := by
  have := firstC_at (l := zl L) (k := k) (by rw [zl_len]; exact hk) (fun j hj => by rw [zl_at (by omega)]; exact h j hj) (by rw [zl_at hk]; exact hne)
  rw [this, zl_at hk]
theorem firstC_all {L : List Sl} (h : ∀ j, j < L.length → codeT (nth L j).zs = 0) : firstC (zl L) = 0 := firstC_ok fun t ht => by
  obtain ⟨i, hi, e⟩ := mem_zl.1 ht
  rw [← e]; exact h i hi
set_option maxRecDepth 100000 in
set_option maxHeartbeats 2000000 in
theorem tlist_any (a : Option Addr) (cap : Nat) (L : List Sl) (n₀ : Nat) (h63 : L.length ≤ 9223372036854775807) (w : World) (hw : ZLists n₀ w a L) (hn₀ : n₀ ≤ w.heap.size) :
    Calls Try.prog 6 #[.slice a L.length cap] w fun e w' => e = .returned (.int .i64 (codeL (zl L))) ∧ Below w.heap.size w w' := by
  have hb0 : Below w.heap.size w (w.alloc (.cells #[.slice a L.length cap] 22)) := (Below.refl _ _).alloc (Nat.le_refl _) _
  have hw1 := hw.below (hb0.mono hn₀)
  have c0 := box_new w 22 (.slice a L.length cap)
  have h1 := con_len_any w.heap.size a cap L (fun i => decide ((nth L i).zs.length ≠ (nth L 0).zs.length)) (!lensB (zl L)) (lens_any rfl) n₀ h63 _ hw1.outer (by simp; omega) (fun i hi W hW => (len1_any w.heap.size a cap L i hi n₀ W ((hW.cell (p := ⟨w.heap.size, 0, none⟩) (by simp)).trans c0) (hw1.outer.below (hW.mono (by simp; omega)))).mono fun e w' ⟨h1, h2⟩ => ⟨h1, by rw [h2]; exact Below.refl _ _⟩)
  have HB := hide hb0
  clear hb0
  by_cases hl : 64 < L.length
  · have HC := hide (codeL_large (ls := zl L) (by rw [zl_len]; exact hl))
    clear h1
    go_enter Try.func6, Try.ntmps6
    go_wp2_with fail
    go_ret
    exact ⟨ret_int HC.out.symm, HB.out⟩
  · have l64 : L.length ≤ 64 := by omega
    have d1 : decide ((64 : Int) < (L.length : Int)) = false := decide_eq_false (by omega)
    have HL := hide (show ¬ 64 < (zl L).length by rw [zl_len]; exact hl)
    clear hl
    go_enter Try.func6, Try.ntmps6
    go_wp2_with fail
    go_loop [11] (fun i => ∃ k : Nat, k ≤ L.length ∧ i = .int .i64 k ∧ Hid (∀ j, j < k → codeT (nth L j).zs = 0)) (fun i => L.length - (intOf i).toNat)
    case atStart => exact ⟨0, Nat.zero_le _, rfl, hide fun j hj => by omega⟩
    case round =>
      obtain ⟨k, hk, rfl, HS⟩ := hrel
      by_cases hlt : k < L.length
      · obtain ⟨bo, off, rfl, hb, hcc⟩ := hw1.outer.at hlt
        have ck := hcc k hlt
        obtain ⟨iz, il⟩ := hw1.inner k hlt
        have HN := hide (show ∀ c, codeT (nth L k).zs = c → c ≠ 0 → codeL (zl L) = c from fun c e h => by
          have h2 := firstC_zl hlt HS.out (by rw [e]; exact h)
          rw [codeL_first HL.out (by rw [h2, e]; exact h), h2, e])
        have HU := hide (show codeT (nth L k).zs = 0 → ∀ j, j < k + 1 → codeT (nth L j).zs = 0 from fun h j hj => by
          by_cases ej : j = k
          · rw [ej]; exact h
          · exact HS.out j (by omega))
        obtain ⟨sk, ek⟩ : ∃ sk, nth L k = sk := ⟨_, rfl⟩
        rw [ek] at ck iz il HN HU
        clear hcc ek h1
        obtain ⟨ak, qk, zk⟩ := sk
        unfold slv at ck
        dsimp only at ck iz il HN HU
        have hck := tcheck_any ak qk zk n₀ il _ iz
        by_cases hz : codeT zk = 0
        · have HF := hide (HU.out hz)
          rw [hz] at hck
          clear hz HN HU
          go_wp2_with (go_at_call 9; with_reducible refine hck.mono ?_; rintro e w' ⟨rfl, hww⟩; rw [hww]; clear hww w')
          go_round
          case rel => exact ⟨k + 1, by omega, by go_num, HF⟩
          case measure => simp [intOf]; omega
        · have HF := hide (HN.out _ rfl hz)
          have e1 : (codeT zk != 0) = true := by rw [bne_iff_ne]; exact hz
          clear hz HN HU
          generalize codeT zk = c at *
          go_wp2_with (go_at_call 9; with_reducible refine hck.mono ?_; rintro e w' ⟨rfl, hww⟩; rw [hww]; clear hww w')
          go_ret
          exact ⟨ret_int HF.out.symm, HB.out⟩
      · have HF := hide (firstC_all (L := L) fun j hj => HS.out j (by omega))
        cases hlb : lensB (zl L) with
        | true =>
          have HC := hide (codeL_ok HL.out HF.out hlb)
          rw [hlb] at h1
          clear hlb
          go_wp2_with fail
          with_reducible refine h1.mono ?_
          rintro e w' ⟨rfl, hb⟩
          go_wp2_with fail
          go_ret
          exact ⟨ret_int HC.out.symm, HB.out.trans (hb.mono (by simp))⟩
        | false =>
          have HC := hide (codeL_form HL.out HF.out hlb)
          rw [hlb] at h1
          clear hlb
          go_wp2_with fail
          with_reducible refine h1.mono ?_
          rintro e w' ⟨rfl, hb⟩
          go_wp2_with fail
          go_ret
          exact ⟨ret_int HC.out.symm, HB.out.trans (hb.mono (by simp))⟩
end Go.Proofs.Ytdknniomgdjbfab
