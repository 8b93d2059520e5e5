/- Package summary's checkList and Front. -/
import Derived.Test.YtbnjbnjgfjpegaaSumLeastAny
import Derived.Lib.QuietBelow
import Derived.BigQuiet
namespace Go.Proofs.Ytbnjbnjgfjpegaa
open Go.RowKit Go.Shelf

/-- what is wrong with the first one with which something is -/
def firstM : List Sm → Int
  | [] => 0
  | t :: l => if codeS t 4 = 0 then firstM l else codeS t 4
theorem firstM_ok : ∀ {l : List Sm}, (∀ t ∈ l, codeS t 4 = 0) → firstM l = 0
  | [], _ => rfl
  | t :: l, h => by unfold firstM; rw [if_pos (h t (by simp))]; exact firstM_ok fun u hu => h u (List.mem_cons_of_mem _ hu)
theorem firstM_zero : ∀ {l : List Sm}, firstM l = 0 → ∀ t ∈ l, codeS t 4 = 0
  | [], _, t, ht => by simp at ht
  | u :: l, h, t, ht => by
    unfold firstM at h
    by_cases e : codeS u 4 = 0
    · rw [if_pos e] at h
      rcases List.mem_cons.1 ht with rfl | h'
      · exact e
      · exact firstM_zero h t h'
    · rw [if_neg e] at h; exact absurd h e
theorem firstM_at : ∀ {l : List Sm} {k : Nat} (hk : k < l.length), (∀ j, (hj : j < k) → codeS (l[j]'(by omega)) 4 = 0) → codeS l[k] 4 ≠ 0 → firstM l = codeS l[k] 4
  | t :: l, 0, _, _, h => by
    have h' : codeS t 4 ≠ 0 := h
    unfold firstM; rw [if_neg h']; rfl
  | t :: l, k + 1, hk, h, h' => by
    have h0 : codeS t 4 = 0 := h 0 (by omega)
    unfold firstM; rw [if_pos h0]
    exact firstM_at (l := l) (k := k) (by simpa using hk) (fun j hj => h (j + 1) (by omega)) h'
def OutsM (ls : List Sm) : Prop := ∀ t ∈ ls, t.out = (ls.headD ⟨0, 0, []⟩).out
def decOutsM (ls : List Sm) : Decidable (OutsM ls) := by unfold OutsM; infer_instance
def outsB (ls : List Sm) : Bool := @decide (OutsM ls) (decOutsM ls)
theorem outsB_true {ls : List Sm} : outsB ls = true ↔ OutsM ls := by unfold outsB; exact @decide_eq_true_iff _ (decOutsM ls)
theorem outsB_false {ls : List Sm} : outsB ls = false ↔ ¬ OutsM ls := by unfold outsB; exact @decide_eq_false_iff_not _ (decOutsM ls)
/-- what is wrong with a list of summaries -/
def codeM (ls : List Sm) : Int := if 64 < ls.length then 1 else if firstM ls ≠ 0 then firstM ls else if outsB ls then 0 else 3
theorem codeM_large {ls : List Sm} (h : 64 < ls.length) : codeM ls = 1 := if_pos h
theorem codeM_first {ls : List Sm} (h : ¬ 64 < ls.length) (h2 : firstM ls ≠ 0) : codeM ls = firstM ls := by unfold codeM; rw [if_neg h, if_pos h2]
theorem codeM_form {ls : List Sm} (h : ¬ 64 < ls.length) (h2 : firstM ls = 0) (h3 : outsB ls = false) : codeM ls = 3 := by unfold codeM; rw [if_neg h, if_neg (fun e => e h2), h3]; rfl
theorem codeM_ok {ls : List Sm} (h : ¬ 64 < ls.length) (h2 : firstM ls = 0) (h3 : outsB ls = true) : codeM ls = 0 := by unfold codeM; rw [if_neg h, if_neg (fun e => e h2), h3]; rfl
theorem codeM_zero {ls : List Sm} (h : codeM ls = 0) : ls.length ≤ 64 ∧ (∀ t ∈ ls, codeS t 4 = 0) ∧ OutsM ls := by
  by_cases h1 : 64 < ls.length
  · rw [codeM_large h1] at h; exact absurd h (by decide)
  by_cases h2 : firstM ls = 0
  · cases h3 : outsB ls
    · rw [codeM_form h1 h2 h3] at h; exact absurd h (by decide)
    · exact ⟨by omega, firstM_zero h2, outsB_true.1 h3⟩
  · rw [codeM_first h1 h2] at h; exact absurd h h2
theorem outs_any {L : List Su} {b : Bool} (hb : b = !outsB (sl L)) : b = true ↔ AnyTo (fun i => decide ((nthU L i).sm.out ≠ (nthU L 0).sm.out)) L.length := by
  have hh : ∀ i, i < L.length → ((sl L).headD ⟨0, 0, []⟩).out = (nthU L 0).sm.out := fun i hi => by
    cases L with
    | nil => simp at hi
    | cons s l => rfl
  subst hb
  rw [Bool.not_eq_true', outsB_false]
  constructor
  · intro h
    apply Classical.byContradiction
    intro hno
    apply h
    intro t ht
    obtain ⟨i, hi, e⟩ := mem_sl.1 ht
    rw [hh i hi, ← e]
    apply Decidable.byContradiction
    intro hne
    exact hno ⟨i, hi, by simpa using hne⟩
  · rintro ⟨i, hi, h⟩ hL
    have := hL _ (mem_sl.2 ⟨i, hi, rfl⟩)
    rw [hh i hi] at this
    simp at h
    exact h this

set_option maxRecDepth 100000 in
set_option maxHeartbeats 1000000 in
theorem slist1_any (q : Nat) (a : Option Addr) (cap : Nat) (L : List Su) (i : Nat) (hi : i < L.length) (hg : ∀ j, j < L.length → codeS (nthU L j).sm 4 = 0) (n₀ : Nat) (w : World) (hq : w.cell? ⟨q, 0, none⟩ = some (.slice a L.length cap)) (hw : OuterU n₀ w a L) (hn₀ : n₀ ≤ w.heap.size) :
    Calls Try.prog 21 #[(nthU L i).val, .pointer (some ⟨q, 0, none⟩)] w fun e w' => e = .returned (.bool (decide ((nthU L i).sm.out ≠ (nthU L 0).sm.out))) ∧ Below w.heap.size w w' := by
  obtain ⟨b, off, rfl, hb, hcc⟩ := hw.at hi
  obtain ⟨c0, c1, c2⟩ := hcc 0 (by omega)
  have hL : 0 < L.length := by omega
  have g1 := good_of (n := 4) (hg i hi)
  have g0 := good_of (n := 4) (hg 0 hL)
  clear hcc hw hg
  obtain ⟨s0, e0⟩ : ∃ s0, nthU L 0 = s0 := ⟨_, rfl⟩
  obtain ⟨si, ei⟩ : ∃ si, nthU L i = si := ⟨_, rfl⟩
  rw [ei, e0]
  rw [ei] at g1
  rw [e0] at c0 c1 c2 g0
  clear e0 ei
  obtain ⟨k0, d0, a0, q0, z0⟩ := s0
  obtain ⟨k1, d1, a1, q1, z1⟩ := si
  unfold Su.val
  unfold Su.sm at g0 g1 ⊢
  dsimp only at c0 c1 c2 g0 g1 ⊢
  have o0 := g0.out4
  have o1 := g1.out4
  have ko0 : 1 ≤ k0 ∧ k0 ≤ 4 := ⟨g0.k1, by have h := g0.o4; dsimp only at h; omega⟩
  have ko1 : 1 ≤ k1 ∧ k1 ≤ 4 := ⟨g1.k1, by have h := g1.o4; dsimp only at h; omega⟩
  have l0 : z0.length ≤ 17592186044416 := by have h := g0.o4; dsimp only at h; omega
  have l1 : z1.length ≤ 17592186044416 := by have h := g1.o4; dsimp only at h; omega
  obtain ⟨x0, hx0⟩ : ∃ x, k0 + (z0.length : Int) = x := ⟨_, rfl⟩
  obtain ⟨x1, hx1⟩ : ∃ x, k1 + (z1.length : Int) = x := ⟨_, rfl⟩
  have HE : Hid ((x1 != x0) = decide ((Sm.mk k1 d1 z1).out ≠ (Sm.mk k0 d0 z0).out)) := hide (by
    have e0 := o0.2.2.1
    have e1 := o1.2.2.1
    dsimp only at e0 e1
    rw [Bool.eq_iff_iff, bne_iff_ne, decide_eq_true_iff]; omega)
  obtain ⟨w1, hw1⟩ : ∃ V, w.alloc (.cells #[.int .i64 k1, .int .i64 d1, .slice a1 z1.length q1] 32) = V := ⟨_, rfl⟩
  have hb1 : Below w.heap.size w w1 := hw1 ▸ (Below.refl _ _).alloc (Nat.le_refl _) _
  have r1 : Row w1 w.heap.size 32 [.int .i64 k1, .int .i64 d1, .slice a1 z1.length q1] := by subst hw1; exact Row.new w _ [.int .i64 k1, .int .i64 d1, .slice a1 z1.length q1]
  have hbs : b < w.heap.size := by omega
  have m1 := fun dr os => smakes_re k1 d1 a1 q1 z1 ko1 l1 x1 hx1 w1 dr os
  have m0 := fun dr os => smakes_re k0 d0 a0 q0 z0 ko0 l0 x0 hx0 w1 dr os
  have f0 := cell_regrown ((hb1.cell (p := ⟨b, off + 0 * 3, none⟩) hbs).trans c0)
  have f1 := cell_regrown ((hb1.cell (p := ⟨b, off + 0 * 3 + 1, none⟩) hbs).trans c1)
  have f2 := cell_regrown ((hb1.cell (p := ⟨b, off + 0 * 3 + 2, none⟩) hbs).trans c2)
  have fq := cell_regrown ((hb1.cell (p := ⟨q, 0, none⟩) (World.block_lt_of_cell? _ _ hq)).trans hq)
  have h0 := cell_regrown (r1.cell (i := 0) rfl)
  have h1 := cell_regrown (r1.cell (i := 1) rfl)
  have h2 := cell_regrown (r1.cell (i := 2) rfl)
  rw [Nat.zero_mul, Nat.add_zero] at f0 f1 f2
  clear g0 g1 o0 o1 hx0 hx1 c0 c1 c2 hq
  go_enter Try.func21, Try.ntmps21
  go_wp2_with fail
  refine wp_region_quiet_below (by kernel_rfl) (by kernel_rfl) ?_
  repeat (go_big_quiet_step (first | with_reducible exact m1 _ _ | with_reducible exact m0 _ _))
  refine wpQuiet_nil ?_
  intro _ hw'
  obtain ⟨⟨dq, osq⟩, hw''⟩ := hw'
  subst hw''
  have hbk := hb1.trans ((below_regrown w1 dq osq).mono hb1.size)
  clear f0 f1 f2 fq h0 h1 h2 m0 m1
  go_wp2_with fail
  go_ret
  exact ⟨ret_bool HE.out, hbk⟩
theorem box_newU (w : World) (t : TypeId) (v : Value) : (w.alloc (.cells #[v] t)).cell? ⟨w.heap.size, 0, none⟩ = some v := (Row.new w t [v]).cell (i := 0) rfl
theorem firstM_sl {L : List Su} {k : Nat} (hk : k < L.length) (h : ∀ j, j < k → codeS (nthU L j).sm 4 = 0) (hne : codeS (nthU L k).sm 4 ≠ 0) : firstM (sl L) = codeS (nthU L k).sm 4 := by
  have := firstM_at (l := sl L) (k := k) (by rw [sl_len]; exact hk) (fun j hj => by rw [sl_at (by omega)]; exact h j hj) (by rw [sl_at hk]; exact hne)
  rw [this, sl_at hk]
theorem firstM_all {L : List Su} (h : ∀ j, j < L.length → codeS (nthU L j).sm 4 = 0) : firstM (sl L) = 0 := firstM_ok fun t ht => by
  obtain ⟨i, hi, e⟩ := mem_sl.1 ht
  rw [← e]; exact h i hi
set_option maxRecDepth 100000 in
set_option maxHeartbeats 2000000 in
theorem slistc_any (a : Option Addr) (cap : Nat) (L : List Su) (n₀ : Nat) (h63 : L.length ≤ 9223372036854775807) (w : World) (hO : OuterU n₀ w a L) (hI : InnerU n₀ w L) (hn₀ : n₀ ≤ w.heap.size) :
    Calls Try.prog 10 #[.slice a L.length cap] w fun e w' => e = .returned (.int .i64 (codeM (sl L))) ∧ Below w.heap.size w w' := by
  obtain ⟨w1, hw1⟩ : ∃ V, w.alloc (.cells #[.slice a L.length cap] 22) = V := ⟨_, rfl⟩
  have hb1 : Below w.heap.size w w1 := hw1 ▸ (Below.refl _ _).alloc (Nat.le_refl _) _
  have hs1 := hb1.size
  have lq : w.heap.size < w1.heap.size := by rw [← hw1]; simp
  have c0 : w1.cell? ⟨w.heap.size, 0, none⟩ = some (.slice a L.length cap) := by rw [← hw1]; exact box_newU w _ _
  have hO1 := hO.below (hb1.mono hn₀)
  have hI1 := hI.below (hb1.mono hn₀)
  have HW := hide hw1
  by_cases hl : 64 < L.length
  · have HC := hide (codeM_large (ls := sl L) (by rw [sl_len]; exact hl))
    go_enter Try.func10, Try.ntmps10
    go_wp2_with fail
    go_ret
    exact ⟨ret_int HC.out.symm, hb1⟩
  · have d1 : decide ((64 : Int) < (L.length : Int)) = false := decide_eq_false (by omega)
    have HL := hide (show ¬ 64 < (sl L).length by rw [sl_len]; exact hl)
    have l64 : L.length ≤ 64 := by omega
    clear hl
    go_enter Try.func10, Try.ntmps10
    go_wp2_with fail
    go_loopw [11] (fun i wr => ∃ k : Nat, k ≤ L.length ∧ i = .int .i64 k ∧ Below w1.heap.size w1 wr ∧ Hid (∀ j, j < k → codeS (nthU L j).sm 4 = 0)) (fun i _ => L.length - (intOf i).toNat)
    case atStart => exact ⟨0, Nat.zero_le _, rfl, Below.refl _ _, hide fun j hj => by omega⟩
    case round =>
      obtain ⟨k, hk, rfl, hB, HS⟩ := hrel
      have hsB := hB.size
      have hBw := hb1.trans (hB.mono hs1)
      have cq : wr.cell? ⟨w.heap.size, 0, none⟩ = some (.slice a L.length cap) := (hB.cell (p := ⟨w.heap.size, 0, none⟩) lq).trans c0
      have hOr := hO1.below (hB.mono (by omega))
      have hIr := hI1.below (hB.mono (by omega))
      by_cases hlt : k < L.length
      · obtain ⟨bo, off, rfl, hb, hcc⟩ := hOr.at hlt
        obtain ⟨ck, dk, fk⟩ := hcc k hlt
        obtain ⟨iz, il, _⟩ := hIr k hlt
        have HN := hide (show ∀ c, codeS (nthU L k).sm 4 = c → c ≠ 0 → codeM (sl L) = c from fun c e h => by
          have h2 := firstM_sl hlt HS.out (by rw [e]; exact h)
          rw [codeM_first HL.out (by rw [h2, e]; exact h), h2, e])
        have HU := hide (show codeS (nthU L k).sm 4 = 0 → ∀ j, j < k + 1 → codeS (nthU L j).sm 4 = 0 from fun h j hj => by
          by_cases ej : j = k
          · rw [ej]; exact h
          · exact HS.out j (by omega))
        obtain ⟨sk, ek⟩ : ∃ sk, nthU L k = sk := ⟨_, rfl⟩
        rw [ek] at ck dk fk iz il HN HU
        clear hcc ek hO hO1
        obtain ⟨kk, dd, ak, qk, zk⟩ := sk
        unfold Su.sm at HN HU
        dsimp only at ck dk fk iz il HN HU
        have hbo : bo < wr.heap.size := by omega
        obtain ⟨w3, hw3⟩ : ∃ V, wr.alloc (.cells #[.int .i64 kk, .int .i64 dd, .slice ak zk.length qk] 32) = V := ⟨_, rfl⟩
        have hb3 : Below wr.heap.size wr w3 := hw3 ▸ (Below.refl _ _).alloc (Nat.le_refl _) _
        have hs3 := hb3.size
        have hck := scheck_any kk dd ak qk zk 4 n₀ il w3 (iz.below (hb3.mono (by omega))) (by omega)
        have r3 : Row w3 wr.heap.size 32 [.int .i64 kk, .int .i64 dd, .slice ak zk.length qk] := by subst hw3; exact Row.new wr _ [.int .i64 kk, .int .i64 dd, .slice ak zk.length qk]
        have t0 := r3.cell (i := 0) rfl
        have t1 := r3.cell (i := 1) rfl
        have t2 := r3.cell (i := 2) rfl
        have lt3 := r3.lt
        have HW3 := hide hw3
        by_cases hz : codeS ⟨kk, dd, zk⟩ 4 = 0
        · have HF := hide (HU.out hz)
          rw [hz] at hck
          clear hz HN HU
          go_wp2_with fail
          with_reducible refine hck.mono ?_
          rintro e w4 ⟨rfl, hb4⟩
          go_wp2_with fail
          go_roundw
          case rel => exact ⟨k + 1, by omega, by go_num, (hB.trans (hb3.mono hsB)).trans (hb4.mono (by omega)), HF⟩
          case measure => simp [intOf]; omega
        · have HF := hide (HN.out _ rfl hz)
          have e1 : (codeS ⟨kk, dd, zk⟩ 4 != 0) = true := by rw [bne_iff_ne]; exact hz
          clear hz HN HU
          generalize codeS ⟨kk, dd, zk⟩ 4 = c at *
          go_wp2_with fail
          with_reducible refine hck.mono ?_
          rintro e w4 ⟨rfl, hb4⟩
          go_wp2_with fail
          go_ret
          exact ⟨ret_int HF.out.symm, (hBw.trans (hb3.mono hBw.size)).trans (hb4.mono (by omega))⟩
      · have hgood : ∀ j, j < L.length → codeS (nthU L j).sm 4 = 0 := fun j hj => HS.out j (by omega)
        have HF := hide (firstM_all hgood)
        have hcon := con_slist_any w.heap.size a cap L (fun i => decide ((nthU L i).sm.out ≠ (nthU L 0).sm.out)) (!outsB (sl L)) (outs_any rfl) n₀ h63 wr hOr (by omega) (fun i hi W hW => slist1_any w.heap.size a cap L i hi hgood n₀ W ((hW.cell (p := ⟨w.heap.size, 0, none⟩) (show w.heap.size < wr.heap.size by omega)).trans cq) (hOr.below (hW.mono (by omega))) (by have := hW.size; omega))
        clear hgood
        cases hlb : outsB (sl L) with
        | true =>
          have HC := hide (codeM_ok HL.out HF.out hlb)
          rw [hlb] at hcon
          clear hlb
          go_wp2_with fail
          with_reducible refine hcon.mono ?_
          rintro e w' ⟨rfl, hb⟩
          go_wp2_with fail
          go_ret
          exact ⟨ret_int HC.out.symm, hBw.trans (hb.mono hBw.size)⟩
        | false =>
          have HC := hide (codeM_form HL.out HF.out hlb)
          rw [hlb] at hcon
          clear hlb
          go_wp2_with fail
          with_reducible refine hcon.mono ?_
          rintro e w' ⟨rfl, hb⟩
          go_wp2_with fail
          go_ret
          exact ⟨ret_int HC.out.symm, hBw.trans (hb.mono hBw.size)⟩
end Go.Proofs.Ytbnjbnjgfjpegaa
