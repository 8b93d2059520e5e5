/- Package mobius: the product of two squares. -/
import Derived.Test.YtekpielpfegclabDoorMobSum
namespace Go.Proofs.YtekpielpfegclabDoor
open Go.RowKit Go.Shelf

theorem cell_keep {A B : World} {b i : Nat} {v : Value} (hb : Below A.heap.size A B) (h : A.cell? ⟨b, i, none⟩ = some v) : B.cell? ⟨b, i, none⟩ = some v := (hb.cell (p := ⟨b, i, none⟩) (World.block_lt_of_cell? _ _ h)).trans h
theorem cell_grown {A B : World} {p b i : Nat} {v : Value} (hg : A.grownBy B (some p)) (hne : b ≠ p) (h : A.cell? ⟨b, i, none⟩ = some v) : B.cell? ⟨b, i, none⟩ = some v := by
  have := hg.block b (World.block_lt_of_cell? _ _ h) (fun e => hne (by cases e; rfl))
  unfold World.cell? at *; rw [this]; exact h
theorem Row.keep {A B : World} {b : Nat} {t : TypeId} {vs : List Value} (h : Row A b t vs) (hb : Below A.heap.size A B) : Row B b t vs := row_below h hb h.lt
/-- two rows that stay, and one that is the one or the other -/
structure PR (s t p : Nat) (ty : TypeId) (S T P0 P1 : List B64) (V : World) : Prop where
  s : Row V s ty (bvals S)
  t : Row V t ty (bvals T)
  p : Row V p ty (bvals P0) ∨ Row V p ty (bvals P1)
theorem PR.keep {s t p : Nat} {ty : TypeId} {S T P0 P1 : List B64} {A B : World} (h : PR s t p ty S T P0 P1 A) (hb : Below A.heap.size A B) : PR s t p ty S T P0 P1 B :=
  ⟨Row.keep h.s hb, Row.keep h.t hb, h.p.imp (fun x => x.keep hb) (fun x => x.keep hb)⟩
theorem PR.grown {s t p : Nat} {ty : TypeId} {S T P0 P1 : List B64} {A B : World} (h : PR s t p ty S T P0 P1 A) (hg : A.grownBy B (some p)) (hs : s ≠ p) (ht : t ≠ p) (hr : Row B p ty (bvals P1)) : PR s t p ty S T P0 P1 B :=
  ⟨h.s.kept hg (fun e => hs (by cases e; rfl)), h.t.kept hg (fun e => ht (by cases e; rfl)), .inr hr⟩
theorem spl_spl {T : List B64} {off : Nat} {R : List B64} (h : off + R.length ≤ T.length) : spl (spl T off R) off R = spl T off R := by
  refine bd_ext (by rw [spl_len (by rw [spl_len h]; exact h)]) fun j _ => ?_
  rw [bd_spl (by rw [spl_len h]; exact h), bd_spl h]
  split <;> rfl
/-- copy of a whole list into a part of a block, at a step of a region that draws its order -/
theorem step_copy_b {P : Program} {ops : Array Oper} {o : Oper} {a : Act} {w : World} {K : Act → World → Prop} {Q : Exit → Act → World → Prop} {E : Prop} (hgd : o.guard = none) (d s : Operand) (dT sT : TypeId)
    (ho : o.op = .call { callee := .builtin .copy, args := #[d, s], argTypes := #[dT, sT] }) (elem : TypeId) (hu : P.underlying dT = some (.slice elem)) (hsz : (P.info? elem).map (·.size) = some 1)
    (m dCap sCap : Nat) (g off q : Nat) (hd : a.eval d = .slice (some ⟨g, off, none⟩) m dCap) (hs : a.eval s = .slice (some ⟨q, 0, none⟩) m sCap)
    (T : List B64) (t : TypeId) (R : List B64) (hg : Row w g t (bvals T) ∨ Row w g t (bvals (spl T off R))) (hn : R.length = m) (hq : Row w q t (bvals R)) (hfit : off + m ≤ T.length)
    (h : ∀ w', Row w' g t (bvals (spl T off R)) → w.grownBy w' (some g) → K (a.put o.dst (goInt m)) w') :
    if Region.wanted o (yielded ops a.tmps) = true then Oper.wp P o a w K Q else E := by
  have hw : Region.wanted o (yielded ops a.tmps) = true := by simp [Region.wanted, hgd]
  rw [if_pos hw]
  have hlen : (bvals R).length = m := by rw [bvals_len, hn]
  have key : ∀ T', Row w g t (bvals T') → T'.length = T.length → spl T' off R = spl T off R → Oper.wp P o a w K Q := fun T' hT' hl' hsp => by
    have hrun := run_copy_row (P := P) w dT sT o.type elem g off m dCap ⟨q, 0, none⟩ m sCap (bvals T').toArray t (bvals R) hu hsz hT' (by rw [hlen]; simp)
      (fun j v hj => by
        have hjl : j < R.length := by have := (List.getElem?_eq_some_iff.1 hj).1; rw [bvals_len] at this; exact this
        rw [Addr.add_lit, Nat.zero_add]
        exact hq.cell hj)
      (by rw [hlen]; simp [bvals_len]; omega) (fun v hv => by rw [bvals_map] at hv; obtain ⟨x, _, rfl⟩ := List.mem_map.1 hv; rfl)
    unfold Oper.wp
    simp [execOp, ho, resolve, invoke, builtin, hd, hs, hrun, Result.andThen]
    rw [hlen]
    refine h _ ?_ (grownBy_setRow _ _ _)
    have h2 := setRow_heap w g (bvals T').toArray ((bvals T').take off ++ (bvals R ++ (bvals T').drop (off + m))).toArray t (0, 0) hT'
    rw [← hn, bvals_spl, hsp] at h2
    rw [show Row _ g t (bvals (spl T off R)) = (_ = _) from rfl, ← h2, ← hn, bvals_spl, hsp]
  rcases hg with h1 | h1
  · exact key T h1 rfl rfl
  · exact key _ h1 (spl_len (by omega)) (spl_spl (by omega))

theorem sq_cells3 (w : World) (v0 v1 u0 u1 x0 x1 : Value) {W : World} (h : ((w.alloc (.cells #[v0, v1] 48)).alloc (.cells #[u0, u1] 48)).alloc (.cells #[x0, x1] 48) = W) :
    Row W w.heap.size 48 [v0, v1] ∧ Row W (w.heap.size + 1) 48 [u0, u1] ∧ Row W (w.heap.size + 1 + 1) 48 [x0, x1] ∧ Below w.heap.size w W ∧ W.heap.size = w.heap.size + 1 + 1 + 1 := by
  subst h
  have r0 := Row.new w 48 [v0, v1]
  have r1 := Row.new (w.alloc (.cells #[v0, v1] 48)) 48 [u0, u1]
  have r2 := Row.new ((w.alloc (.cells #[v0, v1] 48)).alloc (.cells #[u0, u1] 48)) 48 [x0, x1]
  rw [World.size_alloc] at r1
  rw [World.size_alloc, World.size_alloc] at r2
  exact ⟨(r0.alloc _).alloc _, r1.alloc _, r2, (((Below.refl _ _).alloc (Nat.le_refl _) _).alloc (by simp) _).alloc (by simp; omega) _, by simp⟩

/-- what the rounds of times hold -/
structure TimSt (w : World) (n s t p B : Nat) (S T P0 P1 : List B64) (V : World) : Prop where
  pr : PR s t p 2 S T P0 P1 V
  bel : Below w.heap.size w V
  rB : Row V B 48 [.int .i64 n, .slice (some ⟨p, 0, none⟩) (n * n) (n * n)]
  r2 : Row V w.heap.size 48 [.int .i64 n, .slice (some ⟨s, 0, none⟩) (n * n) (n * n)]
  r3 : Row V (w.heap.size + 1) 48 [.int .i64 n, .slice (some ⟨t, 0, none⟩) (n * n) (n * n)]
  r4 : Row V (w.heap.size + 1 + 1) 48 [.int .i64 0, .slice none 0 0]
theorem TimSt.all {w : World} {n s t p B : Nat} {S T P0 P1 : List B64} {V : World} (h : TimSt w n s t p B S T P0 P1 V) :
    V.cell? ⟨B, 0, none⟩ = some (.int .i64 n) ∧ V.cell? ⟨B, 1, none⟩ = some (.slice (some ⟨p, 0, none⟩) (n * n) (n * n)) ∧ V.cell? ⟨w.heap.size, 0, none⟩ = some (.int .i64 n) ∧ V.cell? ⟨w.heap.size, 1, none⟩ = some (.slice (some ⟨s, 0, none⟩) (n * n) (n * n)) ∧ V.cell? ⟨w.heap.size + 1, 0, none⟩ = some (.int .i64 n) ∧ V.cell? ⟨w.heap.size + 1, 1, none⟩ = some (.slice (some ⟨t, 0, none⟩) (n * n) (n * n)) ∧ TimSt w n s t p B S T P0 P1 V :=
  ⟨h.rB.cell (i := 0) rfl, h.rB.cell (i := 1) rfl, h.r2.cell (i := 0) rfl, h.r2.cell (i := 1) rfl, h.r3.cell (i := 0) rfl, h.r3.cell (i := 1) rfl, h⟩
theorem TimSt.drew {w : World} {n s t p B : Nat} {S T P0 P1 : List B64} {V : World} (h : TimSt w n s t p B S T P0 P1 V) : TimSt w n s t p B S T P0 P1 V.drew := ⟨⟨h.pr.s, h.pr.t, h.pr.p⟩, h.bel.drew, h.rB, h.r2, h.r3, h.r4⟩
theorem TimSt.keep {w : World} {n s t p B : Nat} {S T P0 P1 : List B64} {A V : World} (hb : Below A.heap.size A V) (h : TimSt w n s t p B S T P0 P1 A) : TimSt w n s t p B S T P0 P1 V :=
  ⟨h.pr.keep hb, h.bel.trans (hb.mono h.bel.size), h.rB.keep hb, h.r2.keep hb, h.r3.keep hb, h.r4.keep hb⟩
theorem TimSt.grown {w : World} {n s t p B : Nat} {S T P0 P1 : List B64} {A V : World} (hs : s < w.heap.size) (ht : t < w.heap.size) (hp : w.heap.size + 1 + 1 < p) (hB : B ≠ p) (hg : A.grownBy V (some p)) (h : TimSt w n s t p B S T P0 P1 A) (hr : Row V p 2 (bvals P1)) : TimSt w n s t p B S T P0 P1 V :=
  ⟨h.pr.grown hg (by omega) (by omega) hr, h.bel.trans (grown_below hg (by omega) h.bel.size), h.rB.kept hg (by simp; omega), h.r2.kept hg (by simp; omega), h.r3.kept hg (by simp; omega), h.r4.kept hg (by simp; omega)⟩

set_option maxRecDepth 100000 in
set_option maxHeartbeats 4000000 in
/-- **the product of two squares** -/
theorem times_any (n s t : Nat) (hn : n ≤ 16) (S T : List B64) (hlS : S.length = n * n) (hlT : T.length = n * n) (w : World) (hs : Row w s 2 (bvals S)) (ht : Row w t 2 (bvals T)) :
    Calls Tryd.prog 28 #[sqV n s, sqV n t] w fun e w' => ∃ p, e = .returned (sqV n p) ∧ w.heap.size ≤ p ∧ Below w.heap.size w w' ∧ Row w' p 2 (bvals (tabL n (mm n (mat n S) (mat n T)))) := by
  have h2 : n * n ≤ 256 := Nat.mul_le_mul hn hn
  have hb := blank_any n hn
  have hrow := row_any n
  have hsum := fun av cv v w h1 h2 => sum_any n t hn T hlT av cv v w h1 h2
  have lts := hs.lt
  have ltt := ht.lt
  obtain ⟨i0, hi, hz0, hz1, hz2⟩ := info_parts info_i64
  unfold sqV at hb hrow hsum
  unfold sqV
  go_enter Tryd.func28, Tryd.ntmps28
  go_wp2_with fail
  obtain ⟨W0, hW0⟩ : ∃ W0, ((w.alloc (.cells #[.int .i64 n, .slice (some ⟨s, 0, none⟩) (n * n) (n * n)] 48)).alloc (.cells #[.int .i64 n, .slice (some ⟨t, 0, none⟩) (n * n) (n * n)] 48)).alloc (.cells #[.int .i64 0, .slice none 0 0] 48) = W0 := ⟨_, rfl⟩
  obtain ⟨r2, r3, r4, hB0, hs0⟩ := sq_cells3 w _ _ _ _ _ _ hW0
  rw [hW0]
  refine (hb _).mono ?_
  rintro e w1 ⟨rfl, hb1, hr1⟩
  rw [hs0] at hr1
  have hs1 := hb1.size
  have lt1 := hr1.lt
  rw [hs0] at hs1
  obtain ⟨W1, hW1⟩ : ∃ W1, w1.alloc (.cells #[.int .i64 n, .slice (some ⟨w.heap.size + 1 + 1 + 1 + 1, 0, none⟩) (n * n) (n * n)] 48) = W1 := ⟨_, rfl⟩
  obtain ⟨r5, hB1, hs2⟩ := sq_cells w1 _ _ hW1
  have q2 := row_below (row_below r2 hb1 r2.lt) hB1 (by omega)
  have q3 := row_below (row_below r3 hb1 r3.lt) hB1 (by omega)
  have q4 := row_below (row_below r4 hb1 r4.lt) hB1 (by omega)
  have p1 : Row W1 (w.heap.size + 1 + 1 + 1 + 1) 2 (bvals (List.replicate (n * n) 0)) := row_below hr1 hB1 hr1.lt
  have hBW : Below w.heap.size w W1 := (hB0.trans (hb1.mono (by omega))).trans (hB1.mono (by omega))
  have c20 := q2.cell (i := 0) rfl
  rw [hs0]
  go_wp2_with fail
  clear hb hB0 hr1 hb1 hB1 r2 r3 r4 c20
  have hpp : w.heap.size + 1 + 1 < w.heap.size + 1 + 1 + 1 + 1 := by omega
  generalize w1.heap.size = B at *
  generalize w.heap.size + 1 + 1 + 1 + 1 = p at *
  clear hW1 hW0
  go_loopw [12] (fun i wr => ∃ (k : Nat) (P : List B64), k ≤ n ∧ i = .int .i64 k ∧ Below w.heap.size w wr ∧ Row wr B 48 [.int .i64 n, .slice (some ⟨p, 0, none⟩) (n * n) (n * n)] ∧ Row wr w.heap.size 48 [.int .i64 n, .slice (some ⟨s, 0, none⟩) (n * n) (n * n)] ∧ Row wr (w.heap.size + 1) 48 [.int .i64 n, .slice (some ⟨t, 0, none⟩) (n * n) (n * n)] ∧ Row wr (w.heap.size + 1 + 1) 48 [.int .i64 0, .slice none 0 0] ∧ Row wr p 2 (bvals P) ∧ P.length = n * n ∧ ∀ a, a < k → ∀ b, b < n → mat n P a b = mm n (mat n S) (mat n T) a b) (fun i _ => n - (intOf i).toNat)
  case atStart => exact ⟨0, _, Nat.zero_le _, rfl, hBW, r5, q2, q3, q4, p1, by simp, fun a ha => absurd ha (Nat.not_lt_zero _)⟩
  case round =>
    obtain ⟨k, P, hk, rfl, hB, rB, r2, r3, r4, rP, hlP, hP⟩ := hrel
    have ltB := rB.lt
    have lt4 := r4.lt
    have ltP := rP.lt
    have hBs := hB.size
    have hs' := row_below hs hB lts
    have ht' := row_below ht hB ltt
    clear hBW r5 q2 q3 q4 p1
    by_cases hlt : k < n
    · have c0 := rB.cell (i := 0) rfl
      have c1 := rB.cell (i := 1) rfl
      have c20 := r2.cell (i := 0) rfl
      have c21 := r2.cell (i := 1) rfl
      have c30 := r3.cell (i := 0) rfl
      have c31 := r3.cell (i := 1) rfl
      have HP := hide hP
      clear hP
      go_wp2_with fail
      obtain ⟨R, hR⟩ : ∃ R, R = vecL n (vm n (fun i => bd S (k * n + i)) (mat n T)) := ⟨_, rfl⟩
      have hlR : R.length = n := by rw [hR, vecL_len]
      have hsum := fun av cv w h1 h2 => hsum av cv (fun i => bd S (k * n + i)) w h1 h2
      simp only [← hR] at hsum
      have hkn : k * n + n ≤ n * n := by
        have := Nat.mul_le_mul_right n (show k + 1 ≤ n from hlt)
        rwa [Nat.succ_mul] at this
      have hst : TimSt w n s t p B S T P (spl P (k * n) R) wr := ⟨⟨hs', ht', .inl rP⟩, hB, rB, r2, r3, r4⟩
      have hBp : B ≠ p := by omega
      clear hs' ht' rB r2 r3 r4 rP c0 c1 c20 c21 c30 c31
      go_region_held3 (fun V => V.cell? ⟨B, 0, none⟩ = some (.int .i64 n) ∧ V.cell? ⟨B, 1, none⟩ = some (.slice (some ⟨p, 0, none⟩) (n * n) (n * n)) ∧ V.cell? ⟨w.heap.size, 0, none⟩ = some (.int .i64 n) ∧ V.cell? ⟨w.heap.size, 1, none⟩ = some (.slice (some ⟨s, 0, none⟩) (n * n) (n * n)) ∧ V.cell? ⟨w.heap.size + 1, 0, none⟩ = some (.int .i64 n) ∧ V.cell? ⟨w.heap.size + 1, 1, none⟩ = some (.slice (some ⟨t, 0, none⟩) (n * n) (n * n)) ∧ TimSt w n s t p B S T P (spl P (k * n) R) V) ((go_split_ands; first | exact TimSt.all hst | exact TimSt.all hst.drew | exact TimSt.all (by assumption) | exact TimSt.all (TimSt.keep hb (by assumption)) | exact TimSt.all (TimSt.grown lts ltt hpp hBp hg (by assumption) hr) | fail))
        (first
          | (go_at_call 26; refine (hrow _ k hn hlt _).mono ?_; rintro e w' ⟨rfl, hb⟩)
          | (go_at_call 30; go_split_ands; refine (hsum _ _ _ ‹TimSt w n s t p B S T P (spl P (k * n) R) _›.pr.t (Row.vec ‹TimSt w n s t p B S T P (spl P (k * n) R) _›.pr.s (k * n) n (by omega))).mono ?_; rintro e w' ⟨q, rfl, hq0, hb, hq⟩)
          | (go_split_ands; refine step_copy_b rfl _ _ 25 25 rfl 2 Tryd.underlying25 (by rw [hi]; simp [hz1]) n _ _ p (k * n) q rfl rfl P 2 R ‹TimSt w n s t p B S T P (spl P (k * n) R) _›.pr.p hlR (by first | exact hq | exact Row.keep hq hb) (by omega) ?_; intro w' hr hg))
      go_split_ands
      have hT := ‹TimSt w n s t p B S T P (spl P (k * n) R) w'›
      clear hg hq hb hq0
      go_wp2
      have hlR' : k * n + R.length ≤ P.length := by rw [hlR, hlP]; exact hkn
      refine ⟨⟨k + 1, spl P (k * n) R, by omega, by go_num, hT.bel, hT.rB, hT.r2, hT.r3, hT.r4, hr, by rw [spl_len hlR', hlP], fun a ha b hb => ?_⟩, by simp [intOf]; omega⟩
      unfold mat
      rw [bd_spl hlR', hlR]
      by_cases e : a = k
      · subst e
        rw [if_pos (by omega), show a * n + b - a * n = b by omega, hR, bd_vecL _ hb]; rfl
      · have h1 : a * n + n ≤ k * n := by
          have := Nat.mul_le_mul_right n (show a + 1 ≤ k by omega)
          rwa [Nat.succ_mul] at this
        rw [if_neg (by omega)]
        exact HP.out a (by omega) b hb
    · obtain rfl : k = n := by omega
      have f0 := r4.frozen 0
      have f1 := r4.frozen 1
      have d0 := r4.cell (i := 0) rfl
      have d1 := r4.cell (i := 1) rfl
      have c0 := rB.cell (i := 0) rfl
      have c1 := rB.cell (i := 1) rfl
      have e : P = tabL k (mm k (mat k S) (mat k T)) := mat_ext hlP (tabL_len _ _) fun a ha b hb => by
        rw [hP a ha b hb, mat_tabL _ a ha b hb]
      subst e
      clear hP hlP hrow hsum
      go_wp2
      have kk := (r4.set 0 (.int .i64 k)).set 1 (.slice (some ⟨p, 0, none⟩) (k * k) (k * k))
      have e0 := kk.cell (i := 0) rfl
      have e1 := kk.cell (i := 1) rfl
      refine bodyPost_ret (v := .agg #[.int .i64 k, .slice (some ⟨p, 0, none⟩) (k * k) (k * k)]) (by simp [results, Tryd.results28, go_sem, e0, e1]) rfl ⟨_, rfl, by omega, ?_, ?_⟩
      · exact (hB.setCell (p := ⟨w.heap.size + 1 + 1, 0, none⟩) (by simp; omega) _).setCell (p := ⟨w.heap.size + 1 + 1, 1, none⟩) (by simp; omega) _
      · exact (rP.other (by omega) _ _).other (by omega) _ _
end Go.Proofs.YtekpielpfegclabDoor
