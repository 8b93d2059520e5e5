/- Package mobius: the product of two squares. -/
import Derived.Test.YtjbfjdijgfhjfaaDoorMobSum
namespace Go.Proofs.YtjbfjdijgfhjfaaDoor
open Go.RowKit Go.Shelf

theorem cell_keep {A B : World} {b i : Nat} {v : Value} (hb : Below A.heap.size A B) (h : A.cell? ⟨b, i, none⟩ = some v) : B.cell? ⟨b, i, none⟩ = some v := (hb.cell (p := ⟨b, i, none⟩) (World.block_lt_of_cell? _ _ h)).trans h
theorem cell_grown {A B : World} {p b i : Nat} {v : Value} (hg : A.grownBy B (some p)) (hne : b ≠ p) (h : A.cell? ⟨b, i, none⟩ = some v) : B.cell? ⟨b, i, none⟩ = some v := by
  have := hg.block b (World.block_lt_of_cell? _ _ h) (fun e => hne (by cases e; rfl))
  unfold World.cell? at *; rw [this]; exact h
theorem Row.keep {A B : World} {b : Nat} {t : TypeId} {vs : List Value} (h : Row A b t vs) (hb : Below A.heap.size A B) : Row B b t vs := row_below h hb h.lt
/-- two rows that stay, and one that is the one or the other -/
structure PR (s t p : Nat) (ty : TypeId) (S T P0 P1 : List B64) (V : World) : Prop where
  s : Row V s ty (bvals S)
  t : Row V t ty (bvals T)
  p : Row V p ty (bvals P0) ∨ Row V p ty (bvals P1)
theorem PR.keep {s t p : Nat} {ty : TypeId} {S T P0 P1 : List B64} {A B : World} (h : PR s t p ty S T P0 P1 A) (hb : Below A.heap.size A B) : PR s t p ty S T P0 P1 B :=
  ⟨Row.keep h.s hb, Row.keep h.t hb, h.p.imp (fun x => x.keep hb) (fun x => x.keep hb)⟩
theorem PR.grown {s t p : Nat} {ty : TypeId} {S T P0 P1 : List B64} {A B : World} (h : PR s t p ty S T P0 P1 A) (hg : A.grownBy B (some p)) (hs : s ≠ p) (ht : t ≠ p) (hr : Row B p ty (bvals P1)) : PR s t p ty S T P0 P1 B :=
  ⟨h.s.kept hg (fun e => hs (by cases e; rfl)), h.t.kept hg (fun e => ht (by cases e; rfl)), .inr hr⟩
theorem spl_spl {T : List B64} {off : Nat} {R : List B64} (h : off + R.length ≤ T.length) : spl (spl T off R) off R = spl T off R := by
  refine bd_ext (by rw [spl_len (by rw [spl_len h]; exact h)]) fun j _ => ?_
  rw [bd_spl (by rw [spl_len h]; exact h), bd_spl h]
  split <;> rfl
/-- copy of a whole list into a part of a block, at a step of a region that draws its order -/
theorem step_copy_b {P : Program} {ops : Array Oper} {o : Oper} {a : Act} {w : World} {K : Act → World → Prop} {Q : Exit → Act → World → Prop} {E : Prop} (hgd : o.guard = none) (d s : Operand) (dT sT : TypeId)
    (ho : o.op = .call { callee := .builtin .copy, args := #[d, s], argTypes := #[dT, sT] }) (elem : TypeId) (hu : P.underlying dT = some (.slice elem)) (hsz : (P.info? elem).map (·.size) = some 1)
    (m dCap sCap : Nat) (g off q : Nat) (hd : a.eval d = .slice (some ⟨g, off, none⟩) m dCap) (hs : a.eval s = .slice (some ⟨q, 0, none⟩) m sCap)
    (T : List B64) (t : TypeId) (R : List B64) (hg : Row w g t (bvals T) ∨ Row w g t (bvals (spl T off R))) (hn : R.length = m) (hq : Row w q t (bvals R)) (hfit : off + m ≤ T.length)
    (h : ∀ w', Row w' g t (bvals (spl T off R)) → w.grownBy w' (some g) → K (a.put o.dst (goInt m)) w') :
    if Region.wanted o (yielded ops a.tmps) = true then Oper.wp P o a w K Q else E := by
  have hw : Region.wanted o (yielded ops a.tmps) = true := by simp [Region.wanted, hgd]
  rw [if_pos hw]
  have hlen : (bvals R).length = m := by rw [bvals_len, hn]
  have key : ∀ T', Row w g t (bvals T') → T'.length = T.length → spl T' off R = spl T off R → Oper.wp P o a w K Q := fun T' hT' hl' hsp => by
    have hrun := run_copy_row (P := P) w dT sT o.type elem g off m dCap ⟨q, 0, none⟩ m sCap (bvals T').toArray t (bvals R) hu hsz hT' (by rw [hlen]; simp)
      (fun j v hj => by
        have hjl : j < R.length := by have := (List.getElem?_eq_some_iff.1 hj).1; rw [bvals_len] at this; exact this
        rw [Addr.add_lit, Nat.zero_add]
        exact hq.cell hj)
      (by rw [hlen]; simp [bvals_len]; omega) (fun v hv => by rw [bvals_map] at hv; obtain ⟨x, _, rfl⟩ := List.mem_map.1 hv; rfl)
    unfold Oper.wp
    simp [execOp, ho, resolve, invoke, builtin, hd, hs, hrun, Result.andThen]
    rw [hlen]
    refine h _ ?_ (grownBy_setRow _ _ _)
    have h2 := setRow_heap w g (bvals T').toArray ((bvals T').take off ++ (bvals R ++ (bvals T').drop (off + m))).toArray t (0, 0) hT'
    rw [← hn, bvals_spl, hsp] at h2
    rw [show Row _ g t (bvals (spl T off R)) = (_ = _) from rfl, ← h2, ← hn, bvals_spl, hsp]
  rcases hg with h1 | h1
  · exact key T h1 rfl rfl
  · exact key _ h1 (spl_len (by omega)) (spl_spl (by omega))

theorem sq_cells3 (w : World) (v0 v1 u0 u1 x0 x1 : Value) {W : World} (h : ((w.alloc (.cells #[v0, v1] 58)).alloc (.cells #[u0, u1] 58)).alloc (.cells #[x0, x1] 58) = W) :
    Row W w.heap.size 58 [v0, v1] ∧ Row W (w.heap.size + 1) 58 [u0, u1] ∧ Row W (w.heap.size + 1 + 1) 58 [x0, x1] ∧ Below w.heap.size w W ∧ W.heap.size = w.heap.size + 1 + 1 + 1 := by
  subst h
  have r0 := Row.new w 58 [v0, v1]
  have r1 := Row.new (w.alloc (.cells #[v0, v1] 58)) 58 [u0, u1]
  have r2 := Row.new ((w.alloc (.cells #[v0, v1] 58)).alloc (.cells #[u0, u1] 58)) 58 [x0, x1]
  rw [World.size_alloc] at r1
  rw [World.size_alloc, World.size_alloc] at r2
  exact ⟨(r0.alloc _).alloc _, r1.alloc _, r2, (((Below.refl _ _).alloc (Nat.le_refl _) _).alloc (by simp) _).alloc (by simp; omega) _, by simp⟩

/-- what the rounds of times hold -/
structure TimSt (w : World) (n s t p B : Nat) (S T P0 P1 : List B64) (V : World) : Prop where
  pr : PR s t p 2 S T P0 P1 V
  bel : Below w.heap.size w V
  rB : Row V B 58 [.int .i64 n, .slice (some ⟨p, 0, none⟩) (n * n) (n * n)]
  r2 : Row V w.heap.size 58 [.int .i64 n, .slice (some ⟨s, 0, none⟩) (n * n) (n * n)]
  r3 : Row V (w.heap.size + 1) 58 [.int .i64 n, .slice (some ⟨t, 0, none⟩) (n * n) (n * n)]
  r4 : Row V (w.heap.size + 1 + 1) 58 [.int .i64 0, .slice none 0 0]
theorem TimSt.all {w : World} {n s t p B : Nat} {S T P0 P1 : List B64} {V : World} (h : TimSt w n s t p B S T P0 P1 V) :
    V.cell? ⟨B, 0, none⟩ = some (.int .i64 n) ∧ V.cell? ⟨B, 1, none⟩ = some (.slice (some ⟨p, 0, none⟩) (n * n) (n * n)) ∧ V.cell? ⟨w.heap.size, 0, none⟩ = some (.int .i64 n) ∧ V.cell? ⟨w.heap.size, 1, none⟩ = some (.slice (some ⟨s, 0, none⟩) (n * n) (n * n)) ∧ V.cell? ⟨w.heap.size + 1, 0, none⟩ = some (.int .i64 n) ∧ V.cell? ⟨w.heap.size + 1, 1, none⟩ = some (.slice (some ⟨t, 0, none⟩) (n * n) (n * n)) ∧ TimSt w n s t p B S T P0 P1 V :=
  ⟨h.rB.cell (i := 0) rfl, h.rB.cell (i := 1) rfl, h.r2.cell (i := 0) rfl, h.r2.cell (i := 1) rfl, h.r3.cell (i := 0) rfl, h.r3.cell (i := 1) rfl, h⟩
theorem TimSt.drew {w : World} {n s t p B : Nat} {S T P0 P1 : List B64} {V : World} (h : TimSt w n s t p B S T P0 P1 V) : TimSt w n s t p B S T P0 P1 V.drew := ⟨⟨h.pr.s, h.pr.t, h.pr.p⟩, h.bel.drew, h.rB, h.r2, h.r3, h.r4⟩
theorem TimSt.keep {w : World} {n s t p B : Nat} {S T P0 P1 : List B64} {A V : World} (hb : Below A.heap.size A V) (h : TimSt w n s t p B S T P0 P1 A) : TimSt w n s t p B S T P0 P1 V :=
  ⟨h.pr.keep hb, h.bel.trans (hb.mono h.bel.size), h.rB.keep hb, h.r2.keep hb, h.r3.keep hb, h.r4.keep hb⟩
theorem TimSt.grown {w : World} {n s t p B : Nat} {S T P0 P1 : List B64} {A V : World} (hs : s < w.heap.size) (ht : t < w.heap.size) (hp : w.heap.size + 1 + 1 < p) (hB : B ≠ p) (hg : A.grownBy V (some p)) (h : TimSt w n s t p B S T P0 P1 A) (hr : Row V p 2 (bvals P1)) : TimSt w n s t p B S T P0 P1 V :=
  ⟨h.pr.grown hg (by omega) (by omega) hr, h.bel.trans (grown_below hg (by omega) h.bel.size), h.rB.kept hg (by simp; omega), h.r2.kept hg (by simp; omega), h.r3.kept hg (by simp; omega), h.r4.kept hg (by simp; omega)⟩

end Go.Proofs.YtjbfjdijgfhjfaaDoor
