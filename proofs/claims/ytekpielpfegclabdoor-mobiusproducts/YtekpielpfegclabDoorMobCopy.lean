/- copy into a block of numbers: the block is spliced, and nothing else is turned. -/
import Derived.Test.YtekpielpfegclabDoorMobRow
import Derived.Laws.CopyOwn
namespace Go.Proofs.YtekpielpfegclabDoor
open Go.RowKit Go.Shelf

theorem grownBy_setRow (w : World) (g : Nat) (cs : Array Value) : w.grownBy (w.setRow g cs) (some g) :=
  ⟨rfl, rfl, rfl, by simp [World.setRow], fun k _ hk => setRow_other w g k cs (fun e => hk (by rw [e]))⟩
theorem grownBy_refl (w : World) (r : Option Nat) : w.grownBy w r := ⟨rfl, rfl, rfl, Nat.le_refl _, fun _ _ _ => rfl⟩
/-- R laid into T from off on -/
def spl (T : List B64) (off : Nat) (R : List B64) : List B64 := T.take off ++ (R ++ T.drop (off + R.length))
theorem bvals_map (l : List B64) : bvals l = l.map fun x => Value.int .i64 x.toInt := by unfold bvals zvals tiL; rw [List.map_map]; rfl
theorem bvals_spl (T : List B64) (off : Nat) (R : List B64) : (bvals T).take off ++ (bvals R ++ (bvals T).drop (off + R.length)) = bvals (spl T off R) := by
  simp only [bvals_map, spl, List.map_append, List.map_take, List.map_drop]
theorem spl_len {T : List B64} {off : Nat} {R : List B64} (h : off + R.length ≤ T.length) : (spl T off R).length = T.length := by
  unfold spl; simp; omega
theorem bd_spl {T : List B64} {off : Nat} {R : List B64} (h : off + R.length ≤ T.length) (j : Nat) : bd (spl T off R) j = if off ≤ j ∧ j < off + R.length then bd R (j - off) else bd T j := by
  unfold spl bd
  have ht : (T.take off).length = off := by simp; omega
  rw [List.getD_eq_getElem?_getD, List.getElem?_append]
  by_cases h1 : j < off
  · rw [if_pos (by omega), if_neg (by omega), List.getElem?_take, if_pos h1, List.getD_eq_getElem?_getD]
  · rw [if_neg (by omega), ht, List.getElem?_append]
    by_cases h2 : j - off < R.length
    · rw [if_pos h2, if_pos (by omega), List.getD_eq_getElem?_getD]
    · rw [if_neg h2, if_neg (by omega), List.getElem?_drop, List.getD_eq_getElem?_getD]
      congr 2; omega
theorem wpList_copy_b {P : Program} {w : World} {ops : Array Oper} {rest : List Oper} {o : Oper} {a : Act} {Q : Exit → Act → World → Prop} (hgd : o.guard = none) (d s : Operand) (dT sT : TypeId)
    (ho : o.op = .call { callee := .builtin .copy, args := #[d, s], argTypes := #[dT, sT] }) (elem : TypeId) (hu : P.underlying dT = some (.slice elem)) (hsz : (P.info? elem).map (·.size) = some 1)
    (dp sp : Option Addr) (m dCap sCap : Nat) (hd : a.eval d = .slice dp m dCap) (hs : a.eval s = .slice sp m sCap)
    (g off : Nat) (T : List B64) (t : TypeId) (hg : Row w g t (bvals T)) (R : List B64) (hn : R.length = m)
    (hpos : 0 < m → dp = some ⟨g, off, none⟩ ∧ ∃ b of2, sp = some ⟨b, of2, none⟩ ∧ CellsB w b of2 m (bd R)) (hfit : off + m ≤ T.length)
    (h : ∀ w', Row w' g t (bvals (spl T off R)) → w.grownBy w' (some g) → wpList P ops Q rest (a.put o.dst (goInt m)) w') :
    wpList P ops Q (o :: rest) a w := by
  by_cases h0 : m = 0
  · subst h0
    obtain rfl : R = [] := List.eq_nil_of_length_eq_zero hn
    refine wpList_copy_nothing hgd d s dT sT ho elem hu hsz dp sp 0 dCap 0 sCap hd hs rfl ?_
    refine h w ?_ (grownBy_refl _ _)
    have : spl T off [] = T := by unfold spl; simp
    rw [this]; exact hg
  · obtain ⟨rfl, b, of2, rfl, hc⟩ := hpos (by omega)
    have hlen : (bvals R).length = m := by rw [bvals_len, hn]
    have h1 := wpList_copy_own (P := P) (w := w) (ops := ops) (rest := rest) (o := o) (a := a) (Q := Q) hgd d s dT sT ho elem hu hsz g off m dCap ⟨b, of2, none⟩ m sCap hd hs (bvals T).toArray t hg (bvals R) (by rw [hlen]; simp)
      (fun j v hj => by
        have hjl : j < R.length := by have := (List.getElem?_eq_some_iff.1 hj).1; rw [bvals_len] at this; exact this
        rw [bvals_at hjl] at hj
        cases hj
        rw [Addr.add_lit]
        exact hc j (by omega))
      (by rw [hlen]; simp [bvals_len]; exact hfit) (fun v hv => by rw [bvals_map] at hv; obtain ⟨x, _, rfl⟩ := List.mem_map.1 hv; rfl)
    rw [hlen] at h1
    refine h1 (h _ ?_ (grownBy_setRow _ _ _))
    have h2 := setRow_heap w g (bvals T).toArray ((bvals T).take off ++ (bvals R ++ (bvals T).drop (off + m))).toArray t (0, 0) hg
    rw [← hn, bvals_spl] at h2
    rw [show Row _ g t (bvals (spl T off R)) = (_ = _) from rfl, ← h2, ← hn, List.toList_toArray, bvals_spl]
end Go.Proofs.YtekpielpfegclabDoor
