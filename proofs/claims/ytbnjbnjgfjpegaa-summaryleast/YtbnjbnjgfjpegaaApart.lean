/- Two rows that a call has made and that grow, apart from each other. -/
import Derived.Test.YtbnjbnjgfjpegaaIntVals
import Derived.Maps.AppendAt
namespace Go.Proofs.Ytbnjbnjgfjpegaa
open Go.RowKit Go.Shelf

/-- two slices don't lie in one row -/
def Apart (v u : Value) : Prop := ∀ b, v.ownBlock = some b → u.ownBlock ≠ some b
theorem own_kept {W W' : World} {base : Nat} {e : TypeId} {size : Nat} {v : Value} {k : Nat} {xs : List Value} {row : Option Nat} (h : W.ownsRow base e size v k xs) (hg : W.grownBy W' row) (hne : ∀ b, row = some b → v.ownBlock ≠ some b) : W'.ownsRow base e size v k xs := by
  refine ⟨h.1, ?_⟩
  rcases h.2 with h2 | ⟨g, cap, cur, h1, h2, h3, h4⟩
  · exact .inl h2
  · exact .inr ⟨g, cap, cur, h1, h2, (hg.block g (Array.getElem?_eq_some_iff.1 h3).1 (fun e' => hne g e'.symm (by rw [h1]; rfl))).trans h3, h4⟩
theorem own_block_lt {W : World} {base : Nat} {e : TypeId} {size : Nat} {v : Value} {k : Nat} {xs : List Value} (h : W.ownsRow base e size v k xs) {b : Nat} (hb : v.ownBlock = some b) : b < W.heap.size := by
  rcases h.2 with ⟨h1, _⟩ | ⟨g, cap, cur, h1, h2, h3, h4⟩
  · rw [h1] at hb; simp [Value.ownBlock] at hb
  · rw [h1] at hb
    obtain rfl : g = b := by simpa [Value.ownBlock] using hb
    exact (Array.getElem?_eq_some_iff.1 h3).1
theorem own_block_ge {W : World} {base : Nat} {e : TypeId} {size : Nat} {v : Value} {k : Nat} {xs : List Value} (h : W.ownsRow base e size v k xs) {b : Nat} (hb : v.ownBlock = some b) : base ≤ b := by
  apply Nat.le_of_not_lt
  intro hlt
  exact ownBlock_ge h hlt hb.symm

theorem cell_one_new' (w : World) (t : TypeId) (v : Value) {n : Nat} (h : w.heap.size = n) : ∀ j u, [v][j]? = some u → (w.alloc (.cells #[v] t)).cell? ((⟨n, 0, none⟩ : Addr).add j) = some u := by
  subst h; exact cell_one_new w v t
theorem Apart.symm {v u : Value} (h : Apart v u) : Apart u v := fun b h1 h2 => h b h2 h1
/-- what an append to the one leaves of the other -/
theorem append_keep {V u u3 : World} {B m m' : Nat} {v x v' : Value} {t e : TypeId} {xs ys vs : List Value} (hbel : Below B V u) (hrow : Row u B t vs) (ov : u.ownsRow (B + 1) e 1 v m xs) (ox : u.ownsRow (B + 1) e 1 x m' ys) (ap : Apart v x) (obj : Obj) (g : (u.alloc obj).grownBy u3 v.ownBlock) (at3 : v'.ownBlock = v.ownBlock ∨ v'.ownBlock = some (u.alloc obj).heap.size) :
    Below B V u3 ∧ Row u3 B t vs ∧ u3.ownsRow (B + 1) e 1 x m' ys ∧ Apart v' x ∧ u.heap.size ≤ u3.heap.size := by
  have hlt := hrow.lt
  refine ⟨?_, ?_, own_kept (ox.alloc _) g ap, ?_, ?_⟩
  · exact (hbel.alloc (Nat.le_of_lt hlt) obj).grown g (by simp; omega) fun q eq => by
      have := own_block_ge ov eq
      omega
  · exact (hrow.alloc obj).kept g (fun e' => by have := own_block_ge ov e'.symm; omega)
  · intro b hb hx
    rcases at3 with h | h
    · exact ap b (h ▸ hb) hx
    · rw [h] at hb
      cases hb
      have := own_block_lt ox hx
      simp at this
      omega
  · have := g.size
    simp at this
    omega
/-- what an append to the one leaves of the other -/
theorem append_apart {V u u3 : World} {B m m' : Nat} {v x v' : Value} {e : TypeId} {xs ys : List Value} (hbel : Below B V u) (hB : B ≤ u.heap.size) (ov : u.ownsRow B e 1 v m xs) (ox : u.ownsRow B e 1 x m' ys) (ap : Apart v x) (obj : Obj) (g : (u.alloc obj).grownBy u3 v.ownBlock) (at3 : v'.ownBlock = v.ownBlock ∨ v'.ownBlock = some (u.alloc obj).heap.size) :
    Below B V u3 ∧ u3.ownsRow B e 1 x m' ys ∧ Apart v' x ∧ u.heap.size ≤ u3.heap.size := by
  refine ⟨?_, own_kept (ox.alloc _) g ap, ?_, ?_⟩
  · exact (hbel.alloc hB obj).grown g (by simp; omega) fun q eq => own_block_ge ov eq
  · intro b hb hx
    rcases at3 with h | h
    · exact ap b (h ▸ hb) hx
    · rw [h] at hb
      cases hb
      have := own_block_lt ox hx
      simp at this
      omega
  · have := g.size
    simp at this
    omega
end Go.Proofs.Ytbnjbnjgfjpegaa
