/- Lists of summaries in memory: three cells each; and slices.Clone of one. -/
import Derived.Test.YtbnjbnjgfjpegaaSumCompare
import Derived.Test.YtbnjbnjgfjpegaaTimClone
namespace Go.Proofs.Ytbnjbnjgfjpegaa
open Go.RowKit Go.Shelf

/-- a summary as it lies: what it keeps, what it adds, and where what it puts lies -/
structure Su where
  k : Int
  d : Int
  a : Option Addr
  cap : Nat
  z : List Int
def Su.sm (u : Su) : Sm := ⟨u.k, u.d, u.z⟩
def su0 : Su := ⟨0, 0, none, 0, []⟩
def nthU (L : List Su) (i : Nat) : Su := L.getD i su0
theorem nthU_get {L : List Su} {i : Nat} (h : i < L.length) : nthU L i = L[i] := by unfold nthU; rw [List.getD_eq_getElem?_getD, List.getElem?_eq_getElem h]; rfl
def Su.val (u : Su) : Value := .agg #[.int .i64 u.k, .int .i64 u.d, .slice u.a u.z.length u.cap]
/-- their cells, one behind the other -/
def uvals (L : List Su) : List Value := L.flatMap fun u => [.int .i64 u.k, .int .i64 u.d, .slice u.a u.z.length u.cap]
theorem uvals_cons (u : Su) (L : List Su) : uvals (u :: L) = .int .i64 u.k :: .int .i64 u.d :: .slice u.a u.z.length u.cap :: uvals L := rfl
theorem uvals_len : ∀ L : List Su, (uvals L).length = L.length * 3
  | [] => rfl
  | u :: L => by rw [uvals_cons]; simp only [List.length_cons, uvals_len L]; omega
theorem uvals_snoc (L : List Su) (u : Su) : uvals (L ++ [u]) = uvals L ++ [.int .i64 u.k, .int .i64 u.d, .slice u.a u.z.length u.cap] := by
  unfold uvals; rw [List.flatMap_append]; simp
theorem uvals_at : ∀ (L : List Su) (i : Nat), i < L.length → (uvals L)[i * 3]? = some (.int .i64 (nthU L i).k) ∧ (uvals L)[i * 3 + 1]? = some (.int .i64 (nthU L i).d) ∧ (uvals L)[i * 3 + 2]? = some (.slice (nthU L i).a (nthU L i).z.length (nthU L i).cap)
  | [], i, h => by simp at h
  | u :: L, 0, _ => ⟨rfl, rfl, rfl⟩
  | u :: L, i + 1, h => by
    have ih := uvals_at L i (by simpa using h)
    have e1 : (i + 1) * 3 = i * 3 + 1 + 1 + 1 := by omega
    rw [e1, uvals_cons]
    exact ih
/-- what a summary puts lies there, and isn't too long -/
def InnerU (n₀ : Nat) (W : World) (L : List Su) : Prop := ∀ i, i < L.length → ZInts n₀ W (nthU L i).a (nthU L i).z ∧ (nthU L i).z.length ≤ 17592186044416 ∧ ((nthU L i).a = none → (nthU L i).cap = 0)
theorem InnerU.below {n₀ : Nat} {A B : World} {L : List Su} (h : InnerU n₀ A L) (hb : Below n₀ A B) : InnerU n₀ B L := fun i hi => ⟨(h i hi).1.below hb, (h i hi).2⟩
/-- a list of summaries lies there -/
def OuterU (n₀ : Nat) (W : World) (a : Option Addr) (L : List Su) : Prop :=
  L = [] ∨ ∃ b off, a = some ⟨b, off, none⟩ ∧ b < n₀ ∧ ∀ i, i < L.length → W.cell? ⟨b, off + i * 3, none⟩ = some (.int .i64 (nthU L i).k) ∧ W.cell? ⟨b, off + i * 3 + 1, none⟩ = some (.int .i64 (nthU L i).d) ∧ W.cell? ⟨b, off + i * 3 + 2, none⟩ = some (.slice (nthU L i).a (nthU L i).z.length (nthU L i).cap)
theorem OuterU.below {n₀ : Nat} {A B : World} {a : Option Addr} {L : List Su} (h : OuterU n₀ A a L) (hb : Below n₀ A B) : OuterU n₀ B a L := by
  rcases h with h | ⟨b, off, e, h1, h2⟩
  · exact .inl h
  · exact .inr ⟨b, off, e, h1, fun i hi => ⟨(hb.cell (p := ⟨b, off + i * 3, none⟩) h1).trans (h2 i hi).1, (hb.cell (p := ⟨b, off + i * 3 + 1, none⟩) h1).trans (h2 i hi).2.1, (hb.cell (p := ⟨b, off + i * 3 + 2, none⟩) h1).trans (h2 i hi).2.2⟩⟩
theorem OuterU.mono {n m : Nat} {W : World} {a : Option Addr} {L : List Su} (h : OuterU n W a L) (hn : n ≤ m) : OuterU m W a L := by
  rcases h with h | ⟨b, off, e, h1, h2⟩
  · exact .inl h
  · exact .inr ⟨b, off, e, by omega, h2⟩
theorem OuterU.at {n₀ : Nat} {W : World} {a : Option Addr} {L : List Su} (h : OuterU n₀ W a L) {i : Nat} (hi : i < L.length) :
    ∃ b off, a = some ⟨b, off, none⟩ ∧ b < n₀ ∧ ∀ i, i < L.length → W.cell? ⟨b, off + i * 3, none⟩ = some (.int .i64 (nthU L i).k) ∧ W.cell? ⟨b, off + i * 3 + 1, none⟩ = some (.int .i64 (nthU L i).d) ∧ W.cell? ⟨b, off + i * 3 + 2, none⟩ = some (.slice (nthU L i).a (nthU L i).z.length (nthU L i).cap) := by
  rcases h with h | h
  · subst h; simp at hi
  · exact h
theorem info_sum : (Try.prog.info? 32).map (fun i => (i.zero, i.size, i.bytes)) = some (some (.agg #[.int .i64 0, .int .i64 0, .slice none 0 0]), 3, 40) := by kernel_rfl

set_option maxRecDepth 100000 in
set_option maxHeartbeats 1000000 in
theorem cloneU_any (a : Option Addr) (cap : Nat) (L : List Su) (n₀ : Nat) (hl : L.length ≤ 1048576) (h0 : 0 < L.length) (w : World) (hw : OuterU n₀ w a L) (hn₀ : n₀ ≤ w.heap.size) :
    Calls Try.prog 22 #[.slice a L.length cap] w fun e w' => ∃ g cv, e = .returned (.slice (some ⟨g, 0, none⟩) L.length cv) ∧ Below w.heap.size w w' ∧ w'.ownsRow w.heap.size 32 3 (.slice (some ⟨g, 0, none⟩) L.length cv) L.length (uvals L) := by
  obtain ⟨i0, hi, hz0, hz1, hz2⟩ := info_parts info_sum
  obtain ⟨b, off, rfl, hb, hc⟩ := hw.at h0
  have hbw : b < w.heap.size := by omega
  have hq : ∀ (w : World) (a : Option Addr) (n c n' c' : Nat), (binOp .eql 22 (.slice a n c) (.slice none n' c')).run Try.prog w = .ok (.bool a.isNone) w := fun w a n c n' c' => Lib.run_eql_slice_nil w _ _ a n c n' c' Try.underlying22
  go_enter Try.func22, Try.ntmps22
  have Hc := hide hc
  clear hc
  have hul := uvals_len L
  go_wp2_with (at_builtin; refine wpList_append_own _ rfl _ _ 22 rfl w.heap.size 32 i0 (.agg #[.int .i64 0, .int .i64 0, .slice none 0 0]) 3 40 Try.underlying22 hi hz0 hz1 hz2 rfl (by decide) _ _ _ rfl (World.ownsRow_made w #[] 0 (Nat.le_refl _) (Nat.zero_le _) rfl) ⟨b, off, none⟩ L.length cap (uvals L) rfl ?qc1 ?qc2 ?qc3 ?qc4 ?qc5 ?qc6 ?_)
  case qc1 => exact hul
  case qc2 =>
    intro j u hj
    have hjn : j < L.length * 3 := by rw [← hul]; exact (List.getElem?_eq_some_iff.1 hj).1
    obtain ⟨i, r, hr, rfl⟩ : ∃ i r, r < 3 ∧ j = i * 3 + r := ⟨j / 3, j % 3, by omega, by omega⟩
    have hil : i < L.length := by omega
    obtain ⟨u1, u2, u3⟩ := uvals_at L i hil
    obtain ⟨c1, c2, c3⟩ := Hc.out i hil
    rw [Addr.add_lit]
    match r, hr with
    | 0, _ => rw [Nat.add_zero, u1] at hj; cases hj; exact Lib.cell?_alloc_some _ c1
    | 1, _ => rw [u2] at hj; cases hj; exact Lib.cell?_alloc_some _ c2
    | 2, _ => rw [u3] at hj; cases hj; exact Lib.cell?_alloc_some _ c3
  case qc3 =>
    intro u hu
    unfold uvals at hu
    obtain ⟨x, _, hx⟩ := List.mem_flatMap.1 hu
    simp at hx
    rcases hx with rfl | rfl | rfl <;> rfl
  case qc4 => unfold maxLen; omega
  case qc5 => omega
  case qc6 => simp
  intro v' w1 hown hgrow hnil
  have hown' : w1.ownsRow w.heap.size 32 3 v' L.length (uvals L) := by simpa using hown
  obtain ⟨g, cv, rfl⟩ : ∃ g cv, v' = .slice (some ⟨g, 0, none⟩) L.length cv := by
    rcases hown'.2 with ⟨_, h2⟩ | ⟨g, c, cur, h1, _⟩
    · omega
    · exact ⟨_, _, h1⟩
  go_wp2
  go_ret
  exact ⟨g, cv, rfl, ((Below.refl _ w).alloc (Nat.le_refl _) _).grown hgrow (by simp) (by intro k hk; simp [Value.ownBlock] at hk; omega), hown'⟩
end Go.Proofs.Ytbnjbnjgfjpegaa
