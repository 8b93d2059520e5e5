/- The walk of the law LatticeDual: it answers true, and writes nothing that was there. -/
import Derived.Test.YtobjgfjikmgdeaaDoorKindOk
import Derived.Test.YtobjgfjikmgdeaaDoorKindPlain
import Derived.Test.YtobjgfjikmgdeaaDoorKeepOpen
import Derived.Test.YtobjgfjikmgdeaaDoorTurEx
import Derived.Test.YtobjgfjikmgdeaaDoorDualPlain
import Derived.Test.YtobjgfjikmgdeaaDoorInts
namespace Go.Proofs.YtobjgfjikmgdeaaDoor
open Go.RowKit Go.Shelf

set_option maxRecDepth 100000 in
set_option maxHeartbeats 1000000 in
theorem ldual_bad (n : Int) (a : Option Addr) (len cap : Nat) (c : Int) (hc : c ≠ 0) (w : World) (h1 : ∀ W, Below w.heap.size w W → Calls Tryd.prog 12 #[.agg #[.int .i64 n, .slice a len cap]] W fun e w' => e = .returned (.tuple #[.agg #[.int .i64 n, .slice a len cap, .slice none 0 0, .slice none 0 0, .int .i64 0, .int .i64 0, .bool false], .bool false]) ∧ Below W.heap.size W w')
    (h2 : ∀ W, Below w.heap.size w W → Calls Tryd.prog 13 #[.agg #[.int .i64 n, .slice a len cap]] W fun e w' => e = .returned (.tuple #[.agg #[.int .i64 0, .slice none 0 0], .int .i64 c]) ∧ Below W.heap.size W w') :
    Calls Tryd.prog 4 #[.agg #[.int .i64 n, .slice a len cap]] w fun e w' => e = .returned (.bool true) ∧ Below w.heap.size w w' := by
  obtain ⟨r0, hb0, hs0⟩ := one_row w 24 (.int .i64 n) (.slice a len cap) rfl
  have s1 := h1 _ hb0
  have e1 : (c != 0) = true := by rw [bne_iff_ne]; exact hc
  have lt0 := r0.lt
  clear h1 hc
  go_enter Tryd.func4, Tryd.ntmps4
  go_wp2_with fail
  refine s1.mono ?_
  rintro e w1 ⟨rfl, hb1⟩
  have q0 := row_below r0 hb1 lt0
  have lq0 := q0.lt
  have j0 := q0.cell (i := 0) rfl
  have j1 := q0.cell (i := 1) rfl
  have hB1 : Below w.heap.size w (w1.alloc (.cells #[.int .i64 n, .slice a len cap, .slice none 0 0, .slice none 0 0, .int .i64 0, .int .i64 0, .bool false] 38)) := (hb0.trans (hb1.mono (by omega))).alloc (by have := hb1.size; omega) _
  have s2 := h2 _ hB1
  clear h2 s1
  go_wp2_with fail
  refine s2.mono ?_
  rintro e w2 ⟨rfl, hb2⟩
  go_wp2_with fail
  go_ret
  exact ⟨rfl, (hB1.trans (hb2.mono hB1.size)).alloc (by have := hb2.size; have := hB1.size; omega) _⟩

/-- how a lattice's tables are told: lists with Pj and Pm, ends by the lists -/
def TellsM (P : Program) (f : Nat) (o : Value) (Pj Pm : List Nat → Prop) (ends : List Nat → Nat) (q : Nat) (c : Int) (W : World) : Prop :=
  Calls P f #[o] W fun e w' => ∃ a1 c1 a2 c2 js ms, e = .returned (.tuple #[.agg #[.slice a1 q c1, .slice a2 q c2, .int .i64 (ends ms : Nat), .int .i64 (ends js : Nat)], .int .i64 c]) ∧ Below W.heap.size W w' ∧ IsInts w'.heap.size w' a1 js ∧ IsInts w'.heap.size w' a2 ms ∧ js.length = q ∧ ms.length = q ∧ Pj js ∧ Pm ms
def TellsK (P : Program) (f : Nat) (o : Value) (D M C : Prop) (c : Int) (W : World) : Prop :=
  Calls P f #[o] W fun e w' => ∃ (d m k : Bool) (x y z : Int), e = .returned (.tuple #[.agg #[.bool d, .bool m, .bool k, .int .i64 x, .int .i64 y, .int .i64 z], .int .i64 c]) ∧ Below W.heap.size W w' ∧ (d = true ↔ D) ∧ (m = true ↔ M) ∧ (k = true ↔ C)

set_option maxRecDepth 100000 in
set_option maxHeartbeats 4000000 in
theorem ldual_core (a : Option Addr) (cap : Nat) (us ds : List Nat) (w : World) (Pj Pm : List Nat → Prop) (ends : List Nat → Nat) (q : Nat) (hq : q ≤ 256) (c : Int) (D M C : Prop)
    (hPj : ∀ l m, Pj l → Pj m → l = m) (hPm : ∀ l m, Pm l → Pm m → l = m)
    (h1 : ∀ W, Below w.heap.size w W → Calls Tryd.prog 12 #[.agg #[.int .i64 us.length, .slice a us.length cap]] W fun e w' => ∃ (a1 : Option Addr) (l1 c1 : Nat) (a2 : Option Addr) (l2 c2 : Nat) (x y : Int) (ok : Bool), e = .returned (.tuple #[.agg #[.int .i64 us.length, .slice a us.length cap, .slice a1 l1 c1, .slice a2 l2 c2, .int .i64 x, .int .i64 y, .bool false], .bool ok]) ∧ Below W.heap.size W w')
    (h2 : ∀ W, Below w.heap.size w W → Calls Tryd.prog 13 #[.agg #[.int .i64 us.length, .slice a us.length cap]] W fun e w' => ∃ g, e = .returned (.tuple #[.agg #[.int .i64 us.length, .slice (some ⟨g, 0, none⟩) us.length us.length], .int .i64 0]) ∧ Below W.heap.size W w' ∧ W.heap.size ≤ g ∧ Row w' g 65 (wvals ds))
    (h3 : ∀ W, Below w.heap.size w W → TellsM Tryd.prog 14 (.agg #[.int .i64 us.length, .slice a us.length cap]) Pj Pm ends q c W)
    (h4 : ∀ W g, Below w.heap.size w W → w.heap.size ≤ g → Row W g 65 (wvals ds) → TellsM Tryd.prog 14 (.agg #[.int .i64 us.length, .slice (some ⟨g, 0, none⟩) us.length us.length]) Pm Pj ends q c W)
    (h5 : ∀ W, Below w.heap.size w W → TellsK Tryd.prog 9 (.agg #[.int .i64 us.length, .slice a us.length cap]) D M C c W)
    (h6 : ∀ W g, Below w.heap.size w W → w.heap.size ≤ g → Row W g 65 (wvals ds) → TellsK Tryd.prog 9 (.agg #[.int .i64 us.length, .slice (some ⟨g, 0, none⟩) us.length us.length]) D M C c W) :
    Calls Tryd.prog 4 #[.agg #[.int .i64 us.length, .slice a us.length cap]] w fun e w' => e = .returned (.bool true) ∧ Below w.heap.size w w' := by
  obtain ⟨r0, hb0, hs0⟩ := one_row w 24 (.int .i64 us.length) (.slice a us.length cap) rfl
  have s1 := h1 _ hb0
  have lt0 := r0.lt
  have hcs : ((c : Int) != c) = false := by simp
  have hce : ((c : Int) == c) = true := by simp
  clear h1
  go_enter Tryd.func4, Tryd.ntmps4
  go_wp2_with fail
  refine s1.mono ?_
  rintro e w1 ⟨a1, l1, c1, a2, l2, c2, x1, y1, ok, rfl, hb1⟩
  obtain ⟨V1, hV1⟩ : ∃ V, V = w1.alloc (.cells #[.int .i64 us.length, .slice a us.length cap, .slice a1 l1 c1, .slice a2 l2 c2, .int .i64 x1, .int .i64 y1, .bool false] 38) := ⟨_, rfl⟩
  have hA1 : Below w1.heap.size w1 V1 := by rw [hV1]; exact (Below.refl _ _).alloc (Nat.le_refl _) _
  have hB1 : Below w.heap.size w V1 := (hb0.trans (hb1.mono (by omega))).trans (hA1.mono (by have := hb1.size; omega))
  have q0 := row_below r0 hb1 lt0
  have z0 := row_below q0 hA1 q0.lt
  have lz0 := z0.lt
  have lq0 := q0.lt
  have j0 := q0.cell (i := 0) rfl
  have j1 := q0.cell (i := 1) rfl
  have s2 := h2 _ hB1
  rw [hV1] at s2
  clear h2 s1
  go_wp2_with fail
  refine s2.mono ?_
  rw [← hV1]
  rintro e w2 ⟨g, rfl, hb2, hg, rD⟩
  clear s2 hV1 j0 j1 q0 lq0
  have hB1s := hB1.size
  have hs2 := hb2.size
  obtain ⟨V2, hV2⟩ : ∃ V, V = w2.alloc (.cells #[.int .i64 us.length, .slice (some ⟨g, 0, none⟩) us.length us.length] 24) := ⟨_, rfl⟩
  have hA2 : Below w2.heap.size w2 V2 := by rw [hV2]; exact (Below.refl _ _).alloc (Nat.le_refl _) _
  have hB2 : Below w.heap.size w V2 := (hB1.trans (hb2.mono hB1s)).trans (hA2.mono (by omega))
  have q0 := row_below z0 hb2 lz0
  have lq0 := q0.lt
  have y0 := row_below q0 hA2 lq0
  have rD2 := row_below rD hA2 rD.lt
  have zd : Row V2 w2.heap.size 24 [.int .i64 us.length, .slice (some ⟨g, 0, none⟩) us.length us.length] := by rw [hV2]; exact Row.new w2 _ _
  have j0 := q0.cell (i := 0) rfl
  have j1 := q0.cell (i := 1) rfl
  have s3 := h3 _ hB2
  unfold TellsM at s3
  rw [hV2] at s3
  clear h3
  go_wp2_with fail
  refine s3.mono ?_
  rw [← hV2]
  rintro e w3 ⟨a3, c3, a4, c4, js, ms, rfl, hb3, i3, i4, lj, lm, pj, pm⟩
  clear s3 hV2 j0 j1 q0 lq0
  have hB2s := hB2.size
  have hs3 := hb3.size
  obtain ⟨V3, hV3⟩ : ∃ V, V = w3.alloc (.cells #[.slice a3 q c3, .slice a4 q c4, .int .i64 (ends ms : Nat), .int .i64 (ends js : Nat)] 32) := ⟨_, rfl⟩
  have hA3 : Below w3.heap.size w3 V3 := by rw [hV3]; exact (Below.refl _ _).alloc (Nat.le_refl _) _
  have hB3 : Below w.heap.size w V3 := (hB2.trans (hb3.mono hB2s)).trans (hA3.mono (by omega))
  have q0 := row_below zd hb3 zd.lt
  have lq0 := q0.lt
  have zd3 := row_below q0 hA3 lq0
  have y03 := row_below (row_below y0 hb3 y0.lt) hA3 (by have := y0.lt; omega)
  have rD3 := row_below (row_below rD2 hb3 rD2.lt) hA3 (by have := rD2.lt; omega)
  have zl : Row V3 w3.heap.size 32 [.slice a3 q c3, .slice a4 q c4, .int .i64 (ends ms : Nat), .int .i64 (ends js : Nat)] := by rw [hV3]; exact Row.new w3 _ _
  have j0 := q0.cell (i := 0) rfl
  have j1 := q0.cell (i := 1) rfl
  have s4 := h4 _ g hB3 (by omega) rD3
  unfold TellsM at s4
  rw [hV3] at s4
  clear h4
  go_wp2_with fail
  refine s4.mono ?_
  rw [← hV3]
  rintro e w4 ⟨a5, c5, a6, c6, ms', js', rfl, hb4, i5, i6, lm', lj', pm', pj'⟩
  obtain rfl := hPj js js' pj pj'
  obtain rfl := hPm ms ms' pm pm'
  clear s4 hV3 j0 j1 q0 lq0 pj pm pj' pm' lm' lj' hPj hPm
  have hB3s := hB3.size
  have hs4 := hb4.size
  obtain ⟨V4, hV4⟩ : ∃ V, V = w4.alloc (.cells #[.slice a5 q c5, .slice a6 q c6, .int .i64 (ends js : Nat), .int .i64 (ends ms : Nat)] 32) := ⟨_, rfl⟩
  have hA4 : Below w4.heap.size w4 V4 := by rw [hV4]; exact (Below.refl _ _).alloc (Nat.le_refl _) _
  have hB4 : Below w.heap.size w V4 := (hB3.trans (hb4.mono hB3s)).trans (hA4.mono (by omega))
  have hA4s := hA4.size
  have zl4 := row_below zl hb4 zl.lt
  have zl5 := row_below zl4 hA4 zl4.lt
  have zm : Row V4 w4.heap.size 32 [.slice a5 q c5, .slice a6 q c6, .int .i64 (ends js : Nat), .int .i64 (ends ms : Nat)] := by rw [hV4]; exact Row.new w4 _ _
  have zd4 := row_below (row_below zd3 hb4 zd3.lt) hA4 (by have := zd3.lt; omega)
  have y04 := row_below (row_below y03 hb4 y03.lt) hA4 (by have := y03.lt; omega)
  have rD4 := row_below (row_below rD3 hb4 rD3.lt) hA4 (by have := rD3.lt; omega)
  have hB34 : Below w3.heap.size w3 V4 := (hA3.trans (hb4.mono (by have := hA3.size; omega))).trans (hA4.mono (by have := hA3.size; omega))
  have I3 := (i3.below hB34).mono (show w3.heap.size ≤ V4.heap.size by have := hB34.size; omega)
  have I4 := (i4.below hB34).mono (show w3.heap.size ≤ V4.heap.size by have := hB34.size; omega)
  have I5 := (i5.below hA4).mono hA4s
  have I6 := (i6.below hA4).mono hA4s
  have t1 := TimesSame_any a3 a6 c3 c6 js js V4.heap.size rfl (by omega) V4 I3 I6
  have t2 := fun (W : World) (hW : Below V4.heap.size V4 W) => TimesSame_any a4 a5 c4 c5 ms ms V4.heap.size rfl (by omega) W (I4.below hW) (I5.below hW)
  rw [lj] at t1
  rw [lm] at t2
  have e1 := zl4.cell (i := 0) rfl
  have e2 := zl4.lt
  have lzl := zl5.lt
  have lzm := zm.lt
  go_wp2_with fail
  rw [← hV4]
  refine t1.mono ?_
  rintro e w5 ⟨rfl, hb5⟩
  have hs5 := hb5.size
  have s1' : sameIB js js = true := by unfold sameIB; simp
  have s2' : sameIB ms ms = true := by unfold sameIB; simp
  have zl6 := row_below zl5 hb5 lzl
  have zm6 := row_below zm hb5 lzm
  clear e1 e2
  have e1 := zl6.cell (i := 1) rfl
  have e2 := zm6.cell (i := 0) rfl
  rw [s1']
  go_wp2_with fail
  refine (t2 w5 hb5).mono ?_
  rintro e w6 ⟨rfl, hb6⟩
  have hs6 := hb6.size
  rw [s2']
  have hb46 : Below V4.heap.size V4 w6 := hb5.trans (hb6.mono hs5)
  have zl7 := row_below zl5 hb46 lzl
  have zm7 := row_below zm hb46 lzm
  have zd7 := row_below zd4 hb46 zd4.lt
  have y07 := row_below y04 hb46 y04.lt
  have rD7 := row_below rD4 hb46 rD4.lt
  have hB6 : Below w.heap.size w w6 := hB4.trans (hb46.mono hB4.size)
  have hB6s := hB6.size
  clear e1 e2 zl6 zm6 t1 t2 I3 I4 I5 I6 i3 i4 i5 i6 hB34 s1' s2'
  have e1 := zl7.cell (i := 2) rfl
  have e2 := zl7.cell (i := 3) rfl
  have e3 := zm7.cell (i := 2) rfl
  have e4 := zm7.cell (i := 3) rfl
  have j0 := y07.cell (i := 0) rfl
  have j1 := y07.cell (i := 1) rfl
  have s5 := h5 w6 hB6
  unfold TellsK at s5
  go_wp2_with fail
  refine s5.mono ?_
  rintro e w7 ⟨d, m, k, x, y, z, rfl, hb7, hd, hm, hk⟩
  have hs7 := hb7.size
  clear s5 h5 e1 e2 e3 e4 j0 j1
  obtain ⟨V7, hV7⟩ : ∃ V, V = w7.alloc (.cells #[.bool d, .bool m, .bool k, .int .i64 x, .int .i64 y, .int .i64 z] 26) := ⟨_, rfl⟩
  have hA7 : Below w7.heap.size w7 V7 := by rw [hV7]; exact (Below.refl _ _).alloc (Nat.le_refl _) _
  have hB7 : Below w.heap.size w V7 := (hB6.trans (hb7.mono hB6s)).trans (hA7.mono (by omega))
  have zd8 := row_below zd7 hb7 zd7.lt
  have zk : Row V7 w7.heap.size 26 [.bool d, .bool m, .bool k, .int .i64 x, .int .i64 y, .int .i64 z] := by rw [hV7]; exact Row.new w7 _ _
  have rD8 := row_below (row_below rD7 hb7 rD7.lt) hA7 (by have := rD7.lt; omega)
  have lzd8 := zd8.lt
  have j0 := zd8.cell (i := 0) rfl
  have j1 := zd8.cell (i := 1) rfl
  have s6 := h6 _ g hB7 (by omega) rD8
  unfold TellsK at s6
  rw [hV7] at s6
  clear h6
  go_wp2_with fail
  refine s6.mono ?_
  rw [← hV7]
  rintro e w8 ⟨d', m', k', x', y', z', rfl, hb8, hd', hm', hk'⟩
  have hs8 := hb8.size
  obtain rfl : d = d' := by rw [Bool.eq_iff_iff, hd, hd']
  obtain rfl : m = m' := by rw [Bool.eq_iff_iff, hm, hm']
  obtain rfl : k = k' := by rw [Bool.eq_iff_iff, hk, hk']
  have zk8 := row_below zk hb8 zk.lt
  have lzk8 := zk8.lt
  clear s6 hV7 j0 j1 hd hm hk hd' hm' hk'
  have e0 := zk8.cell (i := 0) rfl
  have e1 := zk8.cell (i := 1) rfl
  have e2 := zk8.cell (i := 2) rfl
  have hdd : (d == d) = true := by simp
  have hmm : (m == m) = true := by simp
  have hkk : (k == k) = true := by simp
  go_wp2_with fail
  go_ret
  exact ⟨ret_bool (by simp), (hB7.trans (hb8.mono hB7.size)).alloc (by have := hB7.size; omega) _⟩

theorem latB_turn (us ds : List Nat) (h : ds.length = us.length) : latB ds us = latB us ds := by
  unfold latB; rw [h]
  cases nearB us <;> cases nearB ds <;> simp
theorem compl_turn {n : Nat} {j m : Nat → Nat → Nat} {b t : Nat} (h : Compl n j m b t) : Compl n m j t b := fun x hx => by
  obtain ⟨y, hy, h1, h2⟩ := h x hx
  exact ⟨y, hy, h2, h1⟩

set_option maxHeartbeats 1000000 in
/-- **LatticeDual answers true, for every order, and writes nothing that was there** -/
theorem ldual_any (n : Int) (a : Option Addr) (cap : Nat) (us : List Nat) (n₀ : Nat) (hf : Fit us) (w : World) (hT : TabAt w) (hw : IsWords n₀ w a us) (hg : 0 < n₀) (hn₀ : n₀ ≤ w.heap.size) :
    Calls Tryd.prog 4 #[.agg #[.int .i64 n, .slice a us.length cap]] w fun e w' => e = .returned (.bool true) ∧ Below w.heap.size w w' := by
  have hTW : ∀ {W}, Below w.heap.size w W → TabAt W := fun hW => hT.below hW (by omega)
  have hwW : ∀ {W}, Below w.heap.size w W → IsWords n₀ W a us := fun hW => hw.below (hW.mono hn₀)
  have hnW : ∀ {W}, Below w.heap.size w W → n₀ ≤ W.heap.size := fun hW => by have := hW.size; omega
  have hcomp : ∀ {W X}, Below w.heap.size w W → Below W.heap.size W X → Below w.heap.size w X := fun hW hX => hW.trans (hX.mono hW.size)
  by_cases hc : codeOf n us = 0
  · obtain ⟨_, h16, hlen, hin, hord⟩ := code_zero hc
    subst hlen
    have hl16 : us.length ≤ 16 := by omega
    obtain ⟨ds, hD⟩ := tur_ex hf hl16
    have hlD := hD.len
    have hordD := tur_ord hord hD
    have hcD := tur_code hc hD
    obtain ⟨es, hE⟩ := tur_ex hD.fit (by rw [hlD]; exact hl16)
    obtain rfl : es = us := tur_back hf hin hD hE
    have hdual : ∀ W, Below w.heap.size w W → Calls Tryd.prog 13 #[.agg #[.int .i64 es.length, .slice a es.length cap]] W fun e w' => ∃ g, e = .returned (.tuple #[.agg #[.int .i64 es.length, .slice (some ⟨g, 0, none⟩) es.length es.length], .int .i64 0]) ∧ Below W.heap.size W w' ∧ W.heap.size ≤ g ∧ Row w' g 65 (wvals ds) := fun W hW =>
      (Dual_ok es.length a cap es n₀ hf W (hTW hW) (hwW hW) hg (hnW hW) hc).mono (by
        rintro e w' ⟨g, ds', rfl, hb, hge, hr, hT'⟩
        obtain rfl := hT'.unique hD
        exact ⟨g, rfl, hb, hge, hr⟩)
    have hwd : ∀ W g, Row W g 65 (wvals ds) → IsWords W.heap.size W (some ⟨g, 0, none⟩) ds := fun W g hr => hr.words hr.lt
    have hq : es.length * es.length ≤ 256 := Nat.mul_le_mul hl16 hl16
    cases hl : latB es ds with
    | true =>
      have hlT : latB ds es = true := by rw [latB_turn es ds hlD]; exact hl
      have hpos : 0 < es.length := Nat.pos_of_ne_zero (latB_parts hl).1
      have hL : ∀ js ms, NearTo es js (es.length * es.length) → NearTo ds ms (es.length * es.length) → Lat es.length (leW es) (at2 js es.length) (at2 ms es.length) (gath (at2 ms es.length) 0 es.length) (gath (at2 js es.length) 0 es.length) := fun js ms h1 h2 => lat_pre hord hD h1 h2 hpos
      have u1 : ∀ l m, NearTo es l (es.length * es.length) → NearTo es m (es.length * es.length) → l = m := fun l m h1 h2 => NearTo.unique hord h1 h2
      have u2 : ∀ l m, NearTo ds l (es.length * es.length) → NearTo ds m (es.length * es.length) → l = m := fun l m h1 h2 => NearTo.unique hordD h1 h2
      refine ldual_core a cap es ds w (fun l => NearTo es l (es.length * es.length)) (fun l => NearTo ds l (es.length * es.length)) (fun l => gath (at2 l es.length) 0 es.length) (es.length * es.length) hq 0
        (∃ js ms, NearTo es js (es.length * es.length) ∧ NearTo ds ms (es.length * es.length) ∧ Distr es.length (at2 js es.length) (at2 ms es.length))
        (∃ js ms, NearTo es js (es.length * es.length) ∧ NearTo ds ms (es.length * es.length) ∧ Modul es.length (leW es) (at2 js es.length) (at2 ms es.length))
        (∃ js ms, NearTo es js (es.length * es.length) ∧ NearTo ds ms (es.length * es.length) ∧ Compl es.length (at2 js es.length) (at2 ms es.length) (gath (at2 ms es.length) 0 es.length) (gath (at2 js es.length) 0 es.length))
        u1 u2 ?_ hdual ?_ ?_ ?_ ?_
      · intro W hW
        refine (open_ok es.length a cap es ds n₀ hf W (hTW hW) (hwW hW) hg (hnW hW) hc hD hl).mono ?_
        rintro e w' ⟨aj, cj, am, cm, js, ms, rfl, hb, _⟩
        exact ⟨_, _, _, _, _, _, _, _, _, rfl, hb⟩
      · intro W hW
        refine (Make_ok es.length a cap es ds n₀ hf W (hTW hW) (hwW hW) hg (hnW hW) hc hD hl).mono ?_
        rintro e w' ⟨aj, cj, am, cm, js, ms, rfl, hb, o1, o2, n1, n2⟩
        exact ⟨aj, cj, am, cm, js, ms, rfl, hb, ownsRow_ints o1, ownsRow_ints o2, n1.len, n2.len, n1, n2⟩
      · intro W g hW hg' hr
        have h := Make_ok es.length (some ⟨g, 0, none⟩) es.length ds es W.heap.size hD.fit W (hTW hW) (hwd W g hr) (by have := hW.size; omega) (Nat.le_refl _) hcD hE hlT
        rw [hlD] at h
        refine h.mono ?_
        rintro e w' ⟨aj, cj, am, cm, js, ms, rfl, hb, o1, o2, n1, n2⟩
        exact ⟨aj, cj, am, cm, js, ms, rfl, hb, ownsRow_ints o1, ownsRow_ints o2, n1.len, n2.len, n1, n2⟩
      · intro W hW
        refine (Kind_ok a cap es ds n₀ hf W (hTW hW) (hwW hW) hg (hnW hW) hc hD hl).mono ?_
        rintro e w' ⟨js, ms, n1, n2, hb, rfl⟩
        have L := hL js ms n1 n2
        refine ⟨_, _, _, _, _, _, rfl, hb, ?_, ?_, ?_⟩
        · rw [kind_distr]
          exact ⟨fun h => ⟨js, ms, n1, n2, h⟩, fun ⟨js', ms', m1, m2, h⟩ => by rw [u1 js js' n1 m1, u2 ms ms' n2 m2]; exact h⟩
        · rw [kind_modul L]
          exact ⟨fun h => ⟨js, ms, n1, n2, h⟩, fun ⟨js', ms', m1, m2, h⟩ => by rw [u1 js js' n1 m1, u2 ms ms' n2 m2]; exact h⟩
        · rw [compl_iff]
          exact ⟨fun h => ⟨js, ms, n1, n2, h⟩, fun ⟨js', ms', m1, m2, h⟩ => by rw [u1 js js' n1 m1, u2 ms ms' n2 m2]; exact h⟩
      · intro W g hW hg' hr
        have h := Kind_ok (some ⟨g, 0, none⟩) es.length ds es W.heap.size hD.fit W (hTW hW) (hwd W g hr) (by have := hW.size; omega) (Nat.le_refl _) (by rw [hlD]; exact hcD) hE hlT
        rw [hlD] at h
        refine h.mono ?_
        rintro e w' ⟨ms, js, n2, n1, hb, rfl⟩
        have L := hL js ms n1 n2
        refine ⟨_, _, _, _, _, _, rfl, hb, ?_, ?_, ?_⟩
        · rw [kind_distr]
          exact ⟨fun h => ⟨js, ms, n1, n2, L.turn.distr_turn h⟩, fun ⟨js', ms', m1, m2, h⟩ => by rw [u1 js js' n1 m1, u2 ms ms' n2 m2]; exact (hL js' ms' m1 m2).distr_turn h⟩
        · rw [kind_modul L.turn]
          exact ⟨fun h => ⟨js, ms, n1, n2, L.turn.modul_turn h⟩, fun ⟨js', ms', m1, m2, h⟩ => by rw [u1 js js' n1 m1, u2 ms ms' n2 m2]; exact (hL js' ms' m1 m2).modul_turn h⟩
        · rw [compl_iff]
          exact ⟨fun h => ⟨js, ms, n1, n2, compl_turn h⟩, fun ⟨js', ms', m1, m2, h⟩ => by rw [u1 js js' n1 m1, u2 ms ms' n2 m2]; exact compl_turn h⟩
    | false =>
      have hlT : latB ds es = false := by rw [latB_turn es ds hlD]; exact hl
      refine ldual_core a cap es ds w (fun l => l = []) (fun l => l = []) (fun _ => 0) 0 (by decide) 5 False False False (fun l m h1 h2 => h1.trans h2.symm) (fun l m h1 h2 => h1.trans h2.symm) ?_ hdual ?_ ?_ ?_ ?_
      · intro W hW
        refine (open_err es.length a es.length cap 5 (by decide) W fun X hX _ => Make_none es.length a cap es ds n₀ hf X (hTW (hcomp hW hX)) (hwW (hcomp hW hX)) hg (hnW (hcomp hW hX)) hc hD hl).mono ?_
        rintro e w' ⟨rfl, hb⟩
        exact ⟨_, _, _, _, _, _, _, _, _, rfl, hb⟩
      · intro W hW
        refine (Make_none es.length a cap es ds n₀ hf W (hTW hW) (hwW hW) hg (hnW hW) hc hD hl).mono ?_
        rintro e w' ⟨rfl, hb⟩
        exact ⟨none, 0, none, 0, [], [], rfl, hb, .inl rfl, .inl rfl, rfl, rfl, rfl, rfl⟩
      · intro W g hW hg' hr
        have h := Make_none es.length (some ⟨g, 0, none⟩) es.length ds es W.heap.size hD.fit W (hTW hW) (hwd W g hr) (by have := hW.size; omega) (Nat.le_refl _) hcD hE hlT
        rw [hlD] at h
        refine h.mono ?_
        rintro e w' ⟨rfl, hb⟩
        exact ⟨none, 0, none, 0, [], [], rfl, hb, .inl rfl, .inl rfl, rfl, rfl, rfl, rfl⟩
      · intro W hW
        refine (Kind_err es.length a es.length cap 5 (by decide) W fun X hX => TableOf_none es.length a cap es ds n₀ hf X (hTW (hcomp hW hX)) (hwW (hcomp hW hX)) hg (hnW (hcomp hW hX)) hc hD hl).mono ?_
        rintro e w' ⟨rfl, hb⟩
        exact ⟨false, false, false, 0, 0, 0, rfl, hb, by simp, by simp, by simp⟩
      · intro W g hW hg' hr
        refine (Kind_err es.length (some ⟨g, 0, none⟩) es.length es.length 5 (by decide) W fun X hX => ?_).mono ?_
        · have h := TableOf_none es.length (some ⟨g, 0, none⟩) es.length ds es W.heap.size hD.fit X (hTW (hcomp hW hX)) ((hwd W g hr).below hX) (by have := hW.size; omega) hX.size hcD hE hlT
          rw [hlD] at h
          exact h
        · rintro e w' ⟨rfl, hb⟩
          exact ⟨false, false, false, 0, 0, 0, rfl, hb, by simp, by simp, by simp⟩
  · exact ldual_bad n a us.length cap _ hc w (fun W hW => open_err n a us.length cap _ hc W fun X hX _ => Make_bad n a cap us n₀ hf X (hTW (hcomp hW hX)) (hwW (hcomp hW hX)) hg (hnW (hcomp hW hX)) hc) (fun W hW => Dual_bad n a cap us n₀ hf W (hTW hW) (hwW hW) hg (hnW hW) hc)
end Go.Proofs.YtobjgfjikmgdeaaDoor
