/- The contracts of slices.Index and slices.Contains at numbers, and of the closure by which made adds one more. -/
import Derived.Test.YtdjljnmpffhemaaDoorAppendKeep
import Derived.Test.YtdjljnmpffhemaaDoorSubPlain
import Derived.Test.YtdjljnmpffhemaaDoorLatTwo
import Derived.Deep.RegionHeld
namespace Go.Proofs.YtdjljnmpffhemaaDoor
open Go.RowKit Go.Shelf

set_option maxHeartbeats 400000 in
theorem IndexI_any (a : Option Addr) (cap : Nat) (l : List Nat) (x n₀ : Nat) (hl : l.length ≤ 16) (w : World) (hw : IsInts n₀ w a l) :
    Calls Tryd.prog 64 #[.slice a l.length cap, .int .i64 (x : Nat)] w fun e w' => w' = w ∧ ∃ r : Int, e = .returned (.int .i64 r) ∧ ((r = -1 ∧ x ∉ l) ∨ (0 ≤ r ∧ x ∈ l)) := by
  go_enter Tryd.func64, Tryd.ntmps64
  go_wp2
  go_loop [8] (fun i => ∃ k : Nat, k ≤ l.length ∧ i = .int .i64 k ∧ ∀ j, j < k → wd l j ≠ x) (fun i => l.length - (intOf i).toNat)
  case atStart => exact ⟨0, Nat.zero_le _, rfl, fun j h1 => by omega⟩
  case round =>
    obtain ⟨k, hk, rfl, hall⟩ := hrel
    by_cases hlt : k < l.length
    · obtain ⟨b, off, rfl, hb, hc⟩ := hw.at hlt
      have hck := hc k hlt
      have hmem := wd_memN hlt
      clear hc
      by_cases he : wd l k = x
      · have hd : ((x : Int) == ((wd l k : Nat) : Int)) = true := by rw [beq_iff_eq]; omega
        rw [he] at hmem
        have Hm := hide hmem
        clear he hmem
        go_wp2
        go_ret
        exact ⟨rfl, _, rfl, .inr ⟨by omega, Hm.out⟩⟩
      · have hd : ((x : Int) == ((wd l k : Nat) : Int)) = false := by rw [beq_eq_false_iff_ne]; omega
        have He := hide he
        clear he hmem
        go_wp2
        go_round
        case rel => exact ⟨k + 1, by omega, by go_num, fun j h1 => by
          by_cases e : j = k
          · rw [e]; exact He.out
          · exact hall j (by omega)⟩
        case measure => simp [intOf]; omega
    · have hno : x ∉ l := fun h => by
        obtain ⟨i, hi, e⟩ := mem_wdN h
        exact hall i (by omega) e
      have Hn := hide hno
      clear hno
      go_wp2
      go_ret
      exact ⟨rfl, _, rfl, .inl ⟨rfl, Hn.out⟩⟩
theorem ContainsI_any (a : Option Addr) (cap : Nat) (l : List Nat) (x n₀ : Nat) (hl : l.length ≤ 16) (w : World) (hw : IsInts n₀ w a l) :
    Calls Tryd.prog 54 #[.slice a l.length cap, .int .i64 (x : Nat)] w fun e w' => e = .returned (.bool (decide (x ∈ l))) ∧ w' = w := by
  have h := IndexI_any a cap l x n₀ hl w hw
  go_enter Tryd.func54, Tryd.ntmps54
  go_wp2_with fail
  refine h.mono ?_
  rintro e w' ⟨rfl, r, rfl, ⟨rfl, hn⟩ | ⟨hr, hm⟩⟩
  · have Hn := hide hn
    clear hn h
    go_wp2_with fail
    go_ret
    exact ⟨ret_bool (by rw [decide_eq_false Hn.out]), rfl⟩
  · have Hm := hide hm
    have hd : decide (0 ≤ r) = true := by simpa using hr
    clear hm h
    go_wp2_with fail
    go_ret
    exact ⟨ret_bool (by rw [decide_eq_true Hm.out]), rfl⟩

/-- what a call of add does to all but the list: blocks below B stay, and cells of rows as far as they were filled -/
structure Added (B : Nat) (v : Value) (k : Nat) (W W' : World) : Prop where
  bel : Below B W W'
  old : ∀ g j, g ≠ B → g < W.heap.size → (j < k ∨ v.ownBlock ≠ some g) → W'.cell? ⟨g, j, none⟩ = W.cell? ⟨g, j, none⟩
  size : W.heap.size ≤ W'.heap.size
theorem Added.refl (B : Nat) (v : Value) (k : Nat) (W : World) : Added B v k W W := ⟨Below.refl _ _, fun _ _ _ _ _ => rfl, Nat.le_refl _⟩

set_option maxRecDepth 100000 in
set_option maxHeartbeats 1000000 in
theorem add_any (B x : Nat) (av : Option Addr) (cv : Nat) (l : List Nat) (hl : l.length ≤ 16) (w : World) (hbox : Row w B 27 [.slice av l.length cv]) (hown : w.ownsRow (B + 1) 3 1 (.slice av l.length cv) l.length (ivals l)) :
    Calls Tryd.prog 53 #[.int .i64 (x : Nat), .pointer (some ⟨B, 0, none⟩)] w fun e w' => e = .returned (.tuple #[]) ∧ ∃ av' cv', Row w' B 27 [.slice av' (addL l x).length cv'] ∧ w'.ownsRow (B + 1) 3 1 (.slice av' (addL l x).length cv') (addL l x).length (ivals (addL l x)) ∧ Added B (.slice av l.length cv) l.length w w' := by
  obtain ⟨i0, hi, hz0, hz1, hz2⟩ := info_parts info_int
  have hcon := ContainsI_any av cv l x w.heap.size hl w (ownsRow_ints hown)
  have hlt := hbox.lt
  have c0 := hbox.cell (i := 0) rfl
  have f0 := hbox.frozen 0
  by_cases hx : x ∈ l
  · have ha : addL l x = l := by unfold addL; rw [if_pos hx]
    rw [ha]
    rw [decide_eq_true hx] at hcon
    clear hx ha
    go_enter Tryd.func53, Tryd.ntmps53
    go_wp2_with (go_at_call 54; refine hcon.mono ?_; rintro e w' ⟨rfl, rfl⟩)
    go_end0
    exact ⟨rfl, av, cv, hbox, hown, Added.refl _ _ _ _⟩
  · have ha : addL l x = l ++ [x] := by unfold addL; rw [if_neg hx]
    rw [ha]
    rw [decide_eq_false hx] at hcon
    clear hx ha
    have hbs : B + 1 ≤ w.heap.size := by omega
    go_enter Tryd.func53, Tryd.ntmps53
    go_wp2_with (first
      | (go_at_call 54; refine hcon.mono ?_; rintro e w' ⟨rfl, rfl⟩)
      | (at_builtin; refine wpList_append_keep rfl _ _ 27 rfl (B + 1) 3 i0 (.int .i64 0) 8 Tryd.underlying27 hi hz0 hz1 hz2 rfl _ _ _ rfl (hown.alloc _) ⟨_, 0, none⟩ 1 (.int .i64 (x : Nat)) rfl (cell_one_new _ _ _) rfl (by unfold maxLen; omega) (by omega) (by simp; omega) ?_; intro v' w3 hown' hgrow3 hat hkeep; obtain ⟨g', cap', rfl⟩ := ownsRow_succ hown'; have r3 := (hbox.alloc (.cells #[.int .i64 (x : Nat)] 3)).kept hgrow3 (ownBlock_ge hown (b := B) (by omega)); have d0 := r3.cell (i := 0) rfl; have g0 := r3.frozen 0))
    go_end0
    have hlen : (l ++ [x]).length = l.length + 1 := by simp
    refine ⟨rfl, some ⟨g', 0, none⟩, cap', ?_, ?_, ?_, ?_, ?_⟩
    · rw [hlen]; exact r3.set 0 _
    · rw [hlen, ivals_snoc]; exact ownsRow_setAt hown' (by omega) _ _
    · refine Below.setCell (p := ⟨B, 0, none⟩) ?_ (Nat.le_refl _) _
      exact ((Below.refl B w').alloc (by omega) (.cells #[.int .i64 (x : Nat)] 3)).grown hgrow3 (by simp; omega) fun q eq => by have := own_block_ge hown eq; omega
    · intro g j h1 h2 h3
      have e1 : (w3.setCell ⟨B, 0, none⟩ (.slice (some ⟨g', 0, none⟩) (l.length + 1) cap')).cell? ⟨g, j, none⟩ = w3.cell? ⟨g, j, none⟩ := World.cell?_setCell_far _ _ _ _ (fun e => h1 e.symm)
      have e2 : (w'.alloc (.cells #[.int .i64 (x : Nat)] 3)).cell? ⟨g, j, none⟩ = w'.cell? ⟨g, j, none⟩ := World.cell?_alloc_lt _ _ _ h2
      rw [e1, ← e2]
      by_cases e : (Value.slice av l.length cv).ownBlock = some g
      · rcases h3 with h3 | h3
        · exact hkeep g j e h3
        · exact absurd e h3
      · have := hgrow3.block g (by simp; omega) (fun h => e h.symm)
        simp only [World.cell?, this]
    · have := hgrow3.size
      simp at this ⊢
      omega
end Go.Proofs.YtdjljnmpffhemaaDoor
