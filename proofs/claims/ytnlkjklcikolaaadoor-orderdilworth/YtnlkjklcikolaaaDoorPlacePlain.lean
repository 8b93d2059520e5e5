/- Plain mathematics of placing: what is known while the steps of an element are tried. -/
import Derived.Test.YtnlkjklcikolaaaDoorLinkPlain
namespace Go.Proofs.YtnlkjklcikolaaaDoor
open Go.RowKit Go.Shelf

def zvals (zs : List Int) : List Value := zs.map fun z => Value.int .i64 z
theorem zvals_len (zs : List Int) : (zvals zs).length = zs.length := by unfold zvals; simp
theorem zvals_set (zs : List Int) (i : Nat) (z : Int) : (zvals zs).set i (.int .i64 z) = zvals (zs.set i z) := by unfold zvals; rw [List.map_set]
theorem zd_set (zs : List Int) (i j : Nat) (z : Int) (hi : i < zs.length) : zd (zs.set i z) j = if j = i then z else zd zs j := by
  unfold zd
  rw [List.getD_eq_getElem?_getD, List.getD_eq_getElem?_getD, List.getElem?_set]
  by_cases e : i = j
  · subst e; rw [if_pos rfl, if_pos hi, if_pos rfl]; rfl
  · rw [if_neg e, if_neg fun q => e q.symm]
theorem optZ_set {zs : List Int} {i y : Nat} (hi : i < zs.length) : optZ (zs.set i (y : Int)) = upd (optZ zs) i (some y) := by
  funext j
  unfold optZ upd
  rw [zd_set zs i j _ hi, List.length_set]
  by_cases e : j = i
  · subst e; rw [if_pos rfl, if_pos rfl, if_pos ⟨hi, by omega⟩]; simp
  · rw [if_neg e, if_neg e]
theorem LinkZ.set {n : Nat} {zs : List Int} (h : LinkZ n zs) {i y : Nat} (hi : i < n) (hy : y < n) : LinkZ n (zs.set i (y : Int)) := by
  refine ⟨by rw [List.length_set]; exact h.1, fun j hj => ?_⟩
  rw [zd_set zs i j _ (by rw [h.1]; exact hi)]
  by_cases e : j = i
  · rw [if_pos e]; exact .inr ⟨y, hy, rfl⟩
  · rw [if_neg e]; exact h.2 j hj
theorem optZ_none {zs : List Int} {j : Nat} (e : zd zs j = -1) : optZ zs j = none := by
  unfold optZ; rw [if_neg (by rw [e]; omega)]
theorem optZ_some {n : Nat} {zs : List Int} (h : LinkZ n zs) {j p : Nat} (hj : j < n) (e : zd zs j = (p : Int)) : optZ zs j = some p := by
  unfold optZ; rw [e, if_pos ⟨by rw [h.1]; exact hj, by omega⟩]; simp

/-- nothing tried yet -/
theorem Stuck.start (up : Nat → Nat → Prop) (pv : Nat → Option Nat) (sn : Nat) : Stuck up pv (fun z => hasB sn z = true) (fun z => hasB sn z = true) (fun c => c ∈ ([] : List Nat)) :=
  ⟨fun _ h => h, fun c hc => (by cases hc), fun b h1 h2 => absurd h1 h2⟩
/-- a step to one that is seen -/
theorem Stuck.skip {up : Nat → Nat → Prop} {pv : Nat → Option Nat} {sn s b : Nat} {T : List Nat} (H : Stuck up pv (fun z => hasB sn z = true) (fun z => hasB s z = true) (fun c => c ∈ T)) (hb : hasB s b = true) : Stuck up pv (fun z => hasB sn z = true) (fun z => hasB s z = true) (fun c => c ∈ T ++ [b]) :=
  ⟨H.sub, fun c hc => by
    rcases List.mem_append.1 hc with h | h
    · exact H.all c h
    · rw [List.mem_singleton.1 h]; exact hb, H.new⟩
/-- a step to one whose own one could not be moved -/
theorem Stuck.call {up : Nat → Nat → Prop} {pv : Nat → Option Nat} {sn s s2 b p : Nat} {T : List Nat} (H : Stuck up pv (fun z => hasB sn z = true) (fun z => hasB s z = true) (fun c => c ∈ T)) (hp : pv b = some p) (C : Stuck up pv (fun z => hasB (orW s (bitW b)) z = true) (fun z => hasB s2 z = true) (up p)) : Stuck up pv (fun z => hasB sn z = true) (fun z => hasB s2 z = true) (fun c => c ∈ T ++ [b]) := by
  have g1 : ∀ z, hasB s z = true → hasB s2 z = true := fun z hz => C.sub z (by rw [hasB_or, hz]; rfl)
  have g2 : hasB s2 b = true := C.sub b (by rw [hasB_or, hasB_bitW]; simp)
  refine ⟨fun z hz => g1 z (H.sub z hz), fun c hc => ?_, fun c hc hn => ?_⟩
  · rcases List.mem_append.1 hc with h | h
    · exact g1 c (H.all c h)
    · rw [List.mem_singleton.1 h]; exact g2
  · cases h : hasB s c
    · by_cases e : c = b
      · subst e; exact ⟨p, hp, C.all⟩
      · refine C.new c hc ?_
        rw [hasB_or, h, hasB_bitW]
        simpa using fun q : b = c => e q.symm
    · obtain ⟨q, e, f⟩ := H.new c h hn
      exact ⟨q, e, fun d hd => g1 d (f d hd)⟩
/-- all steps are tried -/
theorem Stuck.done {up : Nat → Nat → Prop} {pv : Nat → Option Nat} {sn s x : Nat} {T : List Nat} (H : Stuck up pv (fun z => hasB sn z = true) (fun z => hasB s z = true) (fun c => c ∈ T)) (hall : ∀ c, up x c → c ∈ T) : Stuck up pv (fun z => hasB sn z = true) (fun z => hasB s z = true) (up x) :=
  ⟨H.sub, fun c hc => H.all c (hall c hc), H.new⟩

def Three (B C D : Nat) : Nat → Prop := fun k => k = B ∨ k = C ∨ k = D
end Go.Proofs.YtnlkjklcikolaaaDoor
