/- Lemmas of this seat. -/
import Derived.Test.YtcjooeklehggaaaGreatDoorREs
import Derived.Test.YtcjooeklehggaaaGreatDoorRFs
set_option linter.unusedVariables false
set_option linter.unusedSimpArgs false
set_option maxRecDepth 100000
namespace Go.Proofs.YtcjooeklehggaaaGreatDoor
open Go.ChangeShapes Go.WideShapes Go.ChangeAt Go.RowKit M
theorem DrawV.le {X : List Ty} {k : Bs} {B b : Nat} {ao : Option Addr} {len cap : Nat} {p dp dp' : Int} {L L' : Nat} {w : World} {e : Ending} {w' : World} (h : DrawV X k B b ao len cap p dp L w e w') (h1 : dp ≤ dp') (h2 : L ≤ L') : DrawV X k B b ao len cap p dp' L' w e w' := by
 obtain ⟨x, q, p', rfl, a1, a2, a3, a4, a5, a6, a7, a8⟩ := h
 exact ⟨x, q, p', rfl, a1, a2, by omega, a4, a5, by omega, a7, a8⟩
theorem DrawV.up {X : List Ty} {k : Bs} {B b : Nat} {ao : Option Addr} {len cap : Nat} {p dp : Int} {L : Nat} {w W : World} {e : Ending} {w' : World} (hb : Below w.heap.size w W) (h : DrawV X k B b ao len cap p dp L W e w') : DrawV X k B b ao len cap p dp L w e w' := by
 obtain ⟨x, q, p', rfl, a1, a2, a3, a4, a5, a6, a7, a8⟩ := h
 have hz := hb.size
 exact ⟨x, q, p', rfl, a1, a2, a3, a4.imp (by intro b _ h; omega), a5, a6, a7, only_trans (grown_of_below hb _) a8⟩
theorem IVal.all {v : Value} {tps : List (Ty × Value)} {B0 B b : Nat} {ao : Option Addr} {len cap : Nat} {d D : Int} {L : Nat} {K : Bs → Prop} (h : IVal v tps B0 B b ao len cap d D L K) (hk : ∀ k, kOk k = true → coreOk (tps.map (·.1)) k = true → K k) : IVal v tps B0 B b ao len cap d D L (fun _ => True) := fun k p w a c _ => h k p w a c (hk k a c)
section
variable {v : Value} {tps : List (Ty × Value)} {B0 B b : Nat} {ao : Option Addr} {len cap : Nat}
theorem d_value_named {p d dp : Int} {L : Nat} {k : Bs} {w : World} (h64 : at_ k 0 = 64) (hk0 : 0 < k.length)
  (HT : ∀ W, Below w.heap.size w W → Calls Tryz.prog 108 #[.pointer (some ⟨b, 0, none⟩), v, .string (S k), .int .i64 d] W (DrawV (tps.map (·.1)) k B b ao len cap p dp L W)) :
  Calls Tryz.prog 83 #[.pointer (some ⟨b, 0, none⟩), v, .string (S k), .int .i64 d] w (DrawV (tps.map (·.1)) k B b ao len cap p dp L w) := by
 have e1 : (at_ k 0 == 110) = false := by simp [h64]
 have e2 : (at_ k 0 == 116) = false := by simp [h64]
 have e3 : (at_ k 0 == 102) = false := by simp [h64]
 have e4 : (at_ k 0 == 91) = false := by simp [h64]
 have e5 : (at_ k 0 == 63) = false := by simp [h64]
 have H := Lib.hid HT
 clear HT h64
 go_enter Tryz.func83, Tryz.ntmps83
 go_wp2_with fail
 refine (H.out _ (below_alloc (Below.refl _ _) _)).mono ?_
 intro e w' h
 have h' := DrawV.up (below_alloc (Below.refl _ w) (.cells #[.string (S k), .string { data := #[] }, .slice none 0 0, .slice none 0 0] 133)) h
 clear h H
 obtain ⟨x, q, p', rfl, a1, a2, a3, a4, a5, a6, a7, a8⟩ := h'
 have HA := Lib.hid (And.intro a1 (And.intro a2 (And.intro a3 (And.intro a4 (And.intro a5 (And.intro a6 a8))))))
 clear a1 a2 a3 a4 a5 a6 a8
 go_wp2_with fail
 go_ret
 obtain ⟨a1, a2, a3, a4, a5, a6, a8⟩ := HA.out
 exact ⟨x, q, p', rfl, a1, a2, a3, a4, a5, a6, a7, a8⟩
theorem v_step (hg : ∀ t ∈ tps.map (·.1), GoodT t) (hva : validB (tps.map (·.1)) = true) (hasc : ∀ t ∈ tps.map (·.1), Asc t.fields) (hl8 : tps.length ≤ 8) (hbB : b < B0)
  (d D D' : Int) (L L' : Nat) (K K' : Bs → Prop) (hd : -100 ≤ d ∧ d ≤ 100) (hD : 0 ≤ D) (hL : L ≤ 1500000) (IH : IVal v tps B0 B b ao len cap (d - 1) D L K')
  (hKd : 0 < d → ∀ k, K' k) (hKu : ¬ 0 < d → ∀ k t, kOk k = true → K k → refT (tps.map (·.1)) k = some t → t.sort = 85 → K' (kind0 t))
  (hU : D + 1 ≤ D' ∧ L + 6 ≤ L') (hR0 : 8 ≤ D' ∧ 82 ≤ L') (hRd : 0 < d → 8 * (D + 1) ≤ D' ∧ 8 * L + 82 ≤ L') (hD' : D' ≤ 300000) : IVal v tps B0 B b ao len cap d D' L' K := by
 intro k p w hko hco hK hR hp hT hB
 rcases kind_sorts hko hco with hk | hk | hk | h91 | h63 | ⟨h64, t, hr⟩
 ·exact (d_value_n hk hR (by omega)).mono (fun e w' h => h.le (by omega) (by omega))
 ·exact (d_value_t hk hR (by omega)).mono (fun e w' h => h.le (by omega) (by omega))
 ·exact (d_value_f hk hR (by omega)).mono (fun e w' h => h.le (by omega) (by omega))
 ·by_cases hd0 : 0 < d
  ·have := hRd hd0
   exact (d_value_list h91 hko hco hD hd (fun _ => IH.all (fun k _ _ => hKd hd0 k)) hR (by omega) hT hbB hB).mono (fun e w' h => h.le (by omega) (by omega))
  ·exact (d_value_list (D := 0) (L := 0) h91 hko hco (by omega) hd (fun h => absurd h hd0) hR (by omega) hT hbB hB).mono (fun e w' h => h.le (by omega) (by omega))
 ·by_cases hd0 : 0 < d
  ·have := hRd hd0
   exact (d_value_may h63 hko hco hD hd (fun _ => IH.all (fun k _ _ => hKd hd0 k)) hR (by omega) hT hbB hB).mono (fun e w' h => h.le (by omega) (by omega))
  ·exact (d_value_may (D := 0) (L := 0) h63 hko hco (by omega) hd (fun h => absurd h hd0) hR (by omega) hT hbB hB).mono (fun e w' h => h.le (by omega) (by omega))
 ·have htm := refT_mem hr
  have hgt := hg t htm
  refine d_value_named h64 (kOk_len hko).2 (fun W hb => ?_)
  have hR' := hR.below hb
  have hT' := hT.below hb
  have hB' : B0 ≤ W.heap.size := by have := hb.size; omega
  have hs : t.sort = 82 ∨ t.sort = 69 ∨ t.sort = 85 := by
   have := hgt.1
   unfold isSort at this
   simp at this
   omega
  rcases hs with hs | hs | hs
  ·by_cases hd0 : 0 < d
   ·have := hRd hd0
    exact (d_typed_R hD hL hd (fun _ => IH.all (fun k _ _ => hKd hd0 k)) hg hva htm h64 hko hr (hasc t htm) hs hR' (by omega) hT' hl8 hbB hB').mono (fun e w' h => h.le (by omega) (by omega))
   ·exact (d_typed_R (D := 0) (L := 0) (by omega) (by omega) hd (fun h => absurd h hd0) hg hva htm h64 hko hr (hasc t htm) hs hR' (by omega) hT' hl8 hbB hB').mono (fun e w' h => h.le (by omega) (by omega))
  ·exact (d_typed_E h64 hko hr hgt (hasc t htm) hs hR' (by omega) hT' hl8 hbB hB').mono (fun e w' h => h.le (by omega) (by omega))
  ·refine (d_typed_U K' ?_ hD hd IH hva htm h64 hko hr hgt (hasc t htm) hs hR' (by omega) hT' hl8 hbB hB').mono (fun e w' h => h.le (by omega) (by omega))
   by_cases hd0 : 0 < d
   ·exact .inl ⟨hd0, hKd hd0⟩
   ·exact .inr ⟨hd0, hKu hd0 k t hko hK hr hs⟩
theorem v_low (hg : ∀ t ∈ tps.map (·.1), GoodT t) (hva : validB (tps.map (·.1)) = true) (hasc : ∀ t ∈ tps.map (·.1), Asc t.fields) (hl8 : tps.length ≤ 8) (hbB : b < B0) (n : Nat) (hn : n ≤ 50) :
  ∀ d : Int, (n : Int) - 100 ≤ d → d ≤ 0 → IVal v tps B0 B b ao len cap d (8 + n) (82 + 6 * n) (fun k => (standsF (tps.map (·.1)) n k).isSome = true) := by
 induction n with
 | zero => intro d _ _ k p w _ _ hK; cases hK
 | succ n ih =>
  intro d h0 h1
  refine v_step hg hva hasc hl8 hbB d (8 + n) _ (82 + 6 * n) _ _ _ (by omega) (by omega) (by omega) (ih (by omega) (d - 1) (by omega) (by omega)) (fun h => by omega) ?_ (by omega) (by omega) (fun h => by omega) (by omega)
  intro _ k t hko hK hr hs
  obtain ⟨s, hs'⟩ := Option.isSome_iff_exists.1 hK
  have h91 : at_ k 0 ≠ 91 := fun h => by rw [refT_sign hko (.inl h)] at hr; cases hr
  have h63 : at_ k 0 ≠ 63 := fun h => by rw [refT_sign hko (.inr h)] at hr; cases hr
  obtain ⟨q, hq, -⟩ := standsF_U hs' h91 h63 hr (by omega) (by omega)
  rw [hq]; rfl
theorem IVal.le {d D D' : Int} {L L' : Nat} {K : Bs → Prop} (h : IVal v tps B0 B b ao len cap d D L K) (h1 : D ≤ D') (h2 : L ≤ L') : IVal v tps B0 B b ao len cap d D' L' K := fun k p w a c hk hR hp hT hB => (h k p w a c hk hR (by omega) hT hB).mono (fun e w' h => h.le h1 h2)
theorem v_deep (hg : ∀ t ∈ tps.map (·.1), GoodT t) (hva : validB (tps.map (·.1)) = true) (hasc : ∀ t ∈ tps.map (·.1), Asc t.fields) (hl8 : tps.length ≤ 8) (hbB : b < B0) :
  (∀ d : Int, 1 ≤ d → d ≤ 3 → IVal v tps B0 B b ao len cap d 10312 81762 (fun _ => True)) ∧ IVal v tps B0 B b ao len cap 4 82504 654178 (fun _ => True) := by
 have h0 : IVal v tps B0 B b ao len cap 0 19 148 (fun _ => True) := (v_low hg hva hasc hl8 hbB 11 (by omega) 0 (by omega) (by omega)).all (fun k _ _ => by
  rw [standsF_mono _ _ 11 (by simp; omega) k _ (standsV_ok hva hg k)]; rfl)
 have h1 : IVal v tps B0 B b ao len cap 1 160 1266 (fun _ => True) := v_step hg hva hasc hl8 hbB 1 19 _ 148 _ _ (fun _ => True) (by omega) (by omega) (by omega) h0 (fun _ _ => trivial) (fun h => by omega) (by omega) (by omega) (fun _ => by omega) (by omega)
 have h2 : IVal v tps B0 B b ao len cap 2 1288 10210 (fun _ => True) := v_step hg hva hasc hl8 hbB 2 160 _ 1266 _ _ (fun _ => True) (by omega) (by omega) (by omega) h1 (fun _ _ => trivial) (fun h => by omega) (by omega) (by omega) (fun _ => by omega) (by omega)
 have h3 : IVal v tps B0 B b ao len cap 3 10312 81762 (fun _ => True) := v_step hg hva hasc hl8 hbB 3 1288 _ 10210 _ _ (fun _ => True) (by omega) (by omega) (by omega) h2 (fun _ _ => trivial) (fun h => by omega) (by omega) (by omega) (fun _ => by omega) (by omega)
 have h4 : IVal v tps B0 B b ao len cap 4 82504 654178 (fun _ => True) := v_step hg hva hasc hl8 hbB 4 10312 _ 81762 _ _ (fun _ => True) (by omega) (by omega) (by omega) h3 (fun _ _ => trivial) (fun h => by omega) (by omega) (by omega) (fun _ => by omega) (by omega)
 refine ⟨fun d a c => ?_, h4⟩
 have hd : d = 1 ∨ d = 2 ∨ d = 3 := by omega
 rcases hd with rfl | rfl | rfl
 ·exact h1.le (by omega) (by omega)
 ·exact h2.le (by omega) (by omega)
 ·exact h3
end
end Go.Proofs.YtcjooeklehggaaaGreatDoor
