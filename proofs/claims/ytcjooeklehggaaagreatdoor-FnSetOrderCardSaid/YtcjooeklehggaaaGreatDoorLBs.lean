/- Lemmas of this seat. -/
import Derived.Test.YtcjooeklehggaaaGreatDoorLAs
set_option linter.unusedVariables false
set_option linter.unusedSimpArgs false
set_option maxRecDepth 100000
namespace Go.Proofs.YtcjooeklehggaaaGreatDoor
open Go.ChangeShapes Go.WideShapes Go.ChangeAt Go.RowKit M
theorem ref_name {X : List Ty} {k : Bs} {t : Ty} (h : refT X k = some t) : 3 ≤ k.length ∧ k.length ≤ 12 ∧ find X ((k.drop 1).take (k.length - 1 - 1)) = some t := by
 unfold refT at h
 rcases kind_cases k with hn | ⟨n, m, hn, hl, hm, -, h2⟩
 ·rw [hn] at h; cases h
 ·rw [hn] at h
  simp only at h
  split at h
  ·cases h
  ·rename_i hc
   have hd : m = 0 := by simp at hc; exact hc.2
   have hne : n ≠ [] := by simp at hc; exact hc.1
   subst hd
   rcases h2 with ⟨-, -, e, -⟩ | ⟨e, -⟩
   ·have e2 := name_of_drop e
    rw [List.drop_zero] at e e2
    have hlen := congrArg List.length e
    have hpos := List.length_pos_iff.2 hne
    simp at hlen
    exact ⟨by omega, hl, by rw [e2]; exact h⟩
   ·exact absurd e hne
theorem law_field2 {l k s v : Bs} {tag : Int} (h : fieldVP l k s tag = some v) : 3 ≤ k.length ∧ k.length ≤ 12 ∧ v.length ≤ 400 ∧ setP l k s tag v = some s ∧
  ∃ r : Bs × Bs × Bs, fldP l ((k.drop 1).take (k.length - 1 - 1)) tag = some r ∧ r.2.1.length ≤ 12 ∧ (valP l r.2.1 v).isSome = true := by
 obtain ⟨X, t, f, hof, hrt, h82, hf, hok, hset⟩ := law_field h
 obtain ⟨h3, h12, hfind⟩ := ref_name hrt
 have hfl : fldP l ((k.drop 1).take (k.length - 1 - 1)) tag = some (f.name, f.kind, standW X f) := by
  unfold fldP
  rw [hof]
  simp only
  rw [hfind]
  simp only
  rw [show fieldV t tag = some f from hf]
  simp only
  rw [if_neg (by omega)]
 refine ⟨h3, h12, ?_, hset, _, hfl, ((ofS_some hof).1 t (refT_mem hrt)).2.2.2.2 f (fieldM_mem hf).1 |>.2.2.2.2.1, hok⟩
 cases hks : kindS l f.kind with
 | none => rw [valP_no hks] at hok; cases hok
 | some Y =>
  rw [valP_on hks] at hok
  obtain ⟨x, hx⟩ := Option.isSome_iff_exists.1 hok
  exact (whole_more hx).2.2
theorem set_len {l k s val x : Bs} {tag : Int} (h : setP l k s tag val = some x) : x.length ≤ 400 := by
 obtain ⟨X, t, p, f, y, hr, hf, hy, hr2⟩ := set_rec h
 exact hr2.hlen
theorem fieldVP_len (l k s : Bs) (tag : Int) : ((fieldVP l k s tag).getD []).length ≤ 400 := by
 cases h : fieldVP l k s tag with
 | none => simp
 | some v => exact (law_field2 h).2.2.1
end Go.Proofs.YtcjooeklehggaaaGreatDoor
