/- Lemmas of this seat. -/
import Derived.Test.YtcjooeklehggaaaGreatDoorZAs
set_option linter.unusedVariables false
set_option linter.unusedSimpArgs false
set_option maxRecDepth 100000
namespace Go.Proofs.YtcjooeklehggaaaGreatDoor.M
def Asc (fs : List Fl) : Prop := fs.Pairwise fun a b => a.tag < b.tag
theorem clash_lt {fs : List Fl} {f : Fl} (h : clash fs f = false) : ∀ g ∈ fs, g.tag < f.tag := by
 intro g hg
 unfold clash at h
 have := List.any_eq_false.1 h g hg
 unfold clash1 at this
 simp at this
 exact this.1
theorem readFields_asc {c : Int} {L : List Bs} {fs x : List Fl} (hf : Asc fs) (h : readFields c L fs = some x) : Asc x := by
 induction L generalizing fs with
 | nil => injection h with h; subst h; exact hf
 | cons s r ih =>
  rw [readFields] at h
  split at h
  ·cases h
  ·rename_i f hr
   split at h
   ·cases h
   ·rename_i hc
    refine ih ?_ h
    unfold Asc at *
    rw [List.pairwise_append]
    refine ⟨hf, List.pairwise_singleton _ _, ?_⟩
    intro a ha b hb
    simp at hb; subst hb
    exact clash_lt (Bool.eq_false_iff.2 hc) a ha
theorem readType_asc {s : Bs} {t : Ty} (h : readType s = some t) : Asc t.fields := by
 unfold readType at h
 split at h
 ·split at h
  ·split at h
   ·split at h
    ·injection h with h; subst h; exact List.Pairwise.nil
    ·cases h
   ·unfold tyOf at h
    split at h
    ·cases h
    ·rename_i fs hr
     split at h
     ·injection h with h; subst h; exact readFields_asc List.Pairwise.nil hr
     ·cases h
  ·cases h
 ·cases h
theorem readTypes_asc {L : List Bs} {P X : List Ty} (hp : ∀ t ∈ P, Asc t.fields) (h : readTypes L P = some X) : ∀ t ∈ X, Asc t.fields := by
 induction L generalizing P with
 | nil => injection h with h; subst h; exact hp
 | cons s r ih =>
  rw [readTypes] at h
  split at h
  ·cases h
  ·rename_i t hr
   refine ih ?_ h
   intro u hu
   rcases List.mem_append.1 hu with hu | hu
   ·exact hp u hu
   ·simp at hu; subst hu; exact readType_asc hr
theorem ofS_asc {s : Bs} {X : List Ty} (h : ofS s = some X) : ∀ t ∈ X, Asc t.fields := by
 unfold ofS at h
 split at h
 ·split at h
  ·cases h
  ·rename_i Y hY
   split at h
   ·injection h with h; subst h
    exact readTypes_asc (by simp) hY
   ·cases h
 ·cases h
end Go.Proofs.YtcjooeklehggaaaGreatDoor.M
