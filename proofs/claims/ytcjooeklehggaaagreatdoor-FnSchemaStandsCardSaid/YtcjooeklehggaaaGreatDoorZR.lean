/- Lemmas that the laws of this seat use, texts laid behind one another: M3f. -/
import Derived.Test.YtcjooeklehggaaaGreatDoorZA
set_option linter.unusedVariables false
set_option linter.unusedSimpArgs false
/-! Chapter 3 without any Go: names of a schema are apart, tags of a type ascend. -/
namespace Go.Proofs.YtcjooeklehggaaaGreatDoor.M

theorem dist_nodup (p Q : List Ty) (h : distFrom p Q = true) : (Q.map (·.name)).Nodup ∧ ∀ t ∈ Q, ∀ u ∈ p, u.name ≠ t.name := by
  induction Q generalizing p with
  | nil => simp
  | cons t r ih =>
    rw [distFrom, Bool.and_eq_true] at h
    obtain ⟨h1, h2⟩ := ih (p ++ [t]) h.2
    have hn := hasName_no (p := p) (n := t.name) (by simpa using h.1)
    refine ⟨?_, ?_⟩
    · rw [List.map_cons, List.nodup_cons]
      refine ⟨?_, h1⟩
      intro hm
      obtain ⟨u, hu, e⟩ := List.mem_map.1 hm
      exact h2 u hu t (by simp) e.symm
    · intro u hu v hv
      rcases List.mem_cons.1 hu with rfl | hu
      · exact hn v hv
      · exact h2 u hu v (by simp [hv])
theorem names_nodup {s : Bs} {X : List Ty} (h : ofS s = some X) : (X.map (·.name)).Nodup := by
  have hv := (ofS_some h).2.2
  unfold validB at hv
  rw [Bool.and_eq_true, validFrom_eq, Bool.and_eq_true] at hv
  exact (dist_nodup [] X hv.1.1).1
/-- Tags that ascend. -/
def Asc (fs : List Fl) : Prop := fs.Pairwise fun a b => a.tag < b.tag
theorem clash_lt {fs : List Fl} {f : Fl} (h : clash fs f = false) : ∀ g ∈ fs, g.tag < f.tag := by
  intro g hg
  unfold clash at h
  have := List.any_eq_false.1 h g hg
  unfold clash1 at this
  simp at this
  exact this.1
theorem readFields_asc {c : Int} {L : List Bs} {fs x : List Fl} (hf : Asc fs) (h : readFields c L fs = some x) : Asc x := by
  induction L generalizing fs with
  | nil => injection h with h; subst h; exact hf
  | cons s r ih =>
    rw [readFields] at h
    split at h
    · cases h
    · rename_i f hr
      split at h
      · cases h
      · rename_i hc
        refine ih ?_ h
        unfold Asc at *
        rw [List.pairwise_append]
        refine ⟨hf, List.pairwise_singleton _ _, ?_⟩
        intro a ha b hb
        simp at hb; subst hb
        exact clash_lt (Bool.eq_false_iff.2 hc) a ha
theorem readType_asc {s : Bs} {t : Ty} (h : readType s = some t) : Asc t.fields := by
  unfold readType at h
  split at h
  · split at h
    · split at h
      · split at h
        · injection h with h; subst h; exact List.Pairwise.nil
        · cases h
      · unfold tyOf at h
        split at h
        · cases h
        · rename_i fs hr
          split at h
          · injection h with h; subst h; exact readFields_asc List.Pairwise.nil hr
          · cases h
    · cases h
  · cases h
theorem readTypes_asc {L : List Bs} {P X : List Ty} (hp : ∀ t ∈ P, Asc t.fields) (h : readTypes L P = some X) : ∀ t ∈ X, Asc t.fields := by
  induction L generalizing P with
  | nil => injection h with h; subst h; exact hp
  | cons s r ih =>
    rw [readTypes] at h
    split at h
    · cases h
    · rename_i t hr
      refine ih ?_ h
      intro u hu
      rcases List.mem_append.1 hu with hu | hu
      · exact hp u hu
      · simp at hu; subst hu; exact readType_asc hr
theorem ofS_asc {s : Bs} {X : List Ty} (h : ofS s = some X) : ∀ t ∈ X, Asc t.fields := by
  unfold ofS at h
  split at h
  · split at h
    · cases h
    · rename_i Y hY
      split at h
      · injection h with h; subst h
        exact readTypes_asc (by simp) hY
      · cases h
  · cases h
theorem find_uniq {X : List Ty} (hn : (X.map (·.name)).Nodup) {t : Ty} (h : t ∈ X) : find X t.name = some t := by
  induction X with
  | nil => cases h
  | cons u r ih =>
    rw [List.map_cons, List.nodup_cons] at hn
    unfold find
    rw [List.find?_cons]
    rcases List.mem_cons.1 h with rfl | h
    · simp
    · have : (u.name == t.name) = false := by
        rw [beq_eq_false_iff_ne]
        intro e
        exact hn.1 (e ▸ List.mem_map.2 ⟨t, h, rfl⟩)
      rw [this]
      exact ih hn.2 h
theorem findV_mem {l n : Bs} {t : Ty} (h : findV l n = some t) : ∃ X, ofS l = some X ∧ t ∈ X := by
  unfold findV at h
  cases ho : ofS l with
  | none => rw [ho] at h; cases h
  | some X => rw [ho] at h; exact ⟨X, rfl, (find_mem (show find X n = some t from h)).1⟩
theorem findV_names {l : Bs} {X : List Ty} (h : ofS l = some X) (k : Nat) (hk : k < X.length) : findV l (X[k].name) = some X[k] := by
  unfold findV; rw [h]
  exact find_uniq (names_nodup h) (List.getElem_mem hk)
end Go.Proofs.YtcjooeklehggaaaGreatDoor.M
