/- Lemmas of this seat. -/
import Derived.Test.YtcjooeklehggaaaGreatDoorYAs
import Derived.Test.YtcjooeklehggaaaGreatDoorYCs
import Derived.Test.YtcjooeklehggaaaGreatDoorYIs
import Derived.Test.YtcjooeklehggaaaGreatDoorYPs
set_option linter.unusedVariables false
set_option linter.unusedSimpArgs false
set_option maxRecDepth 100000
namespace Go.Proofs.YtcjooeklehggaaaGreatDoor.M
def woP (tag : Int) : List Int → List V → List Int × List V
 | g :: gs, x :: xs => if g = tag then woP tag gs xs else (g :: (woP tag gs xs).1, x :: (woP tag gs xs).2)
 | _, _ => ([], [])
def wiL (tag : Int) (y : V) : List Int → List V → Bool → List Int × List V
 | g :: gs, x :: xs, done =>
  if done = false ∧ tag < g then (tag :: g :: (wiL tag y gs xs true).1, y :: x :: (wiL tag y gs xs true).2)
  else if g = tag then wiL tag y gs xs done
  else (g :: (wiL tag y gs xs done).1, x :: (wiL tag y gs xs done).2)
 | _, _, done => if done = true then ([], []) else ([tag], [y])
def putP (tag : Int) (y : V) : List Int → List V → List Int × List V
 | g :: gs, x :: xs => if g < tag then (g :: (putP tag y gs xs).1, x :: (putP tag y gs xs).2) else (tag :: g :: gs, y :: x :: xs)
 | _, _ => ([tag], [y])
theorem wo_len (tag : Int) (gs : List Int) (l : List V) (h : gs.length = l.length) : (woP tag gs l).1.length = (woP tag gs l).2.length ∧ (woP tag gs l).2.length ≤ l.length := by
 induction gs generalizing l with
 | nil => cases l <;> simp [woP]
 | cons g gs ih =>
  cases l with
  | nil => simp at h
  | cons x xs =>
   have := ih xs (by simpa using h)
   rw [woP]
   split
   ·exact ⟨this.1, by simp; omega⟩
   ·simp; omega
theorem wo_mem (tag : Int) (gs : List Int) (l : List V) : ∀ a ∈ (woP tag gs l).1, a ∈ gs ∧ a ≠ tag := by
 induction gs generalizing l with
 | nil => simp [woP]
 | cons g gs ih =>
  cases l with
  | nil => simp [woP]
  | cons x xs =>
   rw [woP]
   split
   ·intro a ha
    have := ih xs a ha
    exact ⟨List.mem_cons_of_mem _ this.1, this.2⟩
   ·rename_i hg
    intro a ha
    simp at ha
    rcases ha with rfl | ha
    ·exact ⟨by simp, hg⟩
    ·have := ih xs a ha
     exact ⟨List.mem_cons_of_mem _ this.1, this.2⟩
theorem wo_mem2 (tag : Int) (gs : List Int) (l : List V) : ∀ a ∈ (woP tag gs l).2, a ∈ l := by
 induction gs generalizing l with
 | nil => simp [woP]
 | cons g gs ih =>
  cases l with
  | nil => simp [woP]
  | cons x xs =>
   rw [woP]
   split
   ·intro a ha; exact List.mem_cons_of_mem _ (ih xs a ha)
   ·intro a ha
    simp at ha
    rcases ha with rfl | ha
    ·simp
    ·exact List.mem_cons_of_mem _ (ih xs a ha)
theorem wo_asc (tag : Int) (gs : List Int) (l : List V) (h : gs.Pairwise (· < ·)) : (woP tag gs l).1.Pairwise (· < ·) := by
 induction gs generalizing l with
 | nil => simp [woP]
 | cons g gs ih =>
  cases l with
  | nil => simp [woP]
  | cons x xs =>
   rw [List.pairwise_cons] at h
   rw [woP]
   split
   ·exact ih xs h.2
   ·rw [List.pairwise_cons]
    exact ⟨fun a ha => h.1 a (wo_mem tag gs xs a ha).1, ih xs h.2⟩
theorem wo_all (tag : Int) (gs : List Int) (l : List V) (hl : gs.length = l.length) (h : ∀ g ∈ gs, g ≠ tag) : woP tag gs l = (gs, l) := by
 induction gs generalizing l with
 | nil => cases l with | nil => rfl | cons _ _ => simp at hl
 | cons g gs ih =>
  cases l with
  | nil => simp at hl
  | cons x xs => rw [woP, if_neg (h g (by simp)), ih xs (by simpa using hl) (fun a ha => h a (by simp [ha]))]
theorem wiL_done (tag : Int) (y : V) (gs : List Int) (l : List V) (hl : gs.length = l.length) (h : ∀ g ∈ gs, g ≠ tag) : wiL tag y gs l true = (gs, l) := by
 induction gs generalizing l with
 | nil => cases l with | nil => rfl | cons _ _ => simp at hl
 | cons g gs ih =>
  cases l with
  | nil => simp at hl
  | cons x xs => rw [wiL, if_neg (by simp), if_neg (h g (by simp)), ih xs (by simpa using hl) (fun a ha => h a (by simp [ha]))]
theorem wiL_put (tag : Int) (y : V) (gs : List Int) (l : List V) (hl : gs.length = l.length) (ha : gs.Pairwise (· < ·)) : wiL tag y gs l false = putP tag y (woP tag gs l).1 (woP tag gs l).2 := by
 induction gs generalizing l with
 | nil => cases l with | nil => rfl | cons _ _ => simp at hl
 | cons g gs ih =>
  cases l with
  | nil => simp at hl
  | cons x xs =>
   rw [List.pairwise_cons] at ha
   have hl' : gs.length = xs.length := by simpa using hl
   rw [wiL, woP]
   by_cases h1 : tag < g
   ·have hne : ∀ a ∈ gs, a ≠ tag := fun a h => by have := ha.1 a h; omega
    rw [if_pos ⟨rfl, h1⟩, if_neg (show ¬ g = tag by omega), wiL_done tag y gs xs hl' hne, wo_all tag gs xs hl' hne]
    simp only
    rw [putP, if_neg (by omega)]
   ·rw [if_neg (fun h => h1 h.2)]
    by_cases h2 : g = tag
    ·rw [if_pos h2, if_pos h2, ih xs hl' ha.2]
    ·rw [if_neg h2, if_neg h2, ih xs hl' ha.2]
     simp only
     rw [putP, if_pos (by omega)]
theorem put_len (tag : Int) (y : V) (gs : List Int) (l : List V) (h : gs.length = l.length) : (putP tag y gs l).1.length = l.length + 1 ∧ (putP tag y gs l).2.length = l.length + 1 := by
 induction gs generalizing l with
 | nil => cases l with | nil => exact ⟨rfl, rfl⟩ | cons _ _ => simp at h
 | cons g gs ih =>
  cases l with
  | nil => simp at h
  | cons x xs =>
   have := ih xs (by simpa using h)
   rw [putP]
   split
   ·simp; omega
   ·simp at h ⊢; omega
theorem put_mem (tag : Int) (y : V) (gs : List Int) (l : List V) : ∀ a ∈ (putP tag y gs l).1, a = tag ∨ a ∈ gs := by
 induction gs generalizing l with
 | nil => simp [putP]
 | cons g gs ih =>
  cases l with
  | nil => simp [putP]
  | cons x xs =>
   rw [putP]
   split
   ·intro a ha
    simp at ha
    rcases ha with rfl | ha
    ·simp
    ·rcases ih xs a ha with h | h
     ·exact .inl h
     ·exact .inr (by simp [h])
   ·intro a ha
    simp at ha ⊢; omega
theorem put_asc (tag : Int) (y : V) (gs : List Int) (l : List V) (h : gs.Pairwise (· < ·)) (hn : ∀ g ∈ gs, g ≠ tag) : (putP tag y gs l).1.Pairwise (· < ·) := by
 induction gs generalizing l with
 | nil => simp [putP]
 | cons g gs ih =>
  cases l with
  | nil => simp [putP]
  | cons x xs =>
   have h' := h
   rw [List.pairwise_cons] at h
   rw [putP]
   split
   ·rename_i hg
    rw [List.pairwise_cons]
    refine ⟨fun a ha => ?_, ih xs h.2 (fun a ha => hn a (by simp [ha]))⟩
    rcases put_mem tag y gs xs a ha with rfl | h2
    ·exact hg
    ·exact h.1 a h2
   ·rename_i hg
    have := hn g (by simp)
    rw [List.pairwise_cons]
    refine ⟨fun a ha => ?_, h'⟩
    simp at ha
    rcases ha with rfl | ha
    ·omega
    ·have := h.1 a ha; omega
theorem put_zip (tag : Int) (y : V) (gs : List Int) (l : List V) (h : gs.length = l.length) : ((putP tag y gs l).1.zip (putP tag y gs l).2).Perm (gs.zip l ++ [(tag, y)]) := by
 induction gs generalizing l with
 | nil => cases l with | nil => exact .refl _ | cons _ _ => simp at h
 | cons g gs ih =>
  cases l with
  | nil => simp at h
  | cons x xs =>
   rw [putP]
   split
   ·exact (ih xs (by simpa using h)).cons (g, x)
   ·show ((tag, y) :: ((g :: gs).zip (x :: xs))).Perm _
    exact (List.perm_append_singleton (tag, y) ((g :: gs).zip (x :: xs))).symm
theorem wo_zip (tag : Int) (gs : List Int) (l : List V) (h : gs.length = l.length) : (woP tag gs l).1.zip (woP tag gs l).2 = (gs.zip l).filter fun p => decide (p.1 ≠ tag) := by
 induction gs generalizing l with
 | nil => cases l with | nil => rfl | cons _ _ => simp at h
 | cons g gs ih =>
  cases l with
  | nil => simp at h
  | cons x xs =>
   have := ih xs (by simpa using h)
   rw [woP, List.zip_cons_cons, List.filter_cons]
   split
   ·rename_i hg
    rw [if_neg (by simp [hg]), this]
   ·rename_i hg
    rw [if_pos (by simp [hg]), List.zip_cons_cons, this]
theorem tv_wo {X : List Ty} {k : Bs} {gs : List Int} {l : List V} (h : Tv X (.mk k [82] gs l)) (tag : Int) : Tv X (.mk k [82] (woP tag gs l).1 (woP tag gs l).2) := by
 cases h with
 | num h => exact absurd h (by decide)
 | text h => exact absurd h (by decide)
 | record hk h hr hs hl ha hf hx =>
  refine .record hk h hr hs (wo_len tag gs l hl).1 (wo_asc tag gs l ha) ?_ (fun x hx' => hx x (wo_mem2 tag gs l x hx'))
  intro i h1 h2
  have hm : ((woP tag gs l).1[i], (woP tag gs l).2[i]) ∈ (woP tag gs l).1.zip (woP tag gs l).2 := by
   have : i < ((woP tag gs l).1.zip (woP tag gs l).2).length := by simp; omega
   have e := List.getElem_zip (i := i) (h := this)
   rw [← e]; exact List.getElem_mem this
  rw [wo_zip tag gs l hl] at hm
  obtain ⟨j, hj, e⟩ := List.getElem_of_mem (List.mem_filter.1 hm).1
  rw [List.getElem_zip] at e
  injection e with e1 e2
  have hj' : j < gs.length ∧ j < l.length := by simp at hj; omega
  obtain ⟨f, f1, f2, f3⟩ := hf j hj'.1 hj'.2
  rw [e1] at f1
  rw [e2] at f2 f3
  exact ⟨f, f1, f2, f3⟩
theorem tv_put {X : List Ty} {k : Bs} {gs : List Int} {l : List V} (h : Tv X (.mk k [82] gs l)) (tag : Int) (hn : ∀ g ∈ gs, g ≠ tag) {y : V} {t : Ty} {f : Fl} (hr' : refT X k = some t) (hf' : fieldM t tag = some f) (hk' : y.kind = f.kind) (ho : outV y ≠ standM X f) (hy : Tv X y) : Tv X (.mk k [82] (putP tag y gs l).1 (putP tag y gs l).2) := by
 cases h with
 | num h => exact absurd h (by decide)
 | text h => exact absurd h (by decide)
 | @record _ t' _ _ hk h hr hs hl ha hf hx =>
  have et : t' = t := by rw [hr] at hr'; injection hr'
  subst et
  obtain ⟨p1, p2⟩ := put_len tag y gs l hl
  have hz : ∀ (i : Nat) (h1 : i < (putP tag y gs l).1.length) (h2 : i < (putP tag y gs l).2.length), ((putP tag y gs l).1[i], (putP tag y gs l).2[i]) ∈ gs.zip l ++ [(tag, y)] := by
   intro i h1 h2
   have : i < ((putP tag y gs l).1.zip (putP tag y gs l).2).length := by simp; omega
   have e := List.getElem_zip (i := i) (h := this)
   refine (put_zip tag y gs l hl).mem_iff.1 ?_
   rw [← e]; exact List.getElem_mem this
  refine .record hk h hr hs (by rw [p1, p2]) (put_asc tag y gs l ha hn) ?_ ?_
  ·intro i h1 h2
   rcases List.mem_append.1 (hz i h1 h2) with hm | hm
   ·obtain ⟨j, hj, e⟩ := List.getElem_of_mem hm
    rw [List.getElem_zip] at e
    injection e with e1 e2
    have hj' : j < gs.length ∧ j < l.length := by simp at hj; omega
    obtain ⟨f, f1, f2, f3⟩ := hf j hj'.1 hj'.2
    rw [e1] at f1
    rw [e2] at f2 f3
    exact ⟨f, f1, f2, f3⟩
   ·have e := List.mem_singleton.1 hm
    injection e with e1 e2
    rw [e1, e2]; exact ⟨f, hf', hk', ho⟩
  ·intro x hx'
   obtain ⟨i, hi, rfl⟩ := List.getElem_of_mem hx'
   rcases List.mem_append.1 (hz i (by omega) hi) with hm | hm
   ·exact hx _ (List.of_mem_zip hm).2
   ·have e := List.mem_singleton.1 hm
    injection e with e1 e2
    rw [e2]; exact hy
theorem whole_back {X : List Ty} (hg : ∀ t ∈ X, GoodT t) {x : V} (h : Tv X x) (d : Nat) : (match readF X d (outV x) x.kind with | none => none | some y => if y.2 = [] then some y.1 else none) = if deepV x ≤ d then some x else none := by
 by_cases hd : deepV x ≤ d
 ·have := read_back hg x h d hd [] (by decide)
  rw [List.append_nil] at this
  rw [if_pos hd, show readF X d (outV x) x.kind = some (x, []) from this]; rfl
 ·rw [if_neg hd]
  have := read_back hg x h (max d (deepV x)) (by omega) [] (by decide)
  rw [List.append_nil] at this
  cases hr : readF X d (outV x) x.kind with
  | none => rfl
  | some y =>
   obtain ⟨h3, h4⟩ := (readF_cut X d (max d (deepV x)) (by omega) _ _ y).1 hr
   rw [show readF X (max d (deepV x)) (outV x) x.kind = some (x, []) from this] at h3
   injection h3 with h3
   subst h3
   exact absurd h4 hd
theorem asc_perm_eq {α : Type} (f : α → Int) (l1 l2 : List α) (h1 : l1.Pairwise fun a b => f a < f b) (h2 : l2.Pairwise fun a b => f a < f b) (hp : l1.Perm l2) : l1 = l2 := by
 induction l1 generalizing l2 with
 | nil => exact hp.nil_eq
 | cons a t ih =>
  cases l2 with
  | nil => exact absurd hp.symm.nil_eq (by simp)
  | cons b s =>
   rw [List.pairwise_cons] at h1 h2
   have hab : a = b := by
    rcases List.mem_cons.1 (hp.mem_iff.1 (List.mem_cons_self)) with h | h
    ·exact h
    ·rcases List.mem_cons.1 (hp.mem_iff.2 (List.mem_cons_self)) with h' | h'
     ·exact h'.symm
     ·have := h1.1 b h'
      have := h2.1 a h
      omega
   subst hab
   rw [ih s h1.2 h2.2 (List.Perm.cons_inv hp)]
theorem zip_asc (gs : List Int) (l : List V) (h : gs.Pairwise (· < ·)) : (gs.zip l).Pairwise fun a b => a.1 < b.1 := by
 induction gs generalizing l with
 | nil => simp
 | cons g gs ih =>
  cases l with
  | nil => simp
  | cons x xs =>
   rw [List.pairwise_cons] at h
   rw [List.zip_cons_cons, List.pairwise_cons]
   exact ⟨fun a ha => h.1 a.1 (List.of_mem_zip ha).1, ih xs h.2⟩
theorem asc_of_le {α : Type} (f : α → Int) (l : List α) (h : l.Pairwise fun a b => f a ≤ f b) (hn : (l.map f).Nodup) : l.Pairwise fun a b => f a < f b := by
 induction l with
 | nil => simp
 | cons a l ih =>
  rw [List.pairwise_cons] at h ⊢
  rw [List.map_cons, List.nodup_cons] at hn
  refine ⟨fun b hb => ?_, ih h.2 hn.2⟩
  have h1 := h.1 b hb
  have h2 : f a ≠ f b := fun e => hn.1 (by rw [e]; exact List.mem_map_of_mem hb)
  omega
theorem asc_nodup (gs : List Int) (h : gs.Pairwise (· < ·)) : gs.Nodup := h.imp (fun h e => by omega)
def totL (l : List V) : Nat := (l.map fun x => (outV x).length).sum
theorem tot_cons (x : V) (l : List V) : totL (x :: l) = (outV x).length + totL l := by simp [totL]
theorem told_tot (gs : List Int) (l : List V) (hb : ∀ g ∈ gs, 0 ≤ g ∧ g ≤ 200) : (joinC (toldL gs (l.map outV))).length ≤ totL l + 10 * l.length := by
 induction l generalizing gs with
 | nil => cases gs <;> simp [toldL, joinC]
 | cons x l ih =>
  cases gs with
  | nil => simp [toldL, joinC]
  | cons g gs =>
   have h2 := ih gs (fun a ha => hb a (by simp [ha]))
   have h3 : (dec g).length ≤ 3 := by
    have := hb g (by simp)
    unfold dec; exact decN_le 3 _ (by omega) (by omega)
   rw [tot_cons]
   cases l with
   | nil => cases gs <;> (simp [toldL, joinC]; omega)
   | cons y l =>
    cases gs with
    | nil => simp [toldL, joinC]; omega
    | cons g2 gs =>
     simp only [List.map_cons, toldL, joinC, List.length_append, List.length_cons] at h2 ⊢
     omega
theorem put_tot (tag : Int) (y : V) (gs : List Int) (l : List V) (h : gs.length = l.length) : totL (putP tag y gs l).2 = totL l + (outV y).length := by
 induction gs generalizing l with
 | nil => cases l with | nil => simp [putP, totL] | cons _ _ => simp at h
 | cons g gs ih =>
  cases l with
  | nil => simp at h
  | cons x xs =>
   have := ih xs (by simpa using h)
   rw [putP]
   split
   ·rw [tot_cons, tot_cons, this]; omega
   ·simp only [tot_cons]; omega
theorem wo_tot (tag : Int) (gs : List Int) (l : List V) : totL (woP tag gs l).2 ≤ totL l := by
 induction gs generalizing l with
 | nil => simp [woP, totL]
 | cons g gs ih =>
  cases l with
  | nil => simp [woP]
  | cons x xs =>
   have := ih xs
   rw [woP]
   split
   ·rw [tot_cons]; omega
   ·rw [tot_cons, tot_cons]; omega
theorem tot_le (l : List V) (n : Nat) (h : ∀ x ∈ l, (outV x).length ≤ n) : totL l ≤ l.length * n := by
 induction l with
 | nil => simp [totL]
 | cons x l ih =>
  have h1 := h x (by simp)
  have h2 := ih (fun a ha => h a (by simp [ha]))
  rw [tot_cons, List.length_cons, Nat.succ_mul]; omega
theorem tv_tags {X : List Ty} (hg : ∀ t ∈ X, GoodT t) {k : Bs} {gs : List Int} {l : List V} (h : Tv X (.mk k [82] gs l)) : ∀ g ∈ gs, 0 ≤ g ∧ g ≤ 200 := by
 cases h with
 | num h => exact absurd h (by decide)
 | text h => exact absurd h (by decide)
 | @record _ t _ _ hk h hr hs hl ha hf hx =>
  intro g hgm
  obtain ⟨i, hi, rfl⟩ := List.getElem_of_mem hgm
  obtain ⟨f, f1, -⟩ := hf i hi (by omega)
  obtain ⟨m1, m2⟩ := fieldM_mem f1
  have := (hg t (refT_mem hr)).2.2.2.2 f m1
  have h1 := this.1
  have h2 := this.2.1
  omega
def setV (X : List Ty) (val : Bs) (f : Fl) (tag : Int) (y : V) (k t : Bs) (gs : List Int) (l : List V) : V :=
 if val = standM X f then .mk k t (woP tag gs l).1 (woP tag gs l).2 else .mk k t (putP tag y (woP tag gs l).1 (woP tag gs l).2).1 (putP tag y (woP tag gs l).1 (woP tag gs l).2).2
theorem setV_stand {X : List Ty} {val : Bs} {f : Fl} (h : val = standM X f) (tag : Int) (y : V) (k t : Bs) (gs : List Int) (l : List V) : setV X val f tag y k t gs l = .mk k t (woP tag gs l).1 (woP tag gs l).2 := if_pos h
theorem setV_put {X : List Ty} {val : Bs} {f : Fl} (h : ¬ val = standM X f) (tag : Int) (y : V) (k t : Bs) (gs : List Int) (l : List V) (hl : gs.length = l.length) (ha : gs.Pairwise (· < ·)) : setV X val f tag y k t gs l = .mk k t (wiL tag y gs l false).1 (wiL tag y gs l false).2 := by
 rw [wiL_put tag y gs l hl ha]; exact if_neg h
theorem tv_up {X : List Ty} {k : Bs} {gs : List Int} {l : List V} (h : Tv X (.mk k [82] gs l)) : gs.length = l.length ∧ gs.Pairwise (· < ·) := by
 cases h with
 | num h => exact absurd h (by decide)
 | text h => exact absurd h (by decide)
 | record hk h hr hs hl ha hf hx => exact ⟨hl, ha⟩
theorem setV_tv {X : List Ty} {val : Bs} {f : Fl} {tag : Int} {y : V} {k : Bs} {gs : List Int} {l : List V} {t : Ty} (h : Tv X (.mk k [82] gs l)) (hr : refT X k = some t) (hf : fieldM t tag = some f) (ho : outV y = val) (hk : y.kind = f.kind) (hy : Tv X y) : Tv X (setV X val f tag y k [82] gs l) := by
 unfold setV
 split
 ·exact tv_wo h tag
 ·rename_i hn
  have h1 := tv_wo h tag
  exact tv_put h1 tag (fun g hgm => (wo_mem tag gs l g hgm).2) hr hf hk (by rw [ho]; exact hn) hy
theorem setV_kind (X : List Ty) (val : Bs) (f : Fl) (tag : Int) (y : V) (k t : Bs) (gs : List Int) (l : List V) : (setV X val f tag y k t gs l).kind = k := by unfold setV; split <;> rfl
theorem setV_len {X : List Ty} (hg : ∀ t ∈ X, GoodT t) {val : Bs} {f : Fl} {tag : Int} {y : V} {k : Bs} {gs : List Int} {l : List V} (h : Tv X (.mk k [82] gs l)) (h64 : at_ k 0 = 64) (ht : 0 ≤ tag ∧ tag ≤ 200) (hl : (outV (.mk k [82] gs l)).length ≤ 400) (hy : (outV y).length ≤ 1048576) :
  (outV (setV X val f tag y k [82] gs l)).length ≤ 1500000 := by
 obtain ⟨hk1, hk2⟩ := tv_kids h
 rw [show (V.mk k [82] gs l).kids = l from rfl] at hk1 hk2
 obtain ⟨hgl, -⟩ := tv_up h
 have hgt := tv_tags hg h
 have h1 : totL l ≤ l.length * 400 := tot_le l 400 (fun x hx => by have := (hk2 x hx).2; omega)
 have h2 := wo_tot tag gs l
 obtain ⟨h3, h4⟩ := wo_len tag gs l hgl
 have h5 : totL l ≤ 160000 := by have : l.length * 400 ≤ 400 * 400 := Nat.mul_le_mul_right _ (by omega); omega
 unfold setV
 split
 ·rw [out_record h64 (by decide) (by decide)]
  have := told_tot (woP tag gs l).1 (woP tag gs l).2 (fun g hgm => hgt g (wo_mem tag gs l g hgm).1)
  simp; omega
 ·rw [out_record h64 (by decide) (by decide)]
  have h6 := put_tot tag y (woP tag gs l).1 (woP tag gs l).2 h3
  have h7 := put_len tag y (woP tag gs l).1 (woP tag gs l).2 h3
  have := told_tot (putP tag y (woP tag gs l).1 (woP tag gs l).2).1 (putP tag y (woP tag gs l).1 (woP tag gs l).2).2 (fun g hgm => by
   rcases put_mem tag y (woP tag gs l).1 (woP tag gs l).2 g hgm with rfl | h
   ·exact ht
   ·exact hgt g (wo_mem tag gs l g h).1)
  simp; omega
theorem put_long {X : List Ty} {f : Fl} {tag : Int} {y : V} {k : Bs} {gs : List Int} {l : List V} (h64 : at_ k 0 = 64) (h : gs.length = l.length) (hn : ¬ (outV y).length ≤ 400) : ¬ (outV (.mk k [82] (putP tag y gs l).1 (putP tag y gs l).2)).length ≤ 400 := by
 obtain ⟨h1, h2⟩ := put_len tag y gs l h
 have hm : y ∈ (putP tag y gs l).2 := by
  induction gs generalizing l with
  | nil => cases l with | nil => simp [putP] | cons _ _ => simp at h
  | cons g gs ih =>
   cases l with
   | nil => simp at h
   | cons x xs =>
    have hl : gs.length = xs.length := by simpa using h
    rw [putP]
    split
    ·exact List.mem_cons_of_mem _ (ih hl (put_len tag y gs xs hl).1 (put_len tag y gs xs hl).2)
    ·simp
 obtain ⟨i, hi, e⟩ := List.getElem_of_mem hm
 have := record_len (t := [82]) h64 (by decide) (by decide) (show (putP tag y gs l).1.length = (putP tag y gs l).2.length by omega) i hi
 rw [e] at this
 omega
theorem standM_len {X : List Ty} (hg : ∀ t ∈ X, GoodT t) (hv : validB X = true) (h8 : X.length ≤ 8) {f : Fl} (h : f.stand.length ≤ 14) : (standM X f).length ≤ 100 := by
 unfold standM
 split
 ·have := standsF_len X hg _ _ _ (standsV_ok hv hg f.kind)
  omega
 ·omega
end Go.Proofs.YtcjooeklehggaaaGreatDoor.M
namespace Go.Proofs.YtcjooeklehggaaaGreatDoor
open Go.ChangeShapes Go.WideShapes Go.ChangeAt Go.RowKit M
def woG {α : Type} (tag : Int) : List Int → List α → List Int × List α
 | g :: gs, x :: xs => if g = tag then woG tag gs xs else (g :: (woG tag gs xs).1, x :: (woG tag gs xs).2)
 | _, _ => ([], [])
def wiG {α : Type} (tag : Int) (y : α) : List Int → List α → Bool → List Int × List α
 | g :: gs, x :: xs, done =>
  if done = false ∧ tag < g then (tag :: g :: (wiG tag y gs xs true).1, y :: x :: (wiG tag y gs xs true).2)
  else if g = tag then wiG tag y gs xs done
  else (g :: (wiG tag y gs xs done).1, x :: (wiG tag y gs xs done).2)
 | _, _, done => if done = true then ([], []) else ([tag], [y])
theorem woG_P (tag : Int) (gs : List Int) (l : List V) : woG tag gs l = woP tag gs l := by
 induction gs generalizing l with
 | nil => cases l <;> rfl
 | cons g gs ih =>
  cases l with
  | nil => rfl
  | cons x xs => rw [woG, woP, ih]
theorem wiG_L (tag : Int) (y : V) (gs : List Int) (l : List V) (b : Bool) : wiG tag y gs l b = wiL tag y gs l b := by
 induction gs generalizing l b with
 | nil => cases l <;> rfl
 | cons g gs ih =>
  cases l with
  | nil => rfl
  | cons x xs => rw [wiG, wiL, ih, ih]
section
variable {α : Type} {tag : Int} {y : α} {gs : List Int} {l : List α} {j : Nat}
theorem woG_no (h1 : j < gs.length) (h2 : j < l.length) (h : gs[j] = tag) : woG tag (gs.drop j) (l.drop j) = woG tag (gs.drop (j + 1)) (l.drop (j + 1)) := by
 rw [List.drop_eq_getElem_cons h1, List.drop_eq_getElem_cons h2, woG, if_pos h]
theorem woG_yes (h1 : j < gs.length) (h2 : j < l.length) (h : ¬ gs[j] = tag) : woG tag (gs.drop j) (l.drop j) = (gs[j] :: (woG tag (gs.drop (j + 1)) (l.drop (j + 1))).1, l[j] :: (woG tag (gs.drop (j + 1)) (l.drop (j + 1))).2) := by
 rw [List.drop_eq_getElem_cons h1, List.drop_eq_getElem_cons h2, woG, if_neg h]
theorem woG_end (h1 : gs.length ≤ j) : woG tag (gs.drop j) (l.drop j) = ([], []) := by rw [List.drop_of_length_le h1]; rfl
theorem wiG_put (h1 : j < gs.length) (h2 : j < l.length) (h : tag < gs[j]) : wiG tag y (gs.drop j) (l.drop j) false = (tag :: gs[j] :: (wiG tag y (gs.drop (j + 1)) (l.drop (j + 1)) true).1, y :: l[j] :: (wiG tag y (gs.drop (j + 1)) (l.drop (j + 1)) true).2) := by
 rw [List.drop_eq_getElem_cons h1, List.drop_eq_getElem_cons h2, wiG, if_pos ⟨rfl, h⟩]
theorem wiG_no {b : Bool} (h1 : j < gs.length) (h2 : j < l.length) (hb : ¬ (b = false ∧ tag < gs[j])) (h : gs[j] = tag) : wiG tag y (gs.drop j) (l.drop j) b = wiG tag y (gs.drop (j + 1)) (l.drop (j + 1)) b := by
 rw [List.drop_eq_getElem_cons h1, List.drop_eq_getElem_cons h2, wiG, if_neg hb, if_pos h]
theorem wiG_yes {b : Bool} (h1 : j < gs.length) (h2 : j < l.length) (hb : ¬ (b = false ∧ tag < gs[j])) (h : ¬ gs[j] = tag) : wiG tag y (gs.drop j) (l.drop j) b = (gs[j] :: (wiG tag y (gs.drop (j + 1)) (l.drop (j + 1)) b).1, l[j] :: (wiG tag y (gs.drop (j + 1)) (l.drop (j + 1)) b).2) := by
 rw [List.drop_eq_getElem_cons h1, List.drop_eq_getElem_cons h2, wiG, if_neg hb, if_neg h]
theorem wiG_end {b : Bool} (h1 : gs.length ≤ j) : wiG tag y (gs.drop j) (l.drop j) b = if b = true then ([], []) else ([tag], [y]) := by rw [List.drop_of_length_le h1]; cases l.drop j <;> rfl
end
section
variable {w w' : World} {N : Nat → Prop}
theorem Many.cons_iff {x : V} {l : List V} {p : Nat} {ps : List Nat} : Many w N (x :: l) (p :: ps) ↔ VAt w N x p ∧ Many w N l ps := by
 constructor
 ·intro h
  refine ⟨h.2 0 (by simp) (by simp), by have := h.1; simpa using this, fun i h1 h2 => ?_⟩
  have := h.2 (i + 1) (by simpa using h1) (by simpa using h2)
  simpa using this
 ·rintro ⟨h1, h2⟩
  refine ⟨by simp [h2.1], fun i a b => ?_⟩
  cases i with
  | zero => exact h1
  | succ i => simpa using h2.2 i (by simpa using a) (by simpa using b)
theorem many_wo (tag : Int) (gs : List Int) (l : List V) (ps : List Nat) (h : Many w N l ps) : Many w N (woG tag gs l).2 (woG tag gs ps).2 := by
 induction gs generalizing l ps with
 | nil => cases l <;> cases ps <;> exact Many.nil_ _ _
 | cons g gs ih =>
  cases l with
  | nil =>
   cases ps with
   | nil => exact Many.nil_ _ _
   | cons _ _ => have := h.1; simp at this
  | cons x xs =>
   cases ps with
   | nil => have := h.1; simp at this
   | cons p ps =>
    obtain ⟨h1, h2⟩ := Many.cons_iff.1 h
    rw [woG, woG]
    split
    ·exact ih xs ps h2
    ·exact Many.cons_iff.2 ⟨h1, ih xs ps h2⟩
theorem many_wi (tag : Int) (y : V) (py : Nat) (hy : VAt w N y py) (gs : List Int) (l : List V) (ps : List Nat) (b : Bool) (h : Many w N l ps) : Many w N (wiG tag y gs l b).2 (wiG tag py gs ps b).2 := by
 have h0 : ∀ b : Bool, Many w N (if b = true then (([] : List Int), ([] : List V)) else ([tag], [y])).2 (if b = true then (([] : List Int), ([] : List Nat)) else ([tag], [py])).2 := by
  intro b
  cases b with
  | true => exact Many.nil_ _ _
  | false => exact Many.cons_iff.2 ⟨hy, Many.nil_ _ _⟩
 induction gs generalizing l ps b with
 | nil => cases l <;> cases ps <;> exact h0 b
 | cons g gs ih =>
  cases l with
  | nil =>
   cases ps with
   | nil => exact h0 b
   | cons _ _ => have := h.1; simp at this
  | cons x xs =>
   cases ps with
   | nil => have := h.1; simp at this
   | cons p ps =>
    obtain ⟨h1, h2⟩ := Many.cons_iff.1 h
    rw [wiG, wiG]
    split
    ·exact Many.cons_iff.2 ⟨hy, Many.cons_iff.2 ⟨h1, ih xs ps true h2⟩⟩
    ·split
     ·exact ih xs ps b h2
     ·exact Many.cons_iff.2 ⟨h1, ih xs ps b h2⟩
theorem woG_tags (tag : Int) (gs : List Int) (l : List V) (ps : List Nat) (h : ps.length = l.length) : (woG tag gs ps).1 = (woG tag gs l).1 := by
  induction gs generalizing l ps with
  | nil => cases l <;> cases ps <;> rfl
  | cons g gs ih =>
    cases l with
    | nil => have : ps = [] := by simpa using h
             subst this; rfl
    | cons x xs =>
      cases ps with
      | nil => simp at h
      | cons p ps =>
        rw [woG, woG, ih xs ps (by simpa using h)]
        split
        · exact ih xs ps (by simpa using h)
        · rfl
theorem wiG_tags (tag : Int) (y : V) (py : Nat) (gs : List Int) (l : List V) (ps : List Nat) (b : Bool) (h : ps.length = l.length) : (wiG tag py gs ps b).1 = (wiG tag y gs l b).1 := by
  have h0 : ∀ b : Bool, (if b = true then (([] : List Int), ([] : List Nat)) else ([tag], [py])).1 = (if b = true then (([] : List Int), ([] : List V)) else ([tag], [y])).1 := by intro b; cases b <;> rfl
  induction gs generalizing l ps b with
  | nil => cases l <;> cases ps <;> exact h0 b
  | cons g gs ih =>
    cases l with
    | nil => have : ps = [] := by simpa using h
             subst this; exact h0 b
    | cons x xs =>
      cases ps with
      | nil => simp at h
      | cons p ps =>
        rw [wiG, wiG, ih xs ps true (by simpa using h), ih xs ps b (by simpa using h)]
        split
        · rfl
        · split
          · exact ih xs ps b (by simpa using h)
          · rfl
end
structure PQ (w : World) (B q : Nat) (k t : Bs) (gs : List Int) (ps : List Nat) (a : Option Addr) (c : Nat) (a' : Option Addr) (c' : Nat) : Prop where
 lt : q < B
 blk : Blk w q 133 #[.string (S k), .string (S t), .slice a gs.length c, .slice a' ps.length c']
 tgs : Tgs w (fun b => B ≤ b) (.slice a gs.length c) gs
 kds : Kids w (fun b => B ≤ b) (.slice a' ps.length c') ps
section
variable {w w' : World} {B q : Nat} {k t : Bs} {gs : List Int} {ps : List Nat} {a a' : Option Addr} {c c' : Nat}
theorem PQ.belowed (h : PQ w B q k t gs ps a c a' c') (hb : Below w.heap.size w w') : PQ w' B q k t gs ps a c a' c' :=
 ⟨h.lt, h.blk.keep hb, h.tgs.rowed (grown_of_below hb none) (by intro r e; cases e), h.kds.rowed (grown_of_below hb none) (by intro r e; cases e)⟩
theorem PQ.start (w : World) (hq : q < B) (hb : Blk w q 133 #[.string (S k), .string (S t), .slice none 0 0, .slice none 0 0]) : PQ w B q k t [] [] none 0 none 0 := ⟨hq, hb, Tgs.nil_ _ _, Kids.nil_ _ _⟩
theorem PQ.done {N : Nat → Prop} {l : List V} (h : PQ w B q k t gs ps a c a' c') (hm : Many w N l ps) {B' : Nat} (hq : B' ≤ q) : VAt w (fun b => N b ∨ B' ≤ b) (.mk k t gs l) q := by
 have hlt := h.lt
 exact .make (.inr hq) h.blk (h.tgs.imp (by intro b _ hb; exact .inr (by omega))) (h.kds.imp (by intro b _ hb; exact .inr (by omega))) (hm.imp (by intro b _ hb; exact .inl hb))
theorem PQ.cells (h : PQ w B q k t gs ps a c a' c') : q < w.heap.size ∧ w.cell? ⟨q, 2, none⟩ = some (.slice a gs.length c) ∧ w.cell? ⟨q, 3, none⟩ = some (.slice a' ps.length c') := ⟨h.blk.lt, h.blk.cell 2, h.blk.cell 3⟩
theorem PQ.tag (h : PQ w B q k t gs ps a c a' c') (H : Nat) {n : Int} {g cap : Nat}
  (hk : Tgs w' (fun b => B ≤ b ∨ H ≤ b) (.slice (some ⟨g, 0, none⟩) (gs.length + 1) cap) (gs ++ [n])) (hg : w.grownBy w' (Value.slice a gs.length c).ownBlock) (hB : B ≤ H) :
  PQ (w'.setCell ⟨q, 2, none⟩ (.slice (some ⟨g, 0, none⟩) (gs.length + 1) cap)) B q k t (gs ++ [n]) ps (some ⟨g, 0, none⟩) cap a' c' := by
 have hlt := h.lt
 have hq : ∀ r, some q = some r → ¬ B ≤ r := by intro r e; injection e with e; omega
 have hqb : some q ≠ (Value.slice a gs.length c).ownBlock := by
  intro e
  have := h.tgs.2 q e.symm
  omega
 have e1 : (gs ++ [n]).length = gs.length + 1 := by simp
 refine ⟨hlt, ?_, ?_, ?_⟩
 ·rw [e1]; exact (h.blk.grown hg hqb).set_ 2 _
 ·rw [e1]
  exact (hk.imp (by intro b _ hb; omega)).rowed (set_self _ _ _ _) hq
 ·exact Kids.rowed (w := w') ⟨World.ownsRow.kept h.kds.1 hg (own_own h.kds.1 h.tgs.1 (by decide)), h.kds.2⟩ (set_self _ _ _ _) hq
theorem PQ.kid (h : PQ w B q k t gs ps a c a' c') (H : Nat) {p : Nat} {g cap : Nat}
  (hk : Kids w' (fun b => B ≤ b ∨ H ≤ b) (.slice (some ⟨g, 0, none⟩) (ps.length + 1) cap) (ps ++ [p])) (hg : w.grownBy w' (Value.slice a' ps.length c').ownBlock) (hB : B ≤ H) :
  PQ (w'.setCell ⟨q, 3, none⟩ (.slice (some ⟨g, 0, none⟩) (ps.length + 1) cap)) B q k t gs (ps ++ [p]) a c (some ⟨g, 0, none⟩) cap := by
 have hlt := h.lt
 have hq : ∀ r, some q = some r → ¬ B ≤ r := by intro r e; injection e with e; omega
 have hqb : some q ≠ (Value.slice a' ps.length c').ownBlock := by
  intro e
  have := h.kds.2 q e.symm
  omega
 have e1 : (ps ++ [p]).length = ps.length + 1 := by simp
 refine ⟨hlt, ?_, ?_, ?_⟩
 ·rw [e1]; exact (h.blk.grown hg hqb).set_ 3 _
 ·exact Tgs.rowed (w := w') ⟨World.ownsRow.kept h.tgs.1 hg (own_own h.tgs.1 h.kds.1 (by decide)), h.tgs.2⟩ (set_self _ _ _ _) hq
 ·rw [e1]
  exact (hk.imp (by intro b _ hb; omega)).rowed (set_self _ _ _ _) hq
theorem PQ.after_tag (h : PQ w B q k t gs ps a c a' c') (hg : w.grownBy w' (Value.slice a gs.length c).ownBlock) : w'.cell? ⟨q, 2, none⟩ = some (.slice a gs.length c) ∧ w'.frozen? ⟨q, 2, none⟩ = false ∧ q < w'.heap.size := by
 have hlt := h.lt
 have hb := h.blk.grown hg (fun e => by have := h.tgs.2 q e.symm; omega)
 exact ⟨hb.cell 2, hb.frozen 2, hb.lt⟩
theorem PQ.after_kid (h : PQ w B q k t gs ps a c a' c') (hg : w.grownBy w' (Value.slice a' ps.length c').ownBlock) : w'.cell? ⟨q, 3, none⟩ = some (.slice a' ps.length c') ∧ w'.frozen? ⟨q, 3, none⟩ = false ∧ q < w'.heap.size := by
 have hlt := h.lt
 have hb := h.blk.grown hg (fun e => by have := h.kds.2 q e.symm; omega)
 exact ⟨hb.cell 3, hb.frozen 3, hb.lt⟩
theorem PQ.below_tag {B' : Nat} (h : PQ w B q k t gs ps a c a' c') (hg : w.grownBy w' (Value.slice a gs.length c).ownBlock) (h1 : B' ≤ w.heap.size) (h2 : B' ≤ B) : Below B' w w' :=
 Below.grown (Below.refl _ _) hg h1 (fun r hr => by have := h.tgs.2 r hr; omega)
theorem PQ.below_kid {B' : Nat} (h : PQ w B q k t gs ps a c a' c') (hg : w.grownBy w' (Value.slice a' ps.length c').ownBlock) (h1 : B' ≤ w.heap.size) (h2 : B' ≤ B) : Below B' w w' :=
 Below.grown (Below.refl _ _) hg h1 (fun r hr => by have := h.kds.2 r hr; omega)
end
theorem step_app_kid {w : World} {ops : Array Oper} {o : Oper} {a : Act} {K : Act → World → Prop} {Q : Exit → Act → World → Prop} {E : Prop} (hgd : o.guard = none) (s x : Operand)
  (ho : o.op = .call { callee := .builtin .append, args := #[s, x], argTypes := #[131, 131] })
  (N : Nat → Prop) (v : Value) (L : List Nat) (hs : a.eval s = v) (hown : Kids w N v L) (b y : Nat) (hx : a.eval x = .slice (some ⟨b, 0, none⟩) 1 1) (hc : w.cell? ⟨b, 0, none⟩ = some (vp y))
  (hn : L.length ≤ 3000000) (H : Nat) (hH : w.heap.size = H)
  (h : ∀ g cap w', Kids w' (fun b => N b ∨ H ≤ b) (.slice (some ⟨g, 0, none⟩) (L.length + 1) cap) (L ++ [y]) → w.grownBy w' v.ownBlock → (v.ownBlock = some g ∨ g = H) → g < w'.heap.size → K (a.put o.dst (.slice (some ⟨g, 0, none⟩) (L.length + 1) cap)) w') :
  if Region.wanted o (yielded ops a.tmps) = true then Oper.wp Tryz.prog o a w K Q else E := by
 obtain ⟨i, hi0, hz0, hz1, hz2⟩ := info_parts info_vptr
 refine step_append_lies w hgd s x 131 ho 0 80 i _ 1 8 Tryz.underlying131 hi0 hz0 hz1 hz2 rfl (by omega) v L.length (L.map vp) hs hown.1 ⟨b, 0, none⟩ 1 1 [vp y] hx rfl ?_ ?_ (by omega) (by unfold maxLen; omega) (by omega) (Nat.zero_le _) H hH ?_
 ·intro j u hj
  match j, hj with
  | 0, hj => simp at hj; subst hj; simpa [Addr.add] using hc
 ·intro u hu; simp at hu; subst hu; rfl
 ·intro g cap w' h1 h2 h3 h4
  refine h g cap w' ⟨?_, ?_⟩ h2 h3 h4
  ·rw [List.length_append, List.map_append]; exact h1
  ·intro g' hg'
   injection hg' with hg'
   have hg2 : g = g' := hg'
   subst hg2
   rcases h3 with h3 | h3
   ·exact .inl (hown.2 g h3)
   ·exact .inr (by omega)
end Go.Proofs.YtcjooeklehggaaaGreatDoor
