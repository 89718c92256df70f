/- Lemmas of this seat. -/
import Derived.Test.YtcjooeklehggaaaGreatDoorYAs
import Derived.Test.YtcjooeklehggaaaGreatDoorYIs
import Derived.Test.YtcjooeklehggaaaGreatDoorYLs
set_option linter.unusedVariables false
set_option linter.unusedSimpArgs false
set_option maxRecDepth 100000
namespace Go.Proofs.YtcjooeklehggaaaGreatDoor.M
theorem dig_app (l r : Bs) (h : ∀ x ∈ l, isDig (x.toNat : Int) = true) (hr : isDig (at_ r 0) = false) : digsN (l ++ r) = l.length := by
 induction l with
 | nil =>
  cases r with
  | nil => rfl
  | cons x r => rw [List.nil_append, digsN, if_neg (by rw [at_cons0] at hr; rw [hr]; decide)]; rfl
 | cons x l ih => rw [List.cons_append, digsN, if_pos (h x (by simp)), ih (fun y hy => h y (by simp [hy]))]; rfl
theorem numL_isDig {l : Bs} {top g : Int} (h : numL l top = some g) : ∀ x ∈ l, isDig (x.toNat : Int) = true := by
 intro x hx
 obtain ⟨i, hi, rfl⟩ := List.getElem_of_mem hx
 have := numL_digs h i hi
 rw [at_get l i hi] at this
 unfold isDig; simp; omega
theorem valN_app (l r : Bs) (k : Nat) (h : k ≤ l.length) : valN (l ++ r) k = valN l k := by
 induction k with
 | zero => rfl
 | succ k ih =>
  rw [valN, valN, ih (by omega)]
  have : at_ (l ++ r) k = at_ l k := by
   rw [at_get _ _ (by simp; omega), at_get _ _ (by omega), List.getElem_append_left (by omega)]
  rw [this]
theorem decN_val (n : Nat) : (∀ x ∈ decN n, isDig (x.toNat : Int) = true) ∧ valN (decN n) (decN n).length = n := by
 induction n using Nat.strongRecOn with
 | _ n ih =>
  rw [decN]
  split
  ·rename_i h
   have e : ((B8 (48 + (n : Int))).toNat : Int) = 48 + n := B8_nat _ (by omega) (by omega)
   refine ⟨?_, ?_⟩
   ·intro x hx
    simp at hx; subst hx
    rw [e]; unfold isDig; simp; omega
   ·rw [List.length_singleton, valN, valN, at_cons0, e]; omega
  ·rename_i h
   obtain ⟨h1, h2⟩ := ih (n / 10) (by omega)
   have e : ((B8 (48 + ((n % 10 : Nat) : Int))).toNat : Int) = 48 + (n % 10 : Nat) := B8_nat _ (by omega) (by omega)
   revert e
   generalize B8 (48 + ((n % 10 : Nat) : Int)) = b
   intro e
   refine ⟨?_, ?_⟩
   ·intro x hx
    rcases List.mem_append.1 hx with hx | hx
    ·exact h1 x hx
    ·rw [List.mem_singleton.1 hx, e]; unfold isDig; simp; omega
   ·have e2 : at_ (decN (n / 10) ++ [b]) (decN (n / 10)).length = 48 + (n % 10 : Nat) := by
     rw [at_get _ _ (by simp), List.getElem_append_right (Nat.le_refl _)]; simp [e]
    rw [List.length_append, List.length_singleton, valN, valN_app _ _ _ (Nat.le_refl _), h2, e2]; omega
theorem decN_le (k n : Nat) (hk : 1 ≤ k) (h : n < 10 ^ k) : (decN n).length ≤ k := by
 induction k generalizing n with
 | zero => omega
 | succ k ih =>
  rw [decN]
  split
  ·simp
  ·rename_i h10
   have hk1 : 1 ≤ k := by
    rcases Nat.eq_zero_or_pos k with h0 | h0
    ·subst h0; simp at h; omega
    ·exact h0
   have := ih (n / 10) hk1 (by rw [Nat.pow_succ] at h; omega)
   simp; omega
theorem numL_self {g top : Int} (h0 : 0 ≤ g) (h1 : g ≤ top) (ht : top ≤ 999999) : numL (dec g) top = some g := by
 obtain ⟨d1, d2⟩ := decN_val g.toNat
 have e : valN (dec g) (dec g).length = g := by unfold dec; rw [d2]; omega
 unfold numL
 rw [e, if_pos]
 refine ⟨decN_le 6 _ (by omega) (by omega), ?_, rfl, h1⟩
 intro j hj
 have := d1 _ (List.getElem_mem (show j < (decN g.toNat).length from hj))
 rw [at_get _ _ hj]
 unfold isDig at this; simp at this
 exact ⟨by have := this.1; unfold dec; omega, by have := this.2; unfold dec; omega⟩
theorem tagR_dec {t : Ty} {g : Int} {f : Fl} (h0 : 0 ≤ g) (h1 : g ≤ 200) (hf : fieldM t g = some f) (r : Bs) (hr : isDig (at_ r 0) = false) : tagR (dec g ++ r) t = some (f, r) := by
 unfold tagR
 rw [dig_app (dec g) r (decN_val _).1 hr, List.take_left, List.drop_left, numL_self h0 h1 (by omega)]
 simp only
 rw [hf]
theorem dec_dig (g : Int) (r : Bs) : isDig (at_ (dec g ++ r) 0) = true := by
 have h1 := dec_pos1 g
 have h2 := (decN_val g.toNat).1
 unfold dec at h1 ⊢
 cases hd : decN g.toNat with
 | nil => rw [hd] at h1; simp at h1
 | cons x l => rw [hd] at h2; rw [List.cons_append, at_cons0]; exact h2 x (by simp)
theorem tv_head {X : List Ty} {x : V} (h : Tv X x) (r : Bs) : at_ (outV x ++ r) 0 ≠ 93 := by
 have hdig : ∀ a : Int, isDig a = true → a ≠ 93 := by
  intro a ha; unfold isDig at ha; simp at ha; omega
 cases h with
 | @num t h =>
  rw [out_plain (by decide) (by decide) (by decide)]
  cases hn : numL t 999999 with
  | none => rw [hn] at h; cases h
  | some n => rw [(numL_dec hn).1]; exact hdig _ (dec_dig n r)
 | @text t h =>
  rw [out_plain (by decide) (by decide) (by decide)]
  unfold textL at h; simp at h
  cases t with
  | nil => simp at h
  | cons a t =>
   rw [List.cons_append, at_cons0]
   have := h.1.1.2
   rw [at_cons0] at this; omega
 | yes => rw [out_plain (by decide) (by decide) (by decide)]; rw [List.cons_append, at_cons0]; decide
 | no => rw [out_plain (by decide) (by decide) (by decide)]; rw [List.cons_append, at_cons0]; decide
 | list hk h => rw [out_list h, List.cons_append, at_cons0]; decide
 | none hk h => rw [out_none h, List.cons_append, at_cons0]; decide
 | some hk h => rw [out_some h, List.cons_append, at_cons0]; decide
 | record hk h => rw [out_record h (by decide) (by decide), List.cons_append, at_cons0]; decide
 | union hk h => rw [out_union h, List.cons_append, at_cons0]; decide
 | enum hk h => rw [out_enum h, List.cons_append, at_cons0]; decide
def Back (rd : Bs → Option (V × Bs)) (x : V) : Prop := ∀ r, isDig (at_ r 0) = false → rd (outV x ++ r) = some (x, r)
theorem dig_44 (r : Bs) : isDig (at_ (44 :: r) 0) = false := by rw [at_cons0]; decide
theorem dig_93 (r : Bs) : isDig (at_ (93 :: r) 0) = false := by rw [at_cons0]; decide
theorem dig_125 (r : Bs) : isDig (at_ (125 :: r) 0) = false := by rw [at_cons0]; decide
theorem dig_62 (r : Bs) : isDig (at_ (62 :: r) 0) = false := by rw [at_cons0]; decide
theorem dig_61 (r : Bs) : isDig (at_ (61 :: r) 0) = false := by rw [at_cons0]; decide
theorem itemsR_back {rd : Bs → Option (V × Bs)} (l : List V) (hl : l ≠ []) (h : ∀ x ∈ l, Back rd x) (n : Nat) (hn : l.length ≤ n) (r : Bs) (acc : List V) : itemsR rd n (joinC (l.map outV) ++ (93 :: r)) acc = some (acc ++ l, r) := by
 induction l generalizing n acc with
 | nil => exact absurd rfl hl
 | cons x l ih =>
  obtain ⟨n, rfl⟩ : ∃ m, n = m + 1 := ⟨n - 1, by simp at hn; omega⟩
  cases l with
  | nil =>
   rw [itemsR, show joinC ([x].map outV) = outV x from rfl, h x (by simp) _ (dig_93 r)]
   simp only
   rw [if_pos (by rw [at_cons0]; rfl)]; rfl
  | cons y l =>
   have e : joinC ((x :: y :: l).map outV) ++ (93 :: r) = outV x ++ (44 :: (joinC ((y :: l).map outV) ++ (93 :: r))) := by simp [joinC]
   rw [itemsR, e, h x (by simp) _ (dig_44 _)]
   simp only
   rw [if_neg (by rw [at_cons0]; decide), if_pos (by rw [at_cons0]; rfl), List.drop_succ_cons, List.drop_zero, ih (by simp) (fun z hz => h z (by simp [hz])) n (by simp at hn ⊢; omega)]
   simp
theorem fieldsR_back {rd : Bs → Bs → Option (V × Bs)} {X : List Ty} {t : Ty} (gs : List Int) (l : List V) (hl : gs.length = l.length) (hl0 : l ≠ []) (n : Nat) (hn : l.length ≤ n) (r : Bs) (gs0 : List Int) (l0 : List V) (ha : (gs0 ++ gs).Pairwise (· < ·))
  (hb : ∀ g ∈ gs, 0 ≤ g ∧ g ≤ 200)
  (hf : ∀ (i : Nat) (h1 : i < gs.length) (h2 : i < l.length), ∃ f, fieldM t gs[i] = some f ∧ Back (fun s => rd s f.kind) l[i] ∧ outV l[i] ≠ standM X f) :
  fieldsR rd X t n (joinC (toldL gs (l.map outV)) ++ (125 :: r)) gs0 l0 = some ((gs0 ++ gs, l0 ++ l), r) := by
 induction l generalizing gs n gs0 l0 with
 | nil => exact absurd rfl hl0
 | cons x l ih =>
  obtain ⟨n, rfl⟩ : ∃ m, n = m + 1 := ⟨n - 1, by simp at hn; omega⟩
  cases gs with
  | nil => simp at hl
  | cons g gs =>
   obtain ⟨f, h1, h2, h3⟩ := hf 0 (by simp) (by simp)
   simp only [List.getElem_cons_zero] at h1 h2 h3
   have hbg := hb g (by simp)
   have htag : f.tag = g := (fieldM_mem h1).2
   have hlast : gs0 = [] ∨ gs0.getD (gs0.length - 1) 0 < f.tag := by
    cases hg0 : gs0 with
    | nil => exact .inl rfl
    | cons a b =>
     right
     rw [← hg0, htag]
     have hlen : 0 < gs0.length := by rw [hg0]; simp
     rw [List.getD_eq_getElem?_getD, List.getElem?_eq_getElem (by omega), Option.getD_some]
     exact (List.pairwise_append.1 ha).2.2 _ (List.getElem_mem _) g (by simp)
   cases l with
   | nil =>
    have hgs : gs = [] := by simpa using hl
    subst hgs
    have e : joinC (toldL [g] ([x].map outV)) ++ (125 :: r) = dec g ++ (61 :: (outV x ++ (125 :: r))) := by simp [toldL, joinC]
    rw [e, fields_end (tagR_dec hbg.1 hbg.2 h1 _ (dig_61 _)) ⟨rfl, hlast⟩ (h2 _ (dig_125 r)) h3 rfl, htag]
    rfl
   | cons y l =>
    obtain ⟨g2, gs, rfl⟩ : ∃ a b, gs = a :: b := by
     cases gs with
     | nil => simp at hl
     | cons a b => exact ⟨a, b, rfl⟩
    have e : joinC (toldL (g :: g2 :: gs) ((x :: y :: l).map outV)) ++ (125 :: r) = dec g ++ (61 :: (outV x ++ (44 :: (joinC (toldL (g2 :: gs) ((y :: l).map outV)) ++ (125 :: r))))) := by simp [toldL, joinC]
    rw [e, fields_more (tagR_dec hbg.1 hbg.2 h1 _ (dig_61 _)) ⟨rfl, hlast⟩ (h2 _ (dig_44 _)) h3 rfl, htag, List.drop_succ_cons, List.drop_zero,
     ih (g2 :: gs) (by simpa using hl) (by simp) n (by simp at hn ⊢; omega) (gs0 ++ [g]) (l0 ++ [x]) (by simpa using ha) (fun z hz => hb z (by simp at hz ⊢; exact .inr hz))
      (fun i a b => by
       have := hf (i + 1) (by simpa using a) (by simpa using b)
       simpa using this)]
    simp
theorem cutA_app (c : UInt8) (m r : Bs) (h : cutHas (c.toNat : Int) m = false) : cutA (c.toNat : Int) (m ++ (c :: r)) = m ∧ cutB (c.toNat : Int) (m ++ (c :: r)) = r ∧ cutHas (c.toNat : Int) (m ++ (c :: r)) = true := by
 induction m with
 | nil => rw [List.nil_append, cutA, cutB, cutHas, if_pos rfl, if_pos rfl, if_pos rfl]; exact ⟨rfl, rfl, rfl⟩
 | cons x m ih =>
  rw [cutHas] at h
  split at h
  ·cases h
  ·rename_i hx
   obtain ⟨h1, h2, h3⟩ := ih h
   rw [List.cons_append, cutA, cutB, cutHas, if_neg hx, if_neg hx, if_neg hx, h1, h2, h3]
   exact ⟨rfl, rfl, rfl⟩
theorem textP_back {t : Bs} (h : textL t = true) (r : Bs) : ∃ m, t = 39 :: (m ++ [39]) ∧ textP (t ++ r) = some (m, r) := by
 rw [← quoteP_eq] at h
 cases t with
 | nil => unfold quoteP at h; simp at h
 | cons x t =>
  rcases concat_cases t with rfl | ⟨m, y, rfl⟩
  ·unfold quoteP at h; simp at h
  ·have h' := h
   unfold quoteP at h'
   simp at h'
   obtain ⟨⟨rfl, rfl⟩, hm⟩ := h'
   refine ⟨m, rfl, ?_⟩
   have hno : cutHas 39 m = false := by
    cases hb : cutHas 39 m with
    | false => rfl
    | true =>
     obtain ⟨z, hz, e⟩ := (has_iff _ _).1 hb
     unfold txtB txtC at hm
     simp at hm
     have := hm.2 z hz
     rw [e] at this; exact absurd this (by decide)
   have e : (39 :: (m ++ [39])) ++ r = 39 :: (m ++ (39 :: r)) := by simp
   obtain ⟨c1, c2, c3⟩ := cutA_app 39 m r hno
   have c1' : cutA 39 (m ++ (39 :: r)) = m := c1
   have c2' : cutB 39 (m ++ (39 :: r)) = r := c2
   have c3' : cutHas 39 (m ++ (39 :: r)) = true := c3
   rw [e]
   unfold textP
   rw [List.drop_succ_cons, List.drop_zero, c1', c2', c3', if_pos ⟨rfl, rfl, hm⟩]
theorem read_back {X : List Ty} (hg : ∀ t ∈ X, GoodT t) (x : V) : Tv X x → ∀ d, deepV x ≤ d → Back (fun s => readF X d s x.kind) x := by
 induction x using V.ind with
 | h k t gs l ih =>
  intro hT d hd r hr
  obtain ⟨d, rfl⟩ : ∃ e, d = e + 1 := ⟨d - 1, by rw [deepV] at hd; omega⟩
  have hdl := deepV_le.1 hd
  show readF X (d + 1) (outV (.mk k t gs l) ++ r) k = some (.mk k t gs l, r)
  cases hT with
  | num h =>
   rw [out_plain (by decide) (by decide) (by decide), readF_n]
   cases hn : numL t 999999 with
   | none => rw [hn] at h; cases h
   | some n =>
    unfold cutDecP
    rw [dig_app t r (numL_isDig hn) hr, List.take_left, List.drop_left, hn]
    rw [(numL_dec hn).1]; rfl
  | text h =>
   rw [out_plain (by decide) (by decide) (by decide), readF_t]
   obtain ⟨m, e, h2⟩ := textP_back h r
   rw [h2, e]; rfl
  | yes => rw [out_plain (by decide) (by decide) (by decide), readF_f]; rfl
  | no => rw [out_plain (by decide) (by decide) (by decide), readF_f]; rfl
  | list hk h hl hx hxk =>
   rw [out_list h, readF, if_neg (by simp), if_pos h, List.cons_append, if_pos (by rw [at_cons0]; rfl), List.drop_succ_cons, List.drop_zero, List.append_assoc]
   show listR _ k (joinC (l.map outV) ++ (93 :: r)) = _
   unfold listR
   cases l with
   | nil => rw [if_pos (by show at_ (93 :: r) 0 = 93; rw [at_cons0]; rfl)]; rfl
   | cons y l =>
    have e : ∃ q, joinC ((y :: l).map outV) ++ (93 :: r) = outV y ++ q := by
     cases l with
     | nil => exact ⟨_, rfl⟩
     | cons z l => exact ⟨44 :: (joinC ((z :: l).map outV) ++ (93 :: r)), by simp [joinC]⟩
    obtain ⟨q, e⟩ := e
    rw [if_neg (by rw [e]; exact tv_head (hx y (by simp)) q), itemsR_back (y :: l) (by simp) (fun z hz => by
     have := ih z hz (hx z hz) d (hdl z hz)
     rw [hxk z hz] at this; exact this) 20 hl r []]
    rfl
  | none hk h => rw [out_none h, readF_may _ _ _ _ h, List.cons_append, if_pos (by rw [at_cons0]; rfl)]; rfl
  | @some _ x hk h hx hxk =>
   rw [out_some h, readF_may _ _ _ _ h, List.cons_append, if_neg (by rw [at_cons0]; decide), if_pos (by rw [at_cons0]; rfl), List.drop_succ_cons, List.drop_zero]
   have := ih x (by simp) hx d (hdl x (by simp)) r hr
   rw [hxk] at this
   rw [show readF X d (outV x ++ r) (k.drop 1) = some (x, r) from this]; rfl
  | @record _ ty _ _ hk h hrf hs hl ha hf hx =>
   rw [out_record h (by decide) (by decide), List.cons_append, readF_named X d _ k ty h hrf (by simp)]
   unfold namedR
   rw [if_pos ⟨hs, by rw [at_cons0]; rfl⟩, List.drop_succ_cons, List.drop_zero, List.append_assoc]
   show recordR _ X ty k (joinC (toldL gs (l.map outV)) ++ (125 :: r)) = _
   unfold recordR
   cases l with
   | nil =>
    have : gs = [] := by simpa using hl
    subst this
    rw [if_pos (by show at_ (125 :: r) 0 = 125; rw [at_cons0]; rfl)]; rfl
   | cons y l =>
    obtain ⟨g, gs, rfl⟩ : ∃ a b, gs = a :: b := by
     cases gs with
     | nil => simp at hl
     | cons a b => exact ⟨a, b, rfl⟩
    have e : ∃ q, joinC (toldL (g :: gs) ((y :: l).map outV)) ++ (125 :: r) = dec g ++ q := by
     cases l with
     | nil =>
      have : gs = [] := by simpa using hl
      subst this
      exact ⟨61 :: (outV y ++ (125 :: r)), by simp [toldL, joinC]⟩
     | cons z l =>
      cases gs with
      | nil => simp at hl
      | cons a b => exact ⟨61 :: (outV y ++ (44 :: (joinC (toldL (a :: b) ((z :: l).map outV)) ++ (125 :: r)))), by simp [toldL, joinC]⟩
    have hcnt : (y :: l).length ≤ (joinC (toldL (g :: gs) ((y :: l).map outV)) ++ (125 :: r)).length + 1 := by
     have := record_cnt (k := k) (t := [82]) h (by decide) (by decide) hl
     rw [out_record h (by decide) (by decide)] at this
     simp at this ⊢; omega
    rw [if_neg (by
     obtain ⟨q, e⟩ := e
     rw [e]
     have := dec_dig g q
     intro h5; rw [h5] at this; exact absurd this (by decide)),
     fieldsR_back (g :: gs) (y :: l) hl (by simp) _ hcnt r [] [] (by simpa using ha) (fun z hz => by
      obtain ⟨i, hi, rfl⟩ := List.getElem_of_mem hz
      obtain ⟨f, hf1, -⟩ := hf i hi (by omega)
      have := fieldM_bd hg hrf hf1
      omega) (fun i h1 h2 => by
      obtain ⟨f, hf1, hf2, hf3⟩ := hf i h1 h2
      refine ⟨f, hf1, ?_, hf3⟩
      have hm := List.getElem_mem h2
      have := ih _ hm (hx _ hm) d (hdl _ hm)
      rw [hf2] at this; exact this)]
    rfl
  | @union _ ty g x f hk h hrf hs hf hxk hx =>
   have hb := fieldM_bd hg hrf hf
   have htag : f.tag = g := (fieldM_mem hf).2
   rw [out_union h, List.cons_append, readF_named X d _ k ty h hrf (by simp)]
   unfold namedR
   rw [if_neg (by omega), if_neg (by omega), if_pos ⟨hs, by rw [at_cons0]; rfl⟩, List.drop_succ_cons, List.drop_zero]
   show unionR _ ty k ((dec g ++ (61 :: (outV x ++ [62]))) ++ r) = _
   have e : (dec g ++ (61 :: (outV x ++ [62]))) ++ r = dec g ++ (61 :: (outV x ++ (62 :: r))) := by simp
   have hi := ih x (by simp) hx d (hdl x (by simp)) _ (dig_62 r)
   rw [hxk] at hi
   have hi' : readF X d (outV x ++ (62 :: r)) f.kind = some (x, 62 :: r) := hi
   unfold unionR
   rw [e, tagR_dec (by omega) (by omega) hf _ (dig_61 _)]
   simp only
   rw [if_pos (by rw [at_cons0]; rfl), List.drop_succ_cons, List.drop_zero, hi']
   simp only
   rw [if_pos (by rw [at_cons0]; rfl), htag]; rfl
  | @enum _ ty g f hk h hrf hs hf =>
   have hb := fieldM_bd hg hrf hf
   have htag : f.tag = g := (fieldM_mem hf).2
   rw [out_enum h, List.cons_append, readF_named X d _ k ty h hrf (by simp)]
   unfold namedR
   rw [if_neg (by omega), if_pos ⟨hs, by rw [at_cons0]; rfl⟩, List.drop_succ_cons, List.drop_zero]
   unfold enumR
   rw [show ([g] : List Int).getD 0 0 = g from rfl, tagR_dec (by omega) (by omega) hf _ hr]
   simp only
   rw [htag]
end Go.Proofs.YtcjooeklehggaaaGreatDoor.M
namespace Go.Proofs.YtcjooeklehggaaaGreatDoor
open Go.ChangeShapes Go.WideShapes Go.ChangeAt Go.RowKit M
theorem whole_tv {X : List Ty} (hg : ∀ t ∈ X, GoodT t) {k s : Bs} {x : V} (hko : kOk k = true) (h : wholeP X k s = some x) : M.Tv X x ∧ x.kind = k ∧ (outV x).length ≤ 400 := by
 unfold wholeP at h
 split at h
 ·split at h
  ·cases h
  ·rename_i y hy
   split at h
   ·injection h with h
    subst h
    have h1 := readF_tv hg 12 s k y hko hy
    have h2 := readF_len hy
    exact ⟨h1.1, h1.2, by omega⟩
   ·cases h
 ·cases h
end Go.Proofs.YtcjooeklehggaaaGreatDoor
