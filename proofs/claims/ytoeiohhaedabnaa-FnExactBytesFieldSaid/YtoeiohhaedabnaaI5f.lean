/- BytesField of the program: its reader of bytes. -/
import Derived.Test.YtoeiohhaedabnaaS5f
import Derived.Test.YtoeiohhaedabnaaI1b
import Derived.Test.YtoeiohhaedabnaaApp
set_option linter.unusedSimpArgs false
namespace Go.Proofs.Ytoeiohhaedabnaa
open Go.ChangeShapes Go.WideShapes Go.ChangeAt Go.RowKit M

/-- A reader whose bytes these are. -/
def Rd (w : World) (b : Nat) (l : List UInt8) : Prop := w.cell? ⟨b, 0, none⟩ = some (.string (S l)) ∧ w.frozen? ⟨b, 0, none⟩ = false ∧ b < w.heap.size
/-- Of what there was, nothing has changed but the one block, and what lies behind it is still there. -/
def Edit (b : Nat) (w w' : World) : Prop := Below b w w' ∧ ∀ c k, c ≠ b → c < w.heap.size → w'.cell? ⟨c, k, none⟩ = w.cell? ⟨c, k, none⟩ ∧ w'.frozen? ⟨c, k, none⟩ = w.frozen? ⟨c, k, none⟩
theorem Edit.refl (b : Nat) (w : World) : Edit b w w := ⟨Below.refl _ _, fun _ _ _ _ => ⟨rfl, rfl⟩⟩
theorem Edit.trans {b : Nat} {u v w : World} (h : Edit b u v) (k : Edit b v w) : Edit b u w :=
  ⟨h.1.trans k.1, fun c j hc hl => by
    obtain ⟨a1, a2⟩ := h.2 c j hc hl
    obtain ⟨b1, b2⟩ := k.2 c j hc (Nat.lt_of_lt_of_le hl h.1.size)
    exact ⟨b1.trans a1, b2.trans a2⟩⟩
theorem Edit.below {b : Nat} {u v w : World} (h : Edit b u v) (hb : b < u.heap.size) (k : Below v.heap.size v w) : Edit b u w :=
  ⟨h.1.trans (k.mono (by have := h.1.size; omega)), fun c j hc hl => by
    obtain ⟨a1, a2⟩ := h.2 c j hc hl
    have hl' := Nat.lt_of_lt_of_le hl h.1.size
    exact ⟨(k.cell (p := ⟨c, j, none⟩) hl').trans a1, (k.frozen (p := ⟨c, j, none⟩) hl').trans a2⟩⟩
theorem Edit.set {b k : Nat} {u v : World} (h : Edit b u v) (x : Value) : Edit b u (v.setCell ⟨b, k, none⟩ x) :=
  ⟨h.1.setCell (Nat.le_refl _) x, fun c j hc hl => by
    obtain ⟨a1, a2⟩ := h.2 c j hc hl
    refine ⟨?_, by simpa using a2⟩
    rw [World.cell?_setCell_other _ _ _ _ (by intro e; injection e with e1 e2; exact hc e1.symm)]; exact a1⟩
theorem Edit.size {b : Nat} {u v : World} (h : Edit b u v) : u.heap.size ≤ v.heap.size := h.1.size
theorem Rd.later {b : Nat} {l : List UInt8} {v w : World} (h : Rd v b l) (k : Below v.heap.size v w) : Rd w b l :=
  ⟨(k.cell (p := ⟨b, 0, none⟩) h.2.2).trans h.1, (k.frozen (p := ⟨b, 0, none⟩) h.2.2).trans h.2.1, Nat.lt_of_lt_of_le h.2.2 k.size⟩
theorem Rd.set {b : Nat} {l r : List UInt8} {v : World} (h : Rd v b l) : Rd (v.setCell ⟨b, 0, none⟩ (.string (S r))) b r :=
  ⟨World.cell?_setCell_same _ _ _ h.1, by simpa using h.2.1, by simpa using h.2.2⟩

theorem i_NumGet (l : List UInt8) (hs : l.length ≤ 2000000) (n : Int) (r : List UInt8) (ok : Bool) (h : numGet l = (n, r, ok)) (w : World) :
    Calls Try.prog 13 #[.string (S l)] w fun e w' => e = .returned (.tuple #[.int .i64 n, .string (S r), .bool ok]) ∧ Below w.heap.size w w' := by
  have := implNumGet (S l) w (by rw [S_size]; exact hs)
  rw [S_toList, h] at this
  exact this
theorem i_number_ok (b : Nat) (l : List UInt8) (top n : Int) (r : List UInt8) (w : World) (hs : l.length ≤ 2000000) (hr : Rd w b l) (h : numGet l = (n, r, true)) (hn : n ≤ top) :
    Calls Try.prog 11 #[.pointer (some ⟨b, 0, none⟩), .int .i64 top] w fun e w' => e = .returned (.tuple #[.int .i64 n, .bool true]) ∧ Rd w' b r ∧ Edit b w w' := by
  have HC := Lib.hid (fun w => i_NumGet l hs n r true h w)
  have HR := Lib.hid hr
  obtain ⟨c0, f0, l0⟩ := hr
  clear h hs
  go_enter Try.func11, Try.ntmps11
  go_wp2_with (go_at_call 13; refine (HC.out _).mono ?_; rintro e w1 ⟨rfl, hb⟩; have q := HR.out.later hb; have HQ := Lib.hid q; obtain ⟨c1, f1, l1⟩ := q)
  go_ret2
  exact ⟨rfl, HQ.out.set, ((Edit.refl _ _).below HR.out.2.2 hb).set _⟩
theorem i_number_no (b : Nat) (l : List UInt8) (top n : Int) (r : List UInt8) (ok : Bool) (w : World) (hs : l.length ≤ 2000000) (hr : Rd w b l) (h : numGet l = (n, r, ok)) (hn : ok = false ∨ top < n) :
    Calls Try.prog 11 #[.pointer (some ⟨b, 0, none⟩), .int .i64 top] w fun e w' => e = .returned (.tuple #[.int .i64 0, .bool false]) ∧ Edit b w w' := by
  have HC := Lib.hid (fun w => i_NumGet l hs n r ok h w)
  have HR := Lib.hid hr
  obtain ⟨c0, f0, l0⟩ := hr
  clear h hs
  cases ok with
  | false =>
    clear hn
    go_enter Try.func11, Try.ntmps11
    go_wp2_with (go_at_call 13; refine (HC.out _).mono ?_; rintro e w1 ⟨rfl, hb⟩)
    all_goals
      go_ret2
      exact ⟨rfl, (Edit.refl _ _).below HR.out.2.2 hb⟩
  | true =>
    have hn' : top < n := by simpa using hn
    clear hn
    go_enter Try.func11, Try.ntmps11
    go_wp2_with (go_at_call 13; refine (HC.out _).mono ?_; rintro e w1 ⟨rfl, hb⟩)
    go_ret2
    exact ⟨rfl, (Edit.refl _ _).below HR.out.2.2 hb⟩
theorem Edit.above {b c k : Nat} {u v : World} (h : Edit b u v) (hc : u.heap.size ≤ c) (hb : b ≤ c) (x : Value) : Edit b u (v.setCell ⟨c, k, none⟩ x) :=
  ⟨h.1.setCell hb x, fun d j hd hl => by
    obtain ⟨a1, a2⟩ := h.2 d j hd hl
    refine ⟨?_, by simpa using a2⟩
    rw [World.cell?_setCell_other _ _ _ _ (by intro e; injection e with e1 e2; omega)]; exact a1⟩
theorem Edit.alloc {b : Nat} (u : World) (o : Obj) (hb : b < u.heap.size) : Edit b u (u.alloc o) := (Edit.refl b u).below hb (below_alloc (Below.refl _ _) o)
theorem Rd.alloc {b : Nat} {l : List UInt8} {v : World} (h : Rd v b l) (o : Obj) : Rd (v.alloc o) b l := h.later (below_alloc (Below.refl _ _) o)

theorem Rd.far {b c k : Nat} {l : List UInt8} {v : World} (h : Rd v b l) (hc : c ≠ b) (x : Value) : Rd (v.setCell ⟨c, k, none⟩ x) b l :=
  ⟨by rw [World.cell?_setCell_other _ _ _ _ (by intro e; injection e with e1 e2; exact hc e1)]; exact h.1, by simpa using h.2.1, by simpa using h.2.2⟩

theorem i_sized_ok (b : Nat) (l p m : List UInt8) (w : World) (hs : l.length ≤ 2000000) (hr : Rd w b l) (h : takeL l = some (p, m)) :
    Calls Try.prog 12 #[.pointer (some ⟨b, 0, none⟩)] w fun e w' => e = .returned (.tuple #[.string (S p), .bool true]) ∧ Rd w' b m ∧ Edit b w w' := by
  obtain ⟨g, hg⟩ : ∃ g, numGet l = g := ⟨_, rfl⟩
  obtain ⟨n, r, ok⟩ := g
  unfold takeL at h
  rw [hg] at h
  split at h
  · rename_i hc
    obtain ⟨hc1, hc2⟩ := hc
    simp only at hc1 hc2 h
    subst hc1
    injection h with h; injection h with h1 h2
    subst h1 h2
    have hl := get_less l (by rw [hg])
    rw [hg] at hl
    obtain ⟨hl1, hl2, hl3⟩ := hl
    simp only at hl1 hl2 hl3
    have HN := Lib.hid (fun w hr => i_number_ok b l 999999 n r w hs hr hg hl3)
    have HR := Lib.hid hr
    clear hg hr
    go_enter Try.func12, Try.ntmps12
    go_wp2_with (go_at_call 11; refine (HN.out _ HR.out).mono ?_; rintro e w1 ⟨rfl, q, he⟩; have HQ := Lib.hid q; have HE := Lib.hid he; clear he; obtain ⟨c1, f1, l1⟩ := q)
    go_ret2
    exact ⟨rfl, HQ.out.set, HE.out.set _⟩
  · cases h
theorem i_sized_no (b : Nat) (l : List UInt8) (w : World) (hs : l.length ≤ 2000000) (hr : Rd w b l) (h : takeL l = none) :
    Calls Try.prog 12 #[.pointer (some ⟨b, 0, none⟩)] w fun e w' => e = .returned (.tuple #[.string (S []), .bool false]) ∧ Edit b w w' := by
  obtain ⟨g, hg⟩ : ∃ g, numGet l = g := ⟨_, rfl⟩
  obtain ⟨n, r, ok⟩ := g
  unfold takeL at h
  rw [hg] at h
  split at h
  · cases h
  · rename_i hc
    clear h
    cases ok with
    | false =>
      have HN := Lib.hid (fun w hr => i_number_no b l 999999 n r false w hs hr hg (.inl rfl))
      have HR := Lib.hid hr
      clear hg hr hc
      go_enter Try.func12, Try.ntmps12
      go_wp2_with (go_at_call 11; refine (HN.out _ HR.out).mono ?_; rintro e w1 ⟨rfl, he⟩; have HE := Lib.hid he; clear he)
      all_goals
        go_ret2
        exact ⟨rfl, HE.out⟩
    | true =>
      have hlt : (r.length : Int) < n := by
        have : ¬ n ≤ (r.length : Int) := fun h => hc ⟨rfl, h⟩
        omega
      have hl := get_less l (by rw [hg])
      rw [hg] at hl
      obtain ⟨hl1, hl2, hl3⟩ := hl
      simp only at hl1 hl2 hl3
      have HN := Lib.hid (fun w hr => i_number_ok b l 999999 n r w hs hr hg hl3)
      have HR := Lib.hid hr
      clear hg hr hc
      go_enter Try.func12, Try.ntmps12
      go_wp2_with (go_at_call 11; refine (HN.out _ HR.out).mono ?_; rintro e w1 ⟨rfl, q, he⟩; have HE := Lib.hid he; clear he; obtain ⟨c1, f1, l1⟩ := q)
      go_ret2
      exact ⟨rfl, HE.out⟩

/-- A field with its bytes. -/
def fbv (n : Int) (p : List UInt8) : Value := .agg #[.int .i64 n, .string (S p)]
/-- What a call leaves that reads a field. -/
def RetFB (b : Nat) (w : World) (o : Option (Int × List UInt8 × List UInt8)) (e : Ending) (w' : World) : Prop :=
  Edit b w w' ∧ match o with
  | none => ∃ n p, e = .returned (.tuple #[fbv n p, .bool false])
  | some (n, p, m) => e = .returned (.tuple #[fbv n p, .bool true]) ∧ (n ≠ 0 → Rd w' b m)
/-- A field is read, behind one of the tag last. -/
def fieldR (top last : Int) (l : List UInt8) : Option (Int × List UInt8 × List UInt8) :=
  if (numGet l).2.2 = true ∧ (numGet l).1 ≤ top then
    if (numGet l).1 = 0 then some (0, [], [])
    else if last < (numGet l).1 then
      match takeL (numGet l).2.1 with
      | some (p, m) => some ((numGet l).1, p, m)
      | none => none
    else none
  else none
set_option maxRecDepth 100000 in
set_option maxHeartbeats 4000000 in
theorem i_field (b : Nat) (l : List UInt8) (last : Int) (w : World) (hs : l.length ≤ 2000000) (hr : Rd w b l) :
    Calls Try.prog 8 #[.pointer (some ⟨b, 0, none⟩), .int .i64 last] w (RetFB b w (fieldR 999999 last l)) := by
  obtain ⟨g, hg⟩ : ∃ g, numGet l = g := ⟨_, rfl⟩
  obtain ⟨n, r, ok⟩ := g
  obtain ⟨o, ho⟩ : ∃ o, fieldR 999999 last l = o := ⟨_, rfl⟩
  rw [ho]
  unfold fieldR at ho
  rw [hg] at ho
  simp only at ho
  have ne : w.heap.size ≠ b := by have := hr.2.2; omega
  have B0 := Blk.new w 29 #[.int .i64 0, .string { data := #[] }]
  have EA := Lib.hid (Edit.alloc w (.cells #[.int .i64 0, .string { data := #[] }] 29) hr.2.2)
  have RA := Lib.hid (hr.alloc (.cells #[.int .i64 0, .string { data := #[] }] 29))
  have hlt0 : w.heap.size < (w.alloc (.cells #[.int .i64 0, .string { data := #[] }] 29)).heap.size := by simp
  have A0 : (w.alloc (.cells #[.int .i64 0, .string { data := #[] }] 29)).cell? ⟨w.heap.size, 0, none⟩ = some (.int .i64 0) := B0.cell 0
  have A1 : (w.alloc (.cells #[.int .i64 0, .string { data := #[] }] 29)).cell? ⟨w.heap.size, 1, none⟩ = some (.string { data := #[] }) := B0.cell 1
  have AF : ∀ k, (w.alloc (.cells #[.int .i64 0, .string { data := #[] }] 29)).frozen? ⟨w.heap.size, k, none⟩ = false := B0.frozen
  have hbl : b ≤ w.heap.size := Nat.le_of_lt hr.2.2
  clear B0
  generalize hw0 : w.alloc (.cells #[.int .i64 0, .string { data := #[] }] 29) = w0 at *
  have ONE : ∀ w1, Edit b w0 w1 → w1.cell? ⟨w.heap.size, 0, none⟩ = some (.int .i64 0) ∧ w1.cell? ⟨w.heap.size, 1, none⟩ = some (.string { data := #[] }) ∧ (∀ k, w1.frozen? ⟨w.heap.size, k, none⟩ = false) ∧ w.heap.size < w1.heap.size := fun w1 h =>
    ⟨(h.2 _ 0 ne hlt0).1.trans A0, (h.2 _ 1 ne hlt0).1.trans A1, fun k => (h.2 _ k ne hlt0).2.trans (AF k), Nat.lt_of_lt_of_le hlt0 h.size⟩
  have HONE := Lib.hid ONE
  clear ONE A0 A1 AF
  by_cases h1 : ok = true ∧ n ≤ 999999
  · obtain ⟨rfl, h1⟩ := h1
    rw [if_pos ⟨rfl, h1⟩] at ho
    have hl := get_less l (by rw [hg])
    rw [hg] at hl
    obtain ⟨hl1, hl2, hl3⟩ := hl
    simp only at hl1 hl2 hl3
    have HN := Lib.hid (fun w hr => i_number_ok b l 999999 n r w hs hr hg h1)
    clear hg
    by_cases h2 : n = 0
    · subst h2
      rw [if_pos rfl] at ho
      subst ho
      go_enter Try.func8, Try.ntmps8
      go_wp2_with fail
      refine (HN.out _ RA.out).mono ?_
      rintro e w1 ⟨rfl, q, he⟩
      have HE := Lib.hid (EA.out.trans he)
      obtain ⟨k0, k1, kf, hlt⟩ := HONE.out _ he
      have f0 := kf 0
      have f1 := kf 1
      clear he kf hw0 hlt0 q
      go_wp2_with fail
      refine bodyPost_ret (v := .tuple #[fbv 0 [], .bool true]) ?_ rfl ?_
      · simp [results, Try.results8, go_sem, fbv, k0, k1, f0, f1, hlt]; try rfl
      · exact ⟨(HE.out.above (Nat.le_refl _) hbl _).above (Nat.le_refl _) hbl _, rfl, fun h => (h rfl).elim⟩
    · have ht0 : (n == 0) = false := by simp [h2]
      rw [if_neg h2] at ho
      by_cases h3 : last < n
      · rw [if_pos h3] at ho
        cases hT : takeL r with
        | none =>
          rw [hT] at ho
          simp only at ho
          subst ho
          have HZ := Lib.hid (fun w hr => i_sized_no b r w (by omega) hr hT)
          clear hT h2
          go_enter Try.func8, Try.ntmps8
          go_wp2_with fail
          refine (HN.out _ RA.out).mono ?_
          rintro e w1 ⟨rfl, q, he⟩
          go_wp2_with fail
          refine (HZ.out _ q).mono ?_
          rintro e w2 ⟨rfl, he2⟩
          have HE := Lib.hid ((EA.out.trans he).trans he2)
          obtain ⟨k0, k1, kf, hlt⟩ := HONE.out _ (he.trans he2)
          have f0 := kf 0
          have f1 := kf 1
          clear he he2 kf hw0 hlt0 q
          go_wp2_with fail
          refine bodyPost_ret (v := .tuple #[fbv n [], .bool false]) ?_ rfl ?_
          · simp [results, Try.results8, go_sem, fbv, k0, k1, f0, f1, hlt]; try rfl
          · exact ⟨(HE.out.above (Nat.le_refl _) hbl _).above (Nat.le_refl _) hbl _, _, _, rfl⟩
        | some pm =>
          obtain ⟨p, m⟩ := pm
          rw [hT] at ho
          simp only at ho
          subst ho
          have HZ := Lib.hid (fun w hr => i_sized_ok b r p m w (by omega) hr hT)
          clear hT h2
          go_enter Try.func8, Try.ntmps8
          go_wp2_with fail
          refine (HN.out _ RA.out).mono ?_
          rintro e w1 ⟨rfl, q, he⟩
          go_wp2_with fail
          refine (HZ.out _ q).mono ?_
          rintro e w2 ⟨rfl, q2, he2⟩
          have HE := Lib.hid ((EA.out.trans he).trans he2)
          have HQ := Lib.hid q2
          obtain ⟨k0, k1, kf, hlt⟩ := HONE.out _ (he.trans he2)
          have f0 := kf 0
          have f1 := kf 1
          clear he he2 kf hw0 hlt0 q q2
          go_wp2_with fail
          refine bodyPost_ret (v := .tuple #[fbv n p, .bool true]) ?_ rfl ?_
          · simp [results, Try.results8, go_sem, fbv, k0, k1, f0, f1, hlt]; try rfl
          · exact ⟨(HE.out.above (Nat.le_refl _) hbl _).above (Nat.le_refl _) hbl _, rfl, fun _ => (HQ.out.far ne _).far ne _⟩
      · rw [if_neg h3] at ho
        subst ho
        clear h2
        go_enter Try.func8, Try.ntmps8
        go_wp2_with fail
        refine (HN.out _ RA.out).mono ?_
        rintro e w1 ⟨rfl, q, he⟩
        have HE := Lib.hid (EA.out.trans he)
        obtain ⟨k0, k1, kf, hlt⟩ := HONE.out _ he
        have f0 := kf 0
        have f1 := kf 1
        clear he kf hw0 hlt0 q
        go_wp2_with fail
        refine bodyPost_ret (v := .tuple #[fbv 0 [], .bool false]) ?_ rfl ?_
        · simp [results, Try.results8, go_sem, fbv, k0, k1, f0, f1, hlt]; try rfl
        · exact ⟨(HE.out.above (Nat.le_refl _) hbl _).above (Nat.le_refl _) hbl _, _, _, rfl⟩
  · rw [if_neg h1] at ho
    subst ho
    have hbad : ok = false ∨ 999999 < n := by
      cases ok with
      | false => exact .inl rfl
      | true =>
        have : ¬ n ≤ 999999 := fun h => h1 ⟨rfl, h⟩
        exact .inr (by omega)
    have HN := Lib.hid (fun w hr => i_number_no b l 999999 n r ok w hs hr hg hbad)
    clear hbad
    clear hg h1
    go_enter Try.func8, Try.ntmps8
    go_wp2_with fail
    refine (HN.out _ RA.out).mono ?_
    rintro e w1 ⟨rfl, he⟩
    have HE := Lib.hid (EA.out.trans he)
    obtain ⟨k0, k1, kf, hlt⟩ := HONE.out _ he
    have f0 := kf 0
    have f1 := kf 1
    clear he kf hw0 hlt0
    go_wp2_with fail
    refine bodyPost_ret (v := .tuple #[fbv 0 [], .bool false]) ?_ rfl ?_
    · simp [results, Try.results8, go_sem, fbv, k0, k1, f0, f1, hlt]; try rfl
    · exact ⟨(HE.out.above (Nat.le_refl _) hbl _).above (Nat.le_refl _) hbl _, _, _, rfl⟩

/-- Tags ascend: one that is no more than the last is told no more. -/
theorem fieldF_past (f : Nat) : ∀ (s : List UInt8) (last want : Int), want ≤ last → fieldF f s last want = none := by
  induction f with
  | zero => intro s last want _; rfl
  | succ f ih =>
    intro s last want h
    rw [fieldF]
    split
    · rename_i hc
      cases takeL (numGet s).2.1 with
      | none => rfl
      | some pm =>
        obtain ⟨p, m⟩ := pm
        simp only
        rw [if_neg (by omega), ih m _ _ (by omega)]
    · rfl
theorem fieldR_none {s : List UInt8} {last want : Int} (h : fieldR 999999 last s = none) (hw : want ≤ 200) : fieldF s.length s last want = none := by
  unfold fieldR at h
  by_cases c1 : (numGet s).2.2 = true
  · by_cases c2 : (numGet s).1 ≤ 999999
    · rw [if_pos ⟨c1, c2⟩] at h
      split at h
      · cases h
      · split at h
        · split at h
          · cases h
          · rename_i hT; exact fieldF_bad hT
        · rename_i c3; exact fieldF_no (fun h => c3 h.2)
    · by_cases c3 : last < (numGet s).1
      · cases hT : takeL (numGet s).2.1 with
        | none => exact fieldF_bad hT
        | some pm =>
          obtain ⟨p, m⟩ := pm
          rw [fieldF_on ⟨c1, c3⟩ hT (by omega), fieldF_past _ _ _ _ (by omega)]
      · exact fieldF_no (fun h => c3 h.2)
  · exact fieldF_no (fun h => c1 h.1)
theorem fieldR_end {s p m : List UInt8} {last want : Int} (h : fieldR 999999 last s = some (0, p, m)) (hl : 0 ≤ last) : fieldF s.length s last want = none := by
  unfold fieldR at h
  split at h
  · split at h
    · rename_i h0; exact fieldF_no (fun h => by omega)
    · rename_i h0
      split at h
      · split at h
        · injection h with h; injection h with h1 h2; exact (h0 h1).elim
        · cases h
      · cases h
  · cases h
theorem fieldR_some {s p m : List UInt8} {last n : Int} (h : fieldR 999999 last s = some (n, p, m)) (h0 : n ≠ 0) : ((numGet s).2.2 = true ∧ last < (numGet s).1) ∧ (numGet s).1 = n ∧ takeL (numGet s).2.1 = some (p, m) := by
  unfold fieldR at h
  split at h
  · rename_i c1
    split at h
    · injection h with h; injection h with h1 h2; exact (h0 h1.symm).elim
    · split at h
      · rename_i c2
        split at h
        · rename_i hT
          injection h with h; injection h with h1 h2; injection h2 with h2 h3
          subst h2 h3
          exact ⟨⟨c1.1, c2⟩, h1, hT⟩
        · cases h
      · cases h
  · cases h
/-- How many bytes a reader has left. -/
def leftN (w : World) (b : Nat) : Nat := match w.cell? ⟨b, 0, none⟩ with
  | some (.string s) => s.size
  | _ => 0
theorem leftN_at {w : World} {b : Nat} {l : List UInt8} (h : Rd w b l) : leftN w b = l.length := by
  unfold leftN; rw [h.1]; simp [S_size]
set_option maxRecDepth 100000 in
set_option maxHeartbeats 4000000 in
theorem i_BytesField (l : List UInt8) (tag : Int) (w : World) (hs : l.length ≤ 2000000) :
    Calls Try.prog 5 #[.string (S l), .int .i64 tag] w fun e w' => e = .returned (fieldV (bytesField l tag)) ∧ Below w.heap.size w w' := by
  by_cases h : l.length ≤ 600 ∧ 1 ≤ tag ∧ tag ≤ 200
  · have HF := Lib.hid (show bytesField l tag = fieldL l tag by unfold bytesField; rw [if_pos h])
    obtain ⟨h1, h2, h3⟩ := h
    rw [HF.out]
    clear HF
    obtain ⟨o, ho⟩ : ∃ o, fieldL l tag = o := ⟨_, rfl⟩
    rw [ho]
    have HO := Lib.hid ho; clear ho
    go_enter Try.func5, Try.ntmps5
    go_wp2_with fail
    go_loopw [7] (fun x wr => ∃ (c : List UInt8) (last : Int), c.length ≤ l.length ∧ 0 ≤ last ∧ x = .int .i64 last ∧ Rd wr w.heap.size c ∧ Hid (o = fieldF c.length c last tag) ∧ Below w.heap.size w wr) (fun _ wr => leftN wr w.heap.size)
    case atStart => exact ⟨l, 0, by omega, by omega, rfl, ⟨by simp, by simp, by simp⟩, HO.out.symm, by (repeat (first | with_reducible exact Below.refl _ _ | with_reducible apply below_drew | with_reducible apply below_draws | with_reducible apply below_alloc | with_reducible apply below_set | (with_reducible refine below_trans ?_ (by assumption)) | (with_reducible refine Below.trans ?_ (by assumption)) | exact Nat.le_refl _ | omega | (simp <;> omega)))⟩
    case round =>
      obtain ⟨c, last, hc, hl0, rfl, q, hh, hb⟩ := hrel
      obtain ⟨x, hx⟩ : ∃ x, fieldR 999999 last c = x := ⟨_, rfl⟩
      have HC := Lib.hid (fun wz hr => i_field w.heap.size c last wz (by omega) hr)
      rw [hx] at HC
      have HM := Lib.hid (leftN_at q)
      have HQ := Lib.hid q; clear q
      cases x with
      | none =>
        have HN := Lib.hid (hh.out.trans (fieldR_none hx h3))
        clear hx
        go_wp2_with fail
        refine (HC.out _ HQ.out).mono ?_
        rintro e w1 ⟨he, n, p, rfl⟩
        unfold fbv
        have hb1 := he.1
        clear he
        go_wp2_with fail
        go_ret2
        exact ⟨by rw [HN.out]; rfl, by (repeat (first | with_reducible exact Below.refl _ _ | with_reducible apply below_drew | with_reducible apply below_draws | with_reducible apply below_alloc | with_reducible apply below_set | (with_reducible refine below_trans ?_ (by assumption)) | (with_reducible refine Below.trans ?_ (by assumption)) | exact Nat.le_refl _ | omega | (simp <;> omega)))⟩
      | some y =>
        obtain ⟨n, p, m⟩ := y
        by_cases h0 : n = 0
        · subst h0
          have HN := Lib.hid (hh.out.trans (fieldR_end hx hl0))
          clear hx
          go_wp2_with fail
          refine (HC.out _ HQ.out).mono ?_
          rintro e w1 ⟨he, rfl, hq⟩
          unfold fbv
          have hb1 := he.1
          clear he hq
          go_wp2_with fail
          go_ret2
          exact ⟨by rw [HN.out]; rfl, by (repeat (first | with_reducible exact Below.refl _ _ | with_reducible apply below_drew | with_reducible apply below_draws | with_reducible apply below_alloc | with_reducible apply below_set | (with_reducible refine below_trans ?_ (by assumption)) | (with_reducible refine Below.trans ?_ (by assumption)) | exact Nat.le_refl _ | omega | (simp <;> omega)))⟩
        · obtain ⟨hy1, hy2, hy3⟩ := fieldR_some hx h0
          have hn0 : (n == 0) = false := by simp [h0]
          have hl1 : last < n := by have := hy1.2; omega
          have hml : m.length < c.length := by have := (takeL_less hy3).2; have := (get_less c hy1.1).1; omega
          by_cases hw : n = tag
          · have HN := Lib.hid (hh.out.trans (fieldF_here hy1 hy3 (hy2.trans hw)))
            clear hx hy1 hy2 hy3 h0
            subst hw
            go_wp2_with fail
            refine (HC.out _ HQ.out).mono ?_
            rintro e w1 ⟨he, rfl, hq⟩
            unfold fbv
            have hb1 := he.1
            clear he hq
            go_wp2_with fail
            go_ret2
            exact ⟨by rw [HN.out]; rfl, by (repeat (first | with_reducible exact Below.refl _ _ | with_reducible apply below_drew | with_reducible apply below_draws | with_reducible apply below_alloc | with_reducible apply below_set | (with_reducible refine below_trans ?_ (by assumption)) | (with_reducible refine Below.trans ?_ (by assumption)) | exact Nat.le_refl _ | omega | (simp <;> omega)))⟩
          · have HN := Lib.hid (hh.out.trans (fieldF_on hy1 hy3 (by rw [hy2]; exact hw)))
            rw [hy2] at HN
            have hw' : (n == tag) = false := by simp [hw]
            have HQ0 := Lib.hid h0
            clear hx hy1 hy2 hy3 hw h0
            go_wp2_with fail
            refine (HC.out _ HQ.out).mono ?_
            rintro e w1 ⟨he, rfl, hq⟩
            unfold fbv
            have hb1 := he.1
            have hsz := he.size
            have hq1 := hq HQ0.out
            have HQ1 := Lib.hid hq1
            have hlt := hq1.2.2
            clear he hq hq1
            go_wp2_with fail
            go_roundw
            case rel => exact ⟨m, n, by omega, by omega, rfl, HQ1.out.alloc _, HN.out, by (repeat (first | with_reducible exact Below.refl _ _ | with_reducible apply below_drew | with_reducible apply below_draws | with_reducible apply below_alloc | with_reducible apply below_set | (with_reducible refine below_trans ?_ (by assumption)) | (with_reducible refine Below.trans ?_ (by assumption)) | exact Nat.le_refl _ | omega | (simp <;> omega)))⟩
            case measure => rw [leftN_at (HQ1.out.alloc _), HM.out]; omega
  · have HF := Lib.hid (show bytesField l tag = none by unfold bytesField; rw [if_neg h])
    by_cases c1 : l.length ≤ 600
    · by_cases c2 : 1 ≤ tag
      · have c3 : ¬ tag ≤ 200 := fun e => h ⟨c1, c2, e⟩
        clear h
        go_enter Try.func5, Try.ntmps5
        go_wp2_with fail
        go_ret2
        exact ⟨by rw [HF.out]; rfl, by (repeat (first | with_reducible exact Below.refl _ _ | with_reducible apply below_drew | with_reducible apply below_draws | with_reducible apply below_alloc | with_reducible apply below_set | (with_reducible refine below_trans ?_ (by assumption)) | (with_reducible refine Below.trans ?_ (by assumption)) | exact Nat.le_refl _ | omega | (simp <;> omega)))⟩
      · clear h
        go_enter Try.func5, Try.ntmps5
        go_wp2_with fail
        go_ret2
        exact ⟨by rw [HF.out]; rfl, by (repeat (first | with_reducible exact Below.refl _ _ | with_reducible apply below_drew | with_reducible apply below_draws | with_reducible apply below_alloc | with_reducible apply below_set | (with_reducible refine below_trans ?_ (by assumption)) | (with_reducible refine Below.trans ?_ (by assumption)) | exact Nat.le_refl _ | omega | (simp <;> omega)))⟩
    · clear h
      go_enter Try.func5, Try.ntmps5
      go_wp2_with fail
      go_ret2
      exact ⟨by rw [HF.out]; rfl, by (repeat (first | with_reducible exact Below.refl _ _ | with_reducible apply below_drew | with_reducible apply below_draws | with_reducible apply below_alloc | with_reducible apply below_set | (with_reducible refine below_trans ?_ (by assumption)) | (with_reducible refine Below.trans ?_ (by assumption)) | exact Nat.le_refl _ | omega | (simp <;> omega)))⟩
end Go.Proofs.Ytoeiohhaedabnaa
