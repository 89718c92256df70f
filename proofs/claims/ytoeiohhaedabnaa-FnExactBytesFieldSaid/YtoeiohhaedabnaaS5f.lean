/- BytesField of the model. -/
import Derived.Test.YtoeiohhaedabnaaStr
import Derived.Test.YtoeiohhaedabnaaM5f
import Derived.Test.YtoeiohhaedabnaaS1
namespace Go.Proofs.Ytoeiohhaedabnaa
open Go.ChangeShapes Go.WideShapes Go.ChangeAt Go.RowKit M

theorem k_NumGet (l : List UInt8) (hs : l.length ≤ 2000000) (n : Int) (r : List UInt8) (ok : Bool) (h : numGet l = (n, r, ok)) (w : World) :
    Calls Try.prog 9 #[.string (S l)] w fun e w' => e = .returned (.tuple #[.int .i64 n, .string (S r), .bool ok]) ∧ Below w.heap.size w w' := by
  have := specNumGet (S l) w (by rw [S_size]; exact hs)
  rw [S_toList, h] at this
  exact this
theorem numGet_fail {l : List UInt8} (h : (numGet l).2.2 = false) : (numGet l).2.1 = [] := by
  unfold numGet at *
  have key : ∀ f k, (getFrom l f k).2.2 = false → (getFrom l f k).2.1 = [] := by
    intro f
    induction f with
    | zero => intro k _; rfl
    | succ f ih =>
      intro k hk
      rw [getFrom] at hk ⊢
      split
      · rfl
      · rename_i h1
        rw [if_neg h1] at hk
        split
        · rename_i h2
          rw [if_pos h2] at hk
          split
          · rfl
          · rename_i h3; rw [if_neg h3] at hk; cases hk
        · rename_i h2
          rw [if_neg h2] at hk
          exact ih _ hk
  exact key 3 0 h
def takeV (o : Option (List UInt8 × List UInt8)) : Value := match o with
  | some (p, m) => .tuple #[.string (S p), .string (S m), .bool true]
  | none => .tuple #[.string (S []), .string (S []), .bool false]
theorem k_l5Take (l : List UInt8) (w : World) (hs : l.length ≤ 2000000) :
    Calls Try.prog 10 #[.string (S l)] w fun e w' => e = .returned (takeV (takeL l)) ∧ Below w.heap.size w w' := by
  obtain ⟨g, hg⟩ : ∃ g, numGet l = g := ⟨_, rfl⟩
  obtain ⟨n, r, ok⟩ := g
  have HC := Lib.hid (fun w => k_NumGet l hs n r ok hg w)
  cases ok with
  | false =>
    have HF := Lib.hid (show takeL l = none by unfold takeL; rw [hg]; simp)
    clear hg
    go_enter Try.func10, Try.ntmps10
    go_wp2_with (go_at_call 9; refine (HC.out _).mono ?_; rintro e w' ⟨rfl, hb⟩)
    go_ret3
    exact ⟨by rw [HF.out]; rfl, by (repeat (first | exact Below.refl _ _ | apply below_drew | apply below_draws | apply below_alloc | (refine below_trans ?_ (by assumption)) | (refine Below.trans ?_ (by assumption))))⟩
  | true =>
    have hl := get_less l (by rw [hg])
    rw [hg] at hl
    obtain ⟨hl1, hl2, hl3⟩ := hl
    simp only at hl1 hl2 hl3
    by_cases hn : n ≤ r.length
    · have HF := Lib.hid (show takeL l = some (r.take n.toNat, r.drop n.toNat) by unfold takeL; rw [hg, if_pos ⟨rfl, hn⟩])
      clear hg
      go_enter Try.func10, Try.ntmps10
      go_wp2_with (go_at_call 9; refine (HC.out _).mono ?_; rintro e w' ⟨rfl, hb⟩)
      go_quiet (fail)
      go_wp2
      go_ret3
      exact ⟨by rw [HF.out]; rfl, by (repeat (first | exact Below.refl _ _ | apply below_drew | apply below_draws | apply below_alloc | (refine below_trans ?_ (by assumption)) | (refine Below.trans ?_ (by assumption))))⟩
    · have HF := Lib.hid (show takeL l = none by unfold takeL; rw [hg, if_neg (fun h => hn h.2)])
      clear hg
      go_enter Try.func10, Try.ntmps10
      go_wp2_with (go_at_call 9; refine (HC.out _).mono ?_; rintro e w' ⟨rfl, hb⟩)
      go_ret3
      exact ⟨by rw [HF.out]; rfl, by (repeat (first | exact Below.refl _ _ | apply below_drew | apply below_draws | apply below_alloc | (refine below_trans ?_ (by assumption)) | (refine Below.trans ?_ (by assumption))))⟩
def fieldV (o : Option (List UInt8)) : Value := match o with
  | some p => .tuple #[.string (S p), .bool true]
  | none => .tuple #[.string (S []), .bool false]
theorem k_l5Field (l : List UInt8) (tag : Int) (w : World) (hs : l.length ≤ 2000000) :
    Calls Try.prog 7 #[.string (S l), .int .i64 tag] w fun e w' => e = .returned (fieldV (fieldL l tag)) ∧ Below w.heap.size w w' := by
  go_enter Try.func7, Try.ntmps7
  go_wp2_with fail
  go_loopw [0, 6] (fun s x wr => ∃ (c : List UInt8) (last : Int), c.length ≤ l.length ∧ s = .string (S c) ∧ x = .int .i64 last ∧ Hid (fieldL l tag = fieldF c.length c last tag) ∧ Below w.heap.size w wr) (fun s _ _ => match s with | .string b => b.size | _ => 0)
  case atStart => exact ⟨l, 0, by omega, rfl, rfl, rfl, Below.refl _ _⟩
  case round =>
    obtain ⟨c, last, hc, rfl, rfl, hh, hb⟩ := hrel
    obtain ⟨g, hg⟩ : ∃ g, numGet c = g := ⟨_, rfl⟩
    obtain ⟨n, r, ok⟩ := g
    have HC := Lib.hid (fun w => k_NumGet c (by omega) n r ok hg w)
    have hr : r.length ≤ 2000000 := by
      cases ok with
      | true => have := get_less c (by rw [hg]); rw [hg] at this; simp only at this; omega
      | false => have := numGet_fail (l := c) (by rw [hg]); rw [hg] at this; simp only at this; rw [this]; simp
    have HT := Lib.hid (fun w => k_l5Take r w hr)
    cases ok with
    | false =>
      have HN := Lib.hid (hh.out.trans (fieldF_no (by rw [hg]; simp)))
      clear hg
      generalize takeL r = o at *
      cases o with
      | none =>
        go_wp2_with (first | (go_at_call 9; refine (HC.out _).mono ?_; rintro e w' ⟨rfl, hb1⟩) | (go_at_call 10; refine (HT.out _).mono ?_; rintro e w' ⟨rfl, hb1⟩; unfold takeV))
        go_ret2
        exact ⟨by rw [HN.out]; rfl, by (repeat (first | exact Below.refl _ _ | apply below_drew | apply below_draws | apply below_alloc | (refine below_trans ?_ (by assumption)) | (refine Below.trans ?_ (by assumption))))⟩
      | some pm =>
        obtain ⟨p, m⟩ := pm
        go_wp2_with (first | (go_at_call 9; refine (HC.out _).mono ?_; rintro e w' ⟨rfl, hb1⟩) | (go_at_call 10; refine (HT.out _).mono ?_; rintro e w' ⟨rfl, hb1⟩; unfold takeV))
        go_ret2
        exact ⟨by rw [HN.out]; rfl, by (repeat (first | exact Below.refl _ _ | apply below_drew | apply below_draws | apply below_alloc | (refine below_trans ?_ (by assumption)) | (refine Below.trans ?_ (by assumption))))⟩
    | true =>
      by_cases hlt : last < n
      · have hcond : (numGet c).2.2 = true ∧ last < (numGet c).1 := by rw [hg]; exact ⟨rfl, hlt⟩
        have hgl := get_less c hcond.1
        obtain ⟨o, ho⟩ : ∃ o, takeL r = o := ⟨_, rfl⟩
        have hor : takeL (numGet c).2.1 = o := by rw [hg]; exact ho
        rw [ho] at HT
        cases o with
        | none =>
          have HN := Lib.hid (hh.out.trans (fieldF_bad hor))
          clear hg hor ho hcond hgl
          go_wp2_with (first | (go_at_call 9; refine (HC.out _).mono ?_; rintro e w' ⟨rfl, hb1⟩) | (go_at_call 10; refine (HT.out _).mono ?_; rintro e w' ⟨rfl, hb1⟩; unfold takeV))
          go_ret2
          exact ⟨by rw [HN.out]; rfl, by (repeat (first | exact Below.refl _ _ | apply below_drew | apply below_draws | apply below_alloc | (refine below_trans ?_ (by assumption)) | (refine Below.trans ?_ (by assumption))))⟩
        | some pm =>
          obtain ⟨p, m⟩ := pm
          have hm := takeL_less ho
          have hml : m.length < c.length := by rw [hg] at hgl; simp only at hgl; omega
          by_cases hw : n = tag
          · have HN := Lib.hid (hh.out.trans (fieldF_here hcond hor (by rw [hg]; exact hw)))
            clear hg hor ho hcond hgl
            subst hw
            go_wp2_with (first | (go_at_call 9; refine (HC.out _).mono ?_; rintro e w' ⟨rfl, hb1⟩) | (go_at_call 10; refine (HT.out _).mono ?_; rintro e w' ⟨rfl, hb1⟩; unfold takeV))
            go_ret2
            exact ⟨by rw [HN.out]; rfl, by (repeat (first | exact Below.refl _ _ | apply below_drew | apply below_draws | apply below_alloc | (refine below_trans ?_ (by assumption)) | (refine Below.trans ?_ (by assumption))))⟩
          · have HN := Lib.hid (hh.out.trans (fieldF_on hcond hor (by rw [hg]; exact hw)))
            rw [hg] at HN
            have hw' : (n == tag) = false := by simp [hw]
            clear hg hor ho hcond hgl hw
            go_wp2_with (first | (go_at_call 9; refine (HC.out _).mono ?_; rintro e w' ⟨rfl, hb1⟩) | (go_at_call 10; refine (HT.out _).mono ?_; rintro e w' ⟨rfl, hb1⟩; unfold takeV))
            go_roundw
            case rel => exact ⟨m, n, by omega, rfl, rfl, HN.out, by (repeat (first | exact Below.refl _ _ | apply below_drew | apply below_draws | apply below_alloc | (refine below_trans ?_ (by assumption)) | (refine Below.trans ?_ (by assumption))))⟩
            case measure => simp [S_size]; omega
      · have HN := Lib.hid (hh.out.trans (fieldF_no (by rw [hg]; simp; omega)))
        clear hg
        generalize takeL r = o at *
        cases o with
        | none =>
          go_wp2_with (first | (go_at_call 9; refine (HC.out _).mono ?_; rintro e w' ⟨rfl, hb1⟩) | (go_at_call 10; refine (HT.out _).mono ?_; rintro e w' ⟨rfl, hb1⟩; unfold takeV))
          go_ret2
          exact ⟨by rw [HN.out]; rfl, by (repeat (first | exact Below.refl _ _ | apply below_drew | apply below_draws | apply below_alloc | (refine below_trans ?_ (by assumption)) | (refine Below.trans ?_ (by assumption))))⟩
        | some pm =>
          obtain ⟨p, m⟩ := pm
          go_wp2_with (first | (go_at_call 9; refine (HC.out _).mono ?_; rintro e w' ⟨rfl, hb1⟩) | (go_at_call 10; refine (HT.out _).mono ?_; rintro e w' ⟨rfl, hb1⟩; unfold takeV))
          go_ret2
          exact ⟨by rw [HN.out]; rfl, by (repeat (first | exact Below.refl _ _ | apply below_drew | apply below_draws | apply below_alloc | (refine below_trans ?_ (by assumption)) | (refine Below.trans ?_ (by assumption))))⟩
theorem k_BytesField (l : List UInt8) (tag : Int) (w : World) (hs : l.length ≤ 2000000) :
    Calls Try.prog 4 #[.string (S l), .int .i64 tag] w fun e w' => e = .returned (fieldV (bytesField l tag)) ∧ Below w.heap.size w w' := by
  by_cases h1 : l.length ≤ 600
  · by_cases h2 : 1 ≤ tag ∧ tag ≤ 200
    · have hd : (decide (1 ≤ tag) && decide (tag ≤ 200)) = true := by simp [h2]
      have HF := Lib.hid (show bytesField l tag = fieldL l tag by unfold bytesField; rw [if_pos ⟨h1, h2⟩])
      have HC := Lib.hid (fun w => k_l5Field l tag w hs)
      generalize fieldL l tag = o at *
      obtain ⟨h2, h3⟩ := h2
      cases o with
      | none =>
        go_enter Try.func4, Try.ntmps4
        go_wp2_with (first | (go_at_call 6; refine (l6in _ _ _ _).mono ?_; rw [hd]; rintro e w' ⟨rfl, rfl⟩) | (go_at_call 7; refine (HC.out _).mono ?_; rintro e w' ⟨rfl, hb1⟩; unfold fieldV))
        go_ret2
        exact ⟨by rw [HF.out]; rfl, by (repeat (first | exact Below.refl _ _ | apply below_drew | apply below_draws | apply below_alloc | (refine below_trans ?_ (by assumption)) | (refine Below.trans ?_ (by assumption))))⟩
      | some p =>
        go_enter Try.func4, Try.ntmps4
        go_wp2_with (first | (go_at_call 6; refine (l6in _ _ _ _).mono ?_; rw [hd]; rintro e w' ⟨rfl, rfl⟩) | (go_at_call 7; refine (HC.out _).mono ?_; rintro e w' ⟨rfl, hb1⟩; unfold fieldV))
        go_ret2
        exact ⟨by rw [HF.out]; rfl, by (repeat (first | exact Below.refl _ _ | apply below_drew | apply below_draws | apply below_alloc | (refine below_trans ?_ (by assumption)) | (refine Below.trans ?_ (by assumption))))⟩
    · have hd : (decide (1 ≤ tag) && decide (tag ≤ 200)) = false := by
        rw [Bool.and_eq_false_iff, decide_eq_false_iff_not, decide_eq_false_iff_not]; omega
      have HF := Lib.hid (show bytesField l tag = none by unfold bytesField; rw [if_neg (fun h => h2 h.2)])
      clear h2
      go_enter Try.func4, Try.ntmps4
      go_wp2_with (first | (go_at_call 6; refine (l6in _ _ _ _).mono ?_; rw [hd]; rintro e w' ⟨rfl, rfl⟩))
      go_ret2
      exact ⟨by rw [HF.out]; rfl, by (repeat (first | exact Below.refl _ _ | apply below_drew | apply below_draws | apply below_alloc | (refine below_trans ?_ (by assumption)) | (refine Below.trans ?_ (by assumption))))⟩
  · have HF := Lib.hid (show bytesField l tag = none by unfold bytesField; rw [if_neg (fun h => h1 h.1)])
    go_enter Try.func4, Try.ntmps4
    go_wp2_with (first | (go_at_call 6; refine (l6in _ _ _ _).mono ?_; rintro e w' ⟨rfl, rfl⟩))
    go_ret2
    exact ⟨by rw [HF.out]; rfl, by (repeat (first | exact Below.refl _ _ | apply below_drew | apply below_draws | apply below_alloc | (refine below_trans ?_ (by assumption)) | (refine Below.trans ?_ (by assumption))))⟩
end Go.Proofs.Ytoeiohhaedabnaa
