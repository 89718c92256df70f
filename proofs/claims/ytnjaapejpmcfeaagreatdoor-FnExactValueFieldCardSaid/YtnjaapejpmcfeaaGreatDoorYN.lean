/- Lemmas that the laws of this seat use, texts laid behind one another: S4o, S4q, S4r, S4s. -/
import Derived.Test.YtnjaapejpmcfeaaGreatDoorZP
import Derived.Test.YtnjaapejpmcfeaaGreatDoorYA
import Derived.Test.YtnjaapejpmcfeaaGreatDoorYB
import Derived.Test.YtnjaapejpmcfeaaGreatDoorYD
import Derived.Test.YtnjaapejpmcfeaaGreatDoorYH
import Derived.Test.YtnjaapejpmcfeaaGreatDoorYI
set_option linter.unusedVariables false
set_option linter.unusedSimpArgs false
/-! Chapter 4 of the model: how deep a value is, and how many plain values it has. -/
namespace Go.Proofs.YtnjaapejpmcfeaaGreatDoor
open Go.ChangeShapes Go.WideShapes Go.ChangeAt Go.RowKit M

theorem tv_kind {X : List Ty} {x : V} (h : Tv X x) : 0 < x.kind.length := by
  cases h with
  | num h => exact Nat.lt_succ_self _
  | text h => exact Nat.lt_succ_self _
  | yes => exact Nat.lt_succ_self _
  | no => exact Nat.lt_succ_self _
  | list hk h => exact (kOk_len hk).2
  | none hk h => exact (kOk_len hk).2
  | some hk h => exact (kOk_len hk).2
  | record hk h => exact (kOk_len hk).2
  | union hk h => exact (kOk_len hk).2
  | enum hk h => exact (kOk_len hk).2
def DeepM (x : V) : Prop := ∀ (N : Nat → Prop) (p : Nat) (w : World), VAt w N x p → Calls Tryz.prog 22 #[vp p] w fun e w' => e = .returned (.int .i64 (deepV x)) ∧ Below w.heap.size w w'
set_option maxRecDepth 100000 in
theorem k_deep {X : List Ty} (v : V) : Tv X v → (outV v).length ≤ 1000000 → DeepM v := by
  induction v using V.ind with
  | h k t gs l ih =>
    intro hT hlen N p w hv
    obtain ⟨hk1, hk2⟩ := tv_kids hT
    have hd := tv_deep _ hT
    rw [show (V.mk k t gs l).kids = l from rfl] at hk1 hk2
    have IH := Lib.hid (fun (j : Nat) (hj : j < l.length) => ih l[j] (List.getElem_mem hj) (hk2 _ (List.getElem_mem hj)).1 (by have := (hk2 _ (List.getElem_mem hj)).2; omega))
    have HV := Lib.hid hv
    obtain ⟨ps, a, c, a', c', hp, c0, c1, -, c3, -, -, -⟩ := hv.cells
    have HDV := Lib.hid (show deepV (.mk k t gs l) = deepsV l + 1 by rw [deepV])
    have hdl : deepsV l ≤ 1000000 := by have := HDV.out; omega
    have HS := Lib.hid (fun (j : Nat) (hj : j < l.length) => (by rw [List.take_succ_eq_append_getElem hj, deepsV_snoc] : deepsV (l.take (j + 1)) = max (deepsV (l.take j)) (deepV l[j])))
    have hll : l.length ≤ 1000000 := by omega
    obtain ⟨n, hn⟩ : ∃ n, l.length = n := ⟨_, rfl⟩
    rw [hn] at c3 hll
    have HN := Lib.hid hn
    clear ih hT hlen hk1 hk2 hd hv hn
    go_enter Tryz.func22, Tryz.ntmps22
    go_wp2_with fail
    go_loopw [3, 4] (fun d i wr => ∃ j : Nat, j ≤ n ∧ i = .int .i64 j ∧ d = .int .i64 (deepsV (l.take j) : Nat) ∧ Hid (Below w.heap.size w wr)) (fun _ i _ => n - (intOf i).toNat)
    case atStart => exact ⟨0, by omega, rfl, rfl, Below.refl _ _⟩
    case round =>
      obtain ⟨j, hj, rfl, rfl, hb⟩ := hrel
      obtain ⟨ps, a, c, a', c', hp, c0, c1, -, c3, -, hK, hM⟩ := (HV.out.belowed hb.out).cells
      rw [HN.out] at c3
      have hplen : ps.length = n := by rw [hM.1, HN.out]
      by_cases hjn : j < n
      · obtain ⟨g, rfl, hg, -⟩ := hK.at_ (by omega)
        have x0 := hK.cell j (by omega)
        have hjl : j < l.length := by rw [HN.out]; exact hjn
        have hx := hM.2 j hjl (by omega)
        obtain ⟨q, hq⟩ : ∃ q, ps[j] = q := ⟨_, rfl⟩
        rw [hq] at x0 hx
        have IHj := Lib.hid (fun w (h : VAt w N l[j] q) => IH.out j hjl N q w h)
        have HX := Lib.hid hx
        have HE := Lib.hid (HS.out j hjl)
        obtain ⟨A, hA⟩ : ∃ A, deepsV (l.take j) = A := ⟨_, rfl⟩
        obtain ⟨b, hbb⟩ : ∃ b, deepV l[j] = b := ⟨_, rfl⟩
        rw [hbb] at IHj HE
        rw [hA] at HE ⊢
        clear hx hM hK hq hA hbb
        go_wp2_with fail
        refine (IHj.out _ HX.out).mono ?_
        rintro e w1 ⟨rfl, hb1⟩
        go_wp2_with fail
        go_roundw
        case rel => exact ⟨j + 1, by omega, by go_num, (by rw [HE.out]; first | rfl | (congr 1; omega)), below_trans hb.out hb1⟩
        case measure => simp [intOf]; omega
      · obtain rfl : n = j := by omega
        have hall : l.take n = l := List.take_of_length_le (by rw [HN.out]; exact Nat.le_refl _)
        rw [hall]
        have e1 : IntKind.i64.wrap ((deepsV l : Int) + 1) = (deepsV l : Int) + 1 := IntWalk.i64_in _ (by omega)
        clear hall hM hK
        go_wp2_with fail
        go_ret
        exact ⟨ret_i (by rw [HDV.out]; rfl), hb.out⟩
def SizeM (x : V) : Prop := ∀ (N : Nat → Prop) (p : Nat) (w : World), VAt w N x p → Calls Tryz.prog 20 #[vp p] w fun e w' => e = .returned (.int .i64 (sizeV x)) ∧ Below w.heap.size w w'
theorem sizesV_take (l : List V) (j : Nat) : sizesV (l.take j) ≤ sizesV l := by
  induction l generalizing j with
  | nil => simp
  | cons x r ih =>
    cases j with
    | zero => simp [sizesV]
    | succ j => have := ih j; simp only [List.take_succ_cons, sizesV]; omega
set_option maxRecDepth 100000 in
theorem k_size {X : List Ty} (v : V) : Tv X v → (outV v).length ≤ 1000000 → SizeM v := by
  induction v using V.ind with
  | h k t gs l ih =>
    intro hT hlen N p w hv
    obtain ⟨hk1, hk2⟩ := tv_kids hT
    have hd := tv_size _ hT
    have hkl : 0 < k.length := tv_kind hT
    rw [show (V.mk k t gs l).kids = l from rfl] at hk1 hk2
    have IH := Lib.hid (fun (j : Nat) (hj : j < l.length) => ih l[j] (List.getElem_mem hj) (hk2 _ (List.getElem_mem hj)).1 (by have := (hk2 _ (List.getElem_mem hj)).2; omega))
    have HV := Lib.hid hv
    obtain ⟨ps, a, c, a', c', hp, c0, c1, -, c3, -, -, -⟩ := hv.cells
    have hdl : sizesV l ≤ 1000000 := by
      by_cases h0 : l = []
      · subst h0; simp [sizesV]
      · rw [sizeV, if_pos (.inr (.inr (.inr h0)))] at hd; omega
    have HDV := Lib.hid (show sizeV (.mk k t gs l) = if at_ k 0 = 91 ∨ t = [82] ∨ t = [85] ∨ l ≠ [] then sizesV l else 1 by rw [sizeV])
    have HS := Lib.hid (fun (j : Nat) (hj : j < l.length) => (by rw [List.take_succ_eq_append_getElem hj, sizesV_snoc] : sizesV (l.take (j + 1)) = sizesV (l.take j) + sizeV l[j]))
    have HTK := Lib.hid (fun j => Nat.le_trans (sizesV_take l j) hdl)
    have hll : l.length ≤ 1000000 := by omega
    obtain ⟨n, hn⟩ : ∃ n, l.length = n := ⟨_, rfl⟩
    rw [hn] at c3 hll
    have HN := Lib.hid hn
    clear ih hT hlen hk1 hk2 hd hv hn hdl
    go_enter Tryz.func20, Tryz.ntmps20
    go_wp2_with fail
    go_loopw [3, 4] (fun d i wr => ∃ j : Nat, j ≤ n ∧ i = .int .i64 j ∧ d = .int .i64 (sizesV (l.take j) : Nat) ∧ Hid (Below w.heap.size w wr)) (fun _ i _ => n - (intOf i).toNat)
    case atStart => exact ⟨0, by omega, rfl, rfl, Below.refl _ _⟩
    case round =>
      obtain ⟨j, hj, rfl, rfl, hb⟩ := hrel
      obtain ⟨ps, a, c, a', c', hp, c0, c1, -, c3, -, hK, hM⟩ := (HV.out.belowed hb.out).cells
      rw [HN.out] at c3
      have hplen : ps.length = n := by rw [hM.1, HN.out]
      by_cases hjn : j < n
      · obtain ⟨g, rfl, hg, -⟩ := hK.at_ (by omega)
        have x0 := hK.cell j (by omega)
        have hjl : j < l.length := by rw [HN.out]; exact hjn
        have hx := hM.2 j hjl (by omega)
        obtain ⟨q, hq⟩ : ∃ q, ps[j] = q := ⟨_, rfl⟩
        rw [hq] at x0 hx
        have IHj := Lib.hid (fun w (h : VAt w N l[j] q) => IH.out j hjl N q w h)
        have HX := Lib.hid hx
        have HE := Lib.hid (HS.out j hjl)
        have hj2 := HTK.out (j + 1)
        rw [HE.out] at hj2
        obtain ⟨A, hA⟩ : ∃ A, sizesV (l.take j) = A := ⟨_, rfl⟩
        obtain ⟨b, hbb⟩ : ∃ b, sizeV l[j] = b := ⟨_, rfl⟩
        rw [hbb] at IHj HE hj2
        rw [hA] at HE hj2 ⊢
        have e1 : IntKind.i64.wrap ((A : Int) + (b : Int)) = (A : Int) + (b : Int) := IntWalk.i64_in _ (by omega)
        clear hx hM hK hq hA hbb
        go_wp2_with fail
        refine (IHj.out _ HX.out).mono ?_
        rintro e w1 ⟨rfl, hb1⟩
        go_wp2_with fail
        go_roundw
        case rel => exact ⟨j + 1, by omega, by go_num, (by rw [HE.out]; first | rfl | (congr 1; omega)), below_trans hb.out hb1⟩
        case measure => simp [intOf]; omega
      · obtain rfl : n = j := by omega
        have hall : l.take n = l := List.take_of_length_le (by rw [HN.out]; exact Nat.le_refl _)
        rw [hall]
        clear hall hM hK
        by_cases h1 : at_ k 0 = 91
        · have HR := Lib.hid (show sizeV (.mk k t gs l) = sizesV l by rw [HDV.out]; exact if_pos (.inl h1))
          clear HDV
          go_wp2_with fail
          go_ret
          exact ⟨ret_i (by rw [HR.out]), hb.out⟩
        · have b1 : (at_ k 0 == 91) = false := by simp [h1]
          by_cases h2 : t = [82]
          · have HR := Lib.hid (show sizeV (.mk k t gs l) = sizesV l by rw [HDV.out]; exact if_pos (.inr (.inl h2)))
            clear HDV h1
            subst h2
            go_wp2_with fail
            go_ret
            exact ⟨ret_i (by rw [HR.out]), hb.out⟩
          · have b2 : (t == [82]) = false := by simp [h2]
            by_cases h3 : t = [85]
            · have HR := Lib.hid (show sizeV (.mk k t gs l) = sizesV l by rw [HDV.out]; exact if_pos (.inr (.inr (.inl h3))))
              clear HDV h1 h2 b2
              subst h3
              go_wp2_with fail
              go_ret
              exact ⟨ret_i (by rw [HR.out]), hb.out⟩
            · have b3 : (t == [85]) = false := by simp [h3]
              by_cases h4 : 0 < n
              · have HR := Lib.hid (show sizeV (.mk k t gs l) = sizesV l by rw [HDV.out]; exact if_pos (.inr (.inr (.inr (fun h0 => by have := HN.out; rw [h0] at this; simp at this; omega)))))
                clear HDV h1 h2 h3
                go_wp2_with fail
                go_ret
                exact ⟨ret_i (by rw [HR.out]), hb.out⟩
              · obtain rfl : n = 0 := by omega
                have HR := Lib.hid (show sizeV (.mk k t gs l) = 1 by
                  rw [HDV.out]
                  refine if_neg ?_
                  rintro (h | h | h | h)
                  · exact h1 h
                  · exact h2 h
                  · exact h3 h
                  · exact h (List.eq_nil_of_length_eq_zero HN.out))
                clear HDV h1 h2 h3
                go_wp2_with fail
                go_ret
                exact ⟨ret_i (by rw [HR.out]; rfl), hb.out⟩
end Go.Proofs.YtnjaapejpmcfeaaGreatDoor

/-! Chapter 4 of the model: how deep a value of a schema is, and of how many plain values; a field of a record. -/
namespace Go.Proofs.YtnjaapejpmcfeaaGreatDoor
open Go.ChangeShapes Go.WideShapes Go.ChangeAt Go.RowKit M

/-- What is read whole is a value of the schema, and its text is no longer than 400 bytes. -/
theorem of4_some {l k s : Bs} {y : List Ty × V} (h : of4 l k s = some y) : kindS l k = some y.1 ∧ (∀ t ∈ y.1, GoodT t) ∧ validB y.1 = true ∧ kOk k = true ∧ Tv y.1 y.2 ∧ y.2.kind = k ∧ (outV y.2).length ≤ 400 := by
  cases hks : kindS l k with
  | none => rw [of4_no hks] at h; cases h
  | some X =>
    by_cases h4 : s.length ≤ 400
    · rw [of4_on hks h4 rfl] at h
      obtain ⟨hof, hko, -⟩ := kindS_some hks
      obtain ⟨hg, -, hva⟩ := ofS_some hof
      cases hr : readF X 12 s k with
      | none => rw [hr] at h; cases h
      | some x =>
        rw [hr] at h
        unfold wholeV at h
        simp only at h
        split at h
        · injection h with h
          subst h
          have h1 := readF_tv hg 12 s k x hko hr
          have h2 := readF_len hr
          exact ⟨rfl, hg, hva, hko, h1.1, h1.2, by show (outV x.1).length ≤ 400; omega⟩
        · cases h
    · rw [of4_long h4] at h; cases h
/-- Minus one, if there is none. -/
def numO (f : V → Nat) : Option (List Ty × V) → Int | none => -1 | some y => (f y.2 : Nat)
set_option maxRecDepth 100000 in
theorem k_ValueDeep (l k s : Bs) (w : World) (hl : l.length ≤ 2000000) (hk : k.length ≤ 2000000) (hs : s.length ≤ 2000000) :
    Calls Tryz.prog 12 #[.string (S l), .string (S k), .string (S s)] w fun e w' => e = .returned (.int .i64 (numO deepV (of4 l k s))) ∧ Below w.heap.size w w' := by
  have HC := Lib.hid (k_l4Of k_readAll l k s w hl hk hs)
  have HS := Lib.hid (fun y (h : of4 l k s = some y) => of4_some h)
  generalize of4 l k s = o at *
  obtain ⟨R, hR⟩ : ∃ R, numO deepV o = R := ⟨_, rfl⟩
  rw [hR]
  have HR := Lib.hid hR
  clear hR
  go_enter Tryz.func12, Tryz.ntmps12
  go_wp2_with fail
  refine HC.out.mono ?_
  rintro e w1 ⟨xv, pv, rfl, hb, hx⟩
  cases o with
  | none =>
    clear hx HS
    go_wp2_with fail
    go_ret
    exact ⟨ret_i (by rw [← HR.out]; rfl), hb⟩
  | some y =>
    obtain ⟨-, -, -, -, hT, -, hlen⟩ := HS.out y rfl
    obtain ⟨ps, p, -, -, -, rfl, hv⟩ := hx y rfl
    have HD := Lib.hid (k_deep y.2 hT (by omega) _ p w1 hv)
    clear hx HS hT hlen hv
    have HR2 := Lib.hid (show R = ((deepV y.2 : Nat) : Int) by rw [← HR.out]; rfl)
    obtain ⟨d, hd⟩ : ∃ d, deepV y.2 = d := ⟨_, rfl⟩
    rw [hd] at HD HR2
    clear hd
    go_wp2_with fail
    refine HD.out.mono ?_
    rintro e w2 ⟨rfl, hb2⟩
    go_wp2_with fail
    go_ret
    exact ⟨ret_i (by rw [HR2.out]), below_trans hb hb2⟩
set_option maxRecDepth 100000 in
theorem k_ValueSize (l k s : Bs) (w : World) (hl : l.length ≤ 2000000) (hk : k.length ≤ 2000000) (hs : s.length ≤ 2000000) :
    Calls Tryz.prog 10 #[.string (S l), .string (S k), .string (S s)] w fun e w' => e = .returned (.int .i64 (numO sizeV (of4 l k s))) ∧ Below w.heap.size w w' := by
  have HC := Lib.hid (k_l4Of k_readAll l k s w hl hk hs)
  have HS := Lib.hid (fun y (h : of4 l k s = some y) => of4_some h)
  generalize of4 l k s = o at *
  obtain ⟨R, hR⟩ : ∃ R, numO sizeV o = R := ⟨_, rfl⟩
  rw [hR]
  have HR := Lib.hid hR
  clear hR
  go_enter Tryz.func10, Tryz.ntmps10
  go_wp2_with fail
  refine HC.out.mono ?_
  rintro e w1 ⟨xv, pv, rfl, hb, hx⟩
  cases o with
  | none =>
    clear hx HS
    go_wp2_with fail
    go_ret
    exact ⟨ret_i (by rw [← HR.out]; rfl), hb⟩
  | some y =>
    obtain ⟨-, -, -, -, hT, -, hlen⟩ := HS.out y rfl
    obtain ⟨ps, p, -, -, -, rfl, hv⟩ := hx y rfl
    have HD := Lib.hid (k_size y.2 hT (by omega) _ p w1 hv)
    clear hx HS hT hlen hv
    have HR2 := Lib.hid (show R = ((sizeV y.2 : Nat) : Int) by rw [← HR.out]; rfl)
    obtain ⟨d, hd⟩ : ∃ d, sizeV y.2 = d := ⟨_, rfl⟩
    rw [hd] at HD HR2
    clear hd
    go_wp2_with fail
    refine HD.out.mono ?_
    rintro e w2 ⟨rfl, hb2⟩
    go_wp2_with fail
    go_ret
    exact ⟨ret_i (by rw [HR2.out]), below_trans hb hb2⟩
end Go.Proofs.YtnjaapejpmcfeaaGreatDoor

/-! Chapter 4 of the model: what a record tells of a tag; the field of a tag. -/
namespace Go.Proofs.YtnjaapejpmcfeaaGreatDoor
open Go.ChangeShapes Go.WideShapes Go.ChangeAt Go.RowKit M

theorem tv_rec {X : List Ty} {k t : Bs} {gs : List Int} {l : List V} (h : Tv X (.mk k t gs l)) (ht : t = [82]) : gs.length = l.length := by
  cases h with
  | num h => rfl
  | text h => rfl
  | yes => rfl
  | no => rfl
  | list hk h => cases ht
  | none hk h => rfl
  | some hk h => cases ht
  | record hk h hr hs hl => exact hl
  | union hk h => cases ht
  | enum hk h => cases ht
/-- What a value tells of a tag. -/
def atV (k t : Bs) (gs : List Int) (l : List V) (tag : Int) : Option V := if t = [82] then atP gs l tag else none
/-- What a call that looks for a value leaves. -/
def RetAt (w : World) (N : Nat → Prop) (o : Option V) (e : Ending) (w' : World) : Prop := ∃ q : Option Addr, e = .returned (.tuple #[.pointer q, .bool o.isSome]) ∧ Below w.heap.size w w' ∧ ∀ y, o = some y → ∃ p, q = some ⟨p, 0, none⟩ ∧ VAt w' N y p
theorem RetAt.no {w w' : World} {N : Nat → Prop} {o : Option V} {q : Option Addr} (h : o = none) (hb : Below w.heap.size w w') : RetAt w N o (.returned (.tuple #[.pointer q, .bool false])) w' := ⟨q, by rw [h]; rfl, hb, by rw [h]; intro y hy; cases hy⟩
theorem RetAt.yes {w w' : World} {N : Nat → Prop} {o : Option V} {p : Nat} {y : V} (h : o = some y) (hb : Below w.heap.size w w') (hv : VAt w' N y p) : RetAt w N o (.returned (.tuple #[vp p, .bool true])) w' := ⟨_, by rw [h]; rfl, hb, by rw [h]; intro y hy; injection hy with hy; subst hy; exact ⟨p, rfl, hv⟩⟩
set_option maxRecDepth 100000 in
theorem k_at {k t : Bs} {gs : List Int} {l : List V} {N : Nat → Prop} {p : Nat} {w : World} (tag : Int) (hv : VAt w N (.mk k t gs l) p) (hgl : t = [82] → gs.length = l.length) (hll : l.length ≤ 1000000) :
    Calls Tryz.prog 25 #[vp p, .int .i64 tag] w (RetAt w N (atV k t gs l tag)) := by
  obtain ⟨o, ho⟩ : ∃ o, atV k t gs l tag = o := ⟨_, rfl⟩
  rw [ho]
  have HV := Lib.hid hv
  obtain ⟨ps, a, c, a', c', hp, c0, c1, c2, c3, -, -, -⟩ := hv.cells
  obtain ⟨n, hn⟩ : ∃ n, l.length = n := ⟨_, rfl⟩
  rw [hn] at c3 hll
  have HN := Lib.hid hn
  by_cases ht : t = [82]
  · subst ht
    have HGL := Lib.hid ((hgl rfl).trans hn)
    have HO := Lib.hid (show o = atP gs l tag from ho ▸ if_pos rfl)
    rw [HGL.out] at c2
    clear hv hn hgl ho
    go_enter Tryz.func25, Tryz.ntmps25
    go_wp2_with fail
    go_loopw [6] (fun i wr => ∃ j : Nat, j ≤ n ∧ i = .int .i64 j ∧ Hid (o = atP (gs.drop j) (l.drop j) tag) ∧ Hid (Below w.heap.size w wr)) (fun i _ => n - (intOf i).toNat)
    case atStart => exact ⟨0, by omega, rfl, HO.out, Below.refl _ _⟩
    case round =>
      obtain ⟨j, hj, rfl, hI, hb⟩ := hrel
      have HVw := Lib.hid (HV.out.belowed hb.out)
      obtain ⟨ps, a, c, a', c', hp, c0, c1, c2, c3, hTg, hK, hM⟩ := HVw.out.cells
      rw [HN.out] at c3
      rw [HGL.out] at c2
      have hplen : ps.length = n := by rw [hM.1, HN.out]
      by_cases hjn : j < n
      · obtain ⟨g, rfl, hg, -⟩ := hK.at_ (by omega)
        obtain ⟨g2, rfl, hg2, -⟩ := hTg.at_ (by rw [HGL.out]; omega)
        have x0 := hK.cell j (by omega)
        have y0 := hTg.cell j (by rw [HGL.out]; exact hjn)
        have hjl : j < l.length := by rw [HN.out]; exact hjn
        have hjg : j < gs.length := by rw [HGL.out]; exact hjn
        have hx := hM.2 j hjl (by omega)
        obtain ⟨q, hq⟩ : ∃ q, ps[j] = q := ⟨_, rfl⟩
        rw [hq] at x0 hx
        have HJY := Lib.hid (fun (h : gs[j] = tag) => (by rw [hI.out, atP_yes gs l tag j hjg hjl h] : o = some l[j]))
        have HJN := Lib.hid (fun (h : ¬ gs[j] = tag) => (by rw [hI.out, atP_no gs l tag j hjg hjl h] : o = atP (gs.drop (j + 1)) (l.drop (j + 1)) tag))
        have HX := Lib.hid hx
        obtain ⟨b, hb3⟩ : ∃ b, gs[j] = b := ⟨_, rfl⟩
        rw [hb3] at y0 HJY HJN
        clear hx hM hK hTg hq hI hb3
        by_cases hbt : b = tag
        · have HY := Lib.hid (HJY.out hbt)
          have hbq : decide (b = tag) = true := decide_eq_true hbt
          clear HJY HJN
          subst hbt
          go_wp2_with fail
          go_ret2
          exact RetAt.yes HY.out hb.out HX.out
        · have HY := Lib.hid (HJN.out hbt)
          clear HJY HJN HX
          go_wp2_with fail
          go_roundw
          case rel => exact ⟨j + 1, by omega, by go_num, HY.out, hb.out⟩
          case measure => simp [intOf]; omega
      · obtain rfl : n = j := by omega
        have HY := Lib.hid (show o = none by rw [hI.out]; exact atP_end gs l tag n (by rw [HGL.out]; exact Nat.le_refl _))
        clear hM hK hTg hI
        go_wp2_with fail
        go_ret2
        exact RetAt.no HY.out hb.out
  · have HO := Lib.hid (show o = none from ho ▸ if_neg ht)
    have hb2 : (t == [82]) = false := by simp [ht]
    clear hv hn hgl ho ht
    go_enter Tryz.func25, Tryz.ntmps25
    go_wp2_with fail
    go_loopw [6] (fun i wr => i = .int .i64 0 ∧ Hid (Below w.heap.size w wr)) (fun i _ => 0)
    case atStart => exact ⟨rfl, Below.refl _ _⟩
    case round =>
      obtain ⟨rfl, hb⟩ := hrel
      obtain ⟨ps, a, c, a', c', hp, c0, c1, c2, c3, -, -, -⟩ := (HV.out.belowed hb.out).cells
      rw [HN.out] at c3
      by_cases hn0 : 0 < n
      · go_wp2_with fail
        go_ret2
        exact RetAt.no HO.out hb.out
      · obtain rfl : n = 0 := by omega
        go_wp2_with fail
        go_ret2
        exact RetAt.no HO.out hb.out
/-- The field of a tag of a kind that is a record. -/
def recF (X : List Ty) (k : Bs) (tag : Int) : Option Fl := match refT X k with | none => none | some t => if t.sort = 82 then fieldT t tag else none
theorem recF_none {X : List Ty} {k : Bs} {tag : Int} (h : refT X k = none) : recF X k tag = none := by unfold recF; rw [h]
theorem recF_other {X : List Ty} {k : Bs} {tag : Int} {t : Ty} (h : refT X k = some t) (hs : ¬ t.sort = 82) : recF X k tag = none := by unfold recF; rw [h]; exact if_neg hs
theorem recF_rec {X : List Ty} {k : Bs} {tag : Int} {t : Ty} (h : refT X k = some t) (hs : t.sort = 82) : recF X k tag = fieldT t tag := by unfold recF; rw [h]; exact if_pos hs
/-- What the search for a type leaves, whether there is one or not. -/
def RetRef4 (X : List Ty) (k : Bs) (w : World) (B : Nat) (e : Ending) (w' : World) : Prop := ∃ (t : Ty) (v : Value) (b : Bool), e = .returned (.tuple #[tv t v, .bool b]) ∧ Flds w' B v t.fields ∧ t.fields.length ≤ 1000000 ∧ Below w.heap.size w w' ∧ (b = false → refT X k = none) ∧ (b = true → refT X k = some t)
theorem k_ref_any (v : Value) (ps : List (Ty × Value)) (B : Nat) (k : Bs) (w : World) (h : Tys w B v ps) (hl : ps.length ≤ 1000000) (hB : B ≤ w.heap.size) (hk : kOk k = true) (hg : ∀ t ∈ ps.map (·.1), GoodT t) :
    Calls Tryz.prog 40 #[v, .string (S k)] w (RetRef4 (ps.map (·.1)) k w B) := by
  cases hr : refT (ps.map (·.1)) k with
  | none =>
    refine (k_ref_none v ps B k w h hl hB hk hr).mono ?_
    rintro e w' ⟨rfl, hb⟩
    exact ⟨⟨0, [], []⟩, .slice none 0 0, false, rfl, World.ownsRow_nil w' B _ 4, by simp, hb, fun _ => hr, fun h => by cases h⟩
  | some t =>
    have := k_ref v ps B k w h hl hB hk
    rw [hr] at this
    refine this.mono ?_
    rintro e w' ⟨t', v', rfl, ht, hF, hb⟩
    obtain rfl := ht _ rfl
    have hgt := hg _ (refT_mem0 hr)
    exact ⟨t', v', true, rfl, hF, by have := hgt.2.2.1; omega, hb, (fun h => by cases h), fun _ => hr⟩
set_option maxRecDepth 100000 in
set_option maxHeartbeats 4000000 in
theorem k_l4Record (v : Value) (ps : List (Ty × Value)) (B : Nat) (k : Bs) (tag : Int) (w : World) (h : Tys w B v ps) (hl : ps.length ≤ 1000000) (hB : B ≤ w.heap.size) (hk : kOk k = true) (hg : ∀ t ∈ ps.map (·.1), GoodT t) :
    Calls Tryz.prog 24 #[v, .string (S k), .int .i64 tag] w (RetF w (recF (ps.map (·.1)) k tag)) := by
  have HC := Lib.hid (fun W (hbw : Below w.heap.size w W) => k_ref_any v ps B k W (h.below hbw) hl (by have := hbw.size; omega) hk hg)
  obtain ⟨a, c, rfl, -, -⟩ := h.form
  obtain ⟨X, hX⟩ : ∃ X, ps.map (·.1) = X := ⟨_, rfl⟩
  rw [hX] at HC ⊢
  clear h hl hk hg hX
  go_enter Tryz.func24, Tryz.ntmps24
  go_wp2_with fail
  refine (HC.out _ (below_alloc (Below.refl _ _) _)).mono ?_
  rintro e w1 ⟨t, u, b, rfl, hF, hfl, hb1, hno, hyes⟩
  obtain ⟨au, cu, rfl, -, -⟩ := hF.form
  have KR := Lib.hid ((Blk.new w 42 #[.int .i64 0, .string { data := #[] }, .string { data := #[] }, .string { data := #[] }]).keep hb1)
  have hbw1 : Below w.heap.size w w1 := below_trans (below_alloc (Below.refl _ _) _) hb1
  have hz1 : w.heap.size + 1 ≤ w1.heap.size := by have := hb1.size; simp at this; omega
  have HFT := Lib.hid (k_field t au cu B tag (w1.alloc (.cells #[.int .u8 t.sort, .string (S t.name), .slice au t.fields.length cu] 86)) (hF.below (below_alloc (Below.refl _ _) _)) hfl)
  have HY := Lib.hid hyes
  have HNO := Lib.hid hno
  clear hb1 hF hfl hno hyes HC
  unfold tv at HFT
  unfold tv
  obtain ⟨y, hy⟩ : ∃ y, fieldT t tag = y := ⟨_, rfl⟩
  rw [hy] at HFT
  have HFY := Lib.hid hy
  clear hy
  go_wp2_with fail
  refine HFT.out.mono ?_
  rintro e w2 ⟨f, rfl, hf, hb2⟩
  unfold fv
  have KT := (Blk.new w1 86 #[.int .u8 t.sort, .string (S t.name), .slice au t.fields.length cu]).keep hb2
  have k0 := KT.cell 0
  simp at k0
  have hz2 := hb2.size
  simp at hz2
  have KR2 := (KR.out.keep (below_alloc (Below.refl _ _) (.cells #[.int .u8 t.sort, .string (S t.name), .slice au t.fields.length cu] 86))).keep hb2
  have v0 := KR2.cell 0
  have v1 := KR2.cell 1
  have v2 := KR2.cell 2
  have v3 := KR2.cell 3
  have r0 := KR2.frozen 0
  have r1 := KR2.frozen 1
  have r2 := KR2.frozen 2
  have r3 := KR2.frozen 3
  simp at v0 v1 v2 v3
  have hlt1 : w1.heap.size < w2.heap.size := by omega
  have hlt2 : w.heap.size < w2.heap.size := by omega
  have hne : ¬ w2.heap.size = w.heap.size := by omega
  have hne' : ¬ w.heap.size = w2.heap.size := by omega
  have hne2 : ¬ w2.heap.size = w1.heap.size := by omega
  have hne3 : ¬ w1.heap.size = w.heap.size := by omega
  have hne4 : ¬ w.heap.size = w1.heap.size := by omega
  have hbw2 : Below w.heap.size w w2 := below_trans (below_alloc hbw1 _) hb2
  clear KT KR KR2 hb2 HFT hbw1 hz2 hz1
  cases b with
  | false =>
    have HN := Lib.hid (recF_none (tag := tag) (HNO.out rfl))
    clear hf HY HNO HFY
    go_wp2_with fail
    go_region
    all_goals
      go_wp2_with fail
      refine bodyPost_ret (v := .tuple #[fv f, .bool false]) ?_ rfl ?_
      · simp [results, Tryz.results24, go_sem, fv, v0, v1, v2, v3, r0, r1, r2, r3, hlt1, hlt2, hne, hne', hne2, hne3, hne4]
      · exact RetF.no _ HN.out (by (repeat (first | with_reducible exact Below.refl _ _ | with_reducible apply below_drew | with_reducible apply below_draws | with_reducible apply below_alloc | with_reducible apply below_set | (with_reducible refine below_trans ?_ (by assumption)) | (with_reducible refine Below.trans ?_ (by assumption)) | exact Nat.le_refl _ | omega | (simp <;> omega))))
  | true =>
    have HRT := HY.out rfl
    cases y with
    | none =>
      have HN := Lib.hid (show recF X k tag = none by unfold recF; rw [HRT]; simp only; rw [HFY.out]; split <;> rfl)
      clear hf HY HNO HFY HRT
      go_wp2_with fail
      go_region
      all_goals
        go_wp2_with fail
        refine bodyPost_ret (v := .tuple #[fv f, .bool false]) ?_ rfl ?_
        · simp [results, Tryz.results24, go_sem, fv, v0, v1, v2, v3, r0, r1, r2, r3, hlt1, hlt2, hne, hne', hne2, hne3, hne4]
        · exact RetF.no _ HN.out (by (repeat (first | with_reducible exact Below.refl _ _ | with_reducible apply below_drew | with_reducible apply below_draws | with_reducible apply below_alloc | with_reducible apply below_set | (with_reducible refine below_trans ?_ (by assumption)) | (with_reducible refine Below.trans ?_ (by assumption)) | exact Nat.le_refl _ | omega | (simp <;> omega))))
    | some f' =>
      obtain rfl : f = f' := hf _ rfl
      by_cases h82 : t.sort = 82
      · have HN := Lib.hid (show recF X k tag = some f by rw [recF_rec HRT h82, HFY.out])
        have b82 : (t.sort == 82) = true := by simp [h82]
        clear hf HY HNO HFY HRT h82
        go_wp2_with fail
        go_region
        all_goals
          go_wp2_with fail
          refine bodyPost_ret (v := .tuple #[fv f, .bool true]) ?_ rfl ?_
          · simp [results, Tryz.results24, go_sem, fv, v0, v1, v2, v3, r0, r1, r2, r3, hlt1, hlt2, hne, hne', hne2, hne3, hne4, b82]
          · exact RetF.yes _ HN.out (by (repeat (first | with_reducible exact Below.refl _ _ | with_reducible apply below_drew | with_reducible apply below_draws | with_reducible apply below_alloc | with_reducible apply below_set | (with_reducible refine below_trans ?_ (by assumption)) | (with_reducible refine Below.trans ?_ (by assumption)) | exact Nat.le_refl _ | omega | (simp <;> omega))))
      · have HN := Lib.hid (recF_other (tag := tag) HRT h82)
        have b82 : (t.sort == 82) = false := by simp [h82]
        clear hf HY HNO HFY HRT h82
        go_wp2_with fail
        go_region
        all_goals
          go_wp2_with fail
          refine bodyPost_ret (v := .tuple #[fv f, .bool false]) ?_ rfl ?_
          · simp [results, Tryz.results24, go_sem, fv, v0, v1, v2, v3, r0, r1, r2, r3, hlt1, hlt2, hne, hne', hne2, hne3, hne4, b82]
          · exact RetF.no _ HN.out (by (repeat (first | with_reducible exact Below.refl _ _ | with_reducible apply below_drew | with_reducible apply below_draws | with_reducible apply below_alloc | with_reducible apply below_set | (with_reducible refine below_trans ?_ (by assumption)) | (with_reducible refine Below.trans ?_ (by assumption)) | exact Nat.le_refl _ | omega | (simp <;> omega))))
theorem atP_mem {gs : List Int} {l : List V} {t : Int} {y : V} (h : atP gs l t = some y) : y ∈ l := by
  induction gs generalizing l with
  | nil => cases h
  | cons g gs ih =>
    cases l with
    | nil => cases h
    | cons x xs =>
      rw [atP] at h
      split at h
      · injection h with h; subst h; simp
      · exact List.mem_cons_of_mem _ (ih h)
theorem atV_mem {k t : Bs} {gs : List Int} {l : List V} {tag : Int} {y : V} (h : atV k t gs l tag = some y) : y ∈ l := by
  unfold atV at h
  split at h
  · exact atP_mem h
  · cases h
theorem recF_kind {X : List Ty} (hg : ∀ t ∈ X, GoodT t) {k : Bs} {tag : Int} {f : Fl} (h : recF X k tag = some f) : kOk f.kind = true := by
  unfold recF at h
  split at h
  · cases h
  · rename_i t ht
    split at h
    · rename_i h82
      exact ((hg _ (refT_mem0 ht)).2.2.2.2 f (fieldT_mem h)).2.2.2.2.2.1 (by omega)
    · cases h
end Go.Proofs.YtnjaapejpmcfeaaGreatDoor

/-! Chapter 4 of the model: the value of a field. -/
namespace Go.Proofs.YtnjaapejpmcfeaaGreatDoor
open Go.ChangeShapes Go.WideShapes Go.ChangeAt Go.RowKit M

/-- The value of a field of a value that is read, as a text. -/
def fieldO (k : Bs) (tag : Int) : Option (List Ty × V) → Option Bs
  | none => none
  | some (X, .mk k' t gs l) => match recF X k tag with
    | none => none
    | some f => some (match atV k' t gs l tag with | some z => outV z | none => standV X f)
theorem fieldO_no {k : Bs} {tag : Int} {X : List Ty} {k' t : Bs} {gs : List Int} {l : List V} (h : recF X k tag = none) : fieldO k tag (some (X, .mk k' t gs l)) = none := by show (match recF X k tag with | none => none | some f => some (match atV k' t gs l tag with | some z => outV z | none => standV X f)) = _; rw [h]
theorem fieldO_told {k : Bs} {tag : Int} {X : List Ty} {k' t : Bs} {gs : List Int} {l : List V} {f : Fl} {z : V} (h : recF X k tag = some f) (h2 : atV k' t gs l tag = some z) : fieldO k tag (some (X, .mk k' t gs l)) = some (outV z) := by show (match recF X k tag with | none => none | some f => some (match atV k' t gs l tag with | some z => outV z | none => standV X f)) = _; rw [h]; simp only; rw [h2]
theorem fieldO_stands {k : Bs} {tag : Int} {X : List Ty} {k' t : Bs} {gs : List Int} {l : List V} {f : Fl} (h : recF X k tag = some f) (h2 : atV k' t gs l tag = none) : fieldO k tag (some (X, .mk k' t gs l)) = some (standV X f) := by show (match recF X k tag with | none => none | some f => some (match atV k' t gs l tag with | some z => outV z | none => standV X f)) = _; rw [h]; simp only; rw [h2]
set_option maxRecDepth 100000 in
set_option maxHeartbeats 4000000 in
theorem k_ValueField (l k s : Bs) (tag : Int) (w : World) (hl : l.length ≤ 2000000) (hk : k.length ≤ 2000000) (hs : s.length ≤ 2000000) :
    Calls Tryz.prog 14 #[.string (S l), .string (S k), .string (S s), .int .i64 tag] w (RetSB w (fieldO k tag (of4 l k s))) := by
  have HC := Lib.hid (k_l4Of k_readAll l k s w hl hk hs)
  have HS := Lib.hid (fun y (h : of4 l k s = some y) => of4_some h)
  obtain ⟨o, ho⟩ : ∃ o, of4 l k s = o := ⟨_, rfl⟩
  rw [ho] at HC HS ⊢
  obtain ⟨R, hR⟩ : ∃ R, fieldO k tag o = R := ⟨_, rfl⟩
  rw [hR]
  have HR := Lib.hid hR
  clear ho hR hl hk hs
  go_enter Tryz.func14, Tryz.ntmps14
  go_wp2_with fail
  refine HC.out.mono ?_
  rintro e w1 ⟨xv, pv, rfl, hb, hx⟩
  cases o with
  | none =>
    have HN := Lib.hid (show R = none by rw [← HR.out]; rfl)
    clear hx HS HR
    go_wp2_with fail
    go_ret2
    exact ⟨by rw [HN.out]; rfl, hb⟩
  | some y =>
    obtain ⟨X, x⟩ := y
    obtain ⟨k', t, gs, lv⟩ := x
    obtain ⟨-, hg, hva, hko, hT, -, hlen⟩ := HS.out _ rfl
    obtain ⟨ps, p, hps, hTy, hl8, rfl, hv⟩ := hx _ rfl
    simp only at hps hv hg hva hT hlen
    subst hps
    obtain ⟨a, c, rfl, -, -⟩ := hTy.form
    have HRec := Lib.hid (k_l4Record _ ps w.heap.size k tag w1 hTy (by omega) hb.size hko hg)
    obtain ⟨rf, hrf⟩ : ∃ rf, recF (ps.map (·.1)) k tag = rf := ⟨_, rfl⟩
    rw [hrf] at HRec
    have HRF := Lib.hid hrf; have HV := Lib.hid hv; have HTY := Lib.hid hTy; have HG := Lib.hid hg; have HVA := Lib.hid hva; have HT := Lib.hid hT
    have hbz := hb.size
    clear hx HS hrf hv hTy hg hva hT hko
    go_wp2_with fail
    refine HRec.out.mono ?_
    rintro e w2 ⟨f, rfl, hf, hb2⟩
    unfold fv
    have hbw2 : Below w.heap.size w w2 := below_trans hb hb2
    cases rf with
    | none =>
      have HN := Lib.hid (show R = none by rw [← HR.out]; exact fieldO_no HRF.out)
      clear hf HRF HV HTY HG HVA HT HR HRec HC
      go_wp2_with fail
      go_ret2
      exact ⟨by rw [HN.out]; rfl, by (repeat (first | with_reducible exact Below.refl _ _ | with_reducible apply below_drew | with_reducible apply below_draws | with_reducible apply below_alloc | with_reducible apply below_set | (with_reducible refine below_trans ?_ (by assumption)) | (with_reducible refine Below.trans ?_ (by assumption)) | exact Nat.le_refl _ | omega | (simp <;> omega)))⟩
    | some f' =>
      obtain rfl : f = f' := hf _ rfl
      have hkf := recF_kind HG.out HRF.out
      have hz2 := hb2.size
      have KF := Lib.hid (Blk.new w2 42 #[.int .i64 f.tag, .string (S f.name), .string (S f.kind), .string (S f.stand)])
      have hb3 : Below w1.heap.size w1 (w2.alloc (.cells #[.int .i64 f.tag, .string (S f.name), .string (S f.kind), .string (S f.stand)] 42)) := below_alloc hb2 _
      obtain ⟨hk1, hk2⟩ := tv_kids HT.out
      rw [show (V.mk k' t gs lv).kids = lv from rfl] at hk1 hk2
      have HA := Lib.hid (k_at tag (HV.out.belowed hb3) (tv_rec HT.out) (by omega))
      have HKD := Lib.hid (fun z (hz : z ∈ lv) N q W (h : VAt W N z q) => k_out HG.out z (hk2 z hz).1 (by have := (hk2 z hz).2; omega) N q W h)
      have HST := Lib.hid (fun W (hbw : Below (w2.heap.size + 1) (w2.alloc (.cells #[.int .i64 f.tag, .string (S f.name), .string (S f.kind), .string (S f.stand)] 42)) W) =>
        k_stand _ ps w.heap.size hl8 HG.out HVA.out f hkf W ((HTY.out.below hb3).below (by simpa using hbw)) (by have := hbw.size; simp at this; omega))
      obtain ⟨o, ho⟩ : ∃ o, atV k' t gs lv tag = o := ⟨_, rfl⟩
      rw [ho] at HA
      have HO := Lib.hid ho
      unfold fv at HST
      clear hf ho hk1 hk2 hkf HV HTY hb3 HC HRec hb2 hz2 hlen hl8
      go_wp2_with fail
      refine HA.out.mono ?_
      rintro e w3 ⟨q, rfl, hb3, hy⟩
      have hbw3 : Below w.heap.size w w3 := below_trans (below_alloc hbw2 _) hb3
      have KF3 := KF.out.keep hb3
      have f0 := KF3.cell 0
      have f1 := KF3.cell 1
      have f2 := KF3.cell 2
      have f3 := KF3.cell 3
      simp at f0 f1 f2 f3
      have hz3 := hb3.size
      simp at hz3
      have hlt : w2.heap.size < w3.heap.size := by omega
      cases o with
      | some z =>
        obtain ⟨p', rfl, hz⟩ := hy z rfl
        have HN := Lib.hid (show R = some (outV z) by rw [← HR.out]; exact fieldO_told HRF.out HO.out)
        have HK := Lib.hid (HKD.out z (atV_mem HO.out) _ p' w3 hz)
        clear hy hz HKD HST HO HR HRF HG HVA HT HA KF KF3
        generalize outV z = O at *
        go_wp2_with fail
        refine HK.out.mono ?_
        rintro e w4 ⟨rfl, hb4⟩
        go_wp2_with fail
        go_ret2
        exact ⟨by rw [HN.out]; rfl, below_trans hbw3 hb4⟩
      | none =>
        have HN := Lib.hid (show R = some (standV (ps.map (·.1)) f) by rw [← HR.out]; exact fieldO_stands HRF.out HO.out)
        have HK := Lib.hid (HST.out w3 (by simpa using hb3))
        clear hy HKD HST HO HR HRF HG HVA HT HA KF KF3
        generalize standV (ps.map (·.1)) f = O at *
        go_wp2_with fail
        refine HK.out.mono ?_
        rintro e w4 ⟨rfl, hb4⟩
        go_wp2_with fail
        go_ret2
        exact ⟨by rw [HN.out]; rfl, below_trans hbw3 hb4⟩
end Go.Proofs.YtnjaapejpmcfeaaGreatDoor
