/- Lemmas of this seat. -/
import Derived.Test.YtcjooeklehggaaaGreatDoorZCs
import Derived.Test.YtcjooeklehggaaaGreatDoorZDs
set_option linter.unusedVariables false
set_option linter.unusedSimpArgs false
set_option maxRecDepth 100000
namespace Go.Proofs.YtcjooeklehggaaaGreatDoor
open Go.ChangeShapes Go.WideShapes Go.ChangeAt Go.RowKit M
theorem app_fld {w : World} {ops : Array Oper} {rest : List Oper} {o : Oper} {a : Act} {Q : Exit → Act → World → Prop} (hgd : o.guard = none) (s x : Operand)
  (ho : o.op = .call { callee := .builtin .append, args := #[s, x], argTypes := #[59, 59] })
  (B : Nat) (v : Value) (fs : List Fl) (hs : a.eval s = v) (hown : Flds w B v fs) (b : Nat) (f : Fl) (hx : a.eval x = .slice (some ⟨b, 0, none⟩) 1 1) (hc : Blk w b 65 #[.int .i64 f.tag, .string (S f.name), .string (S f.kind), .string (S f.stand)])
  (hn : fs.length ≤ 3000000) (hB : B ≤ w.heap.size)
  (h : ∀ v' w', Flds w' B v' (fs ++ [f]) → Below B w w' → w.grownBy w' v.ownBlock → wpList Tryz.prog ops Q rest (a.put o.dst v') w') : wpList Tryz.prog ops Q (o :: rest) a w := by
 refine app_gen hgd s x 59 ho B 65 _ 4 56 Tryz.underlying59 info_field rfl (by omega) (by omega) v fs.length (fs.flatMap flCells) hs hown ⟨b, 0, none⟩ 1 1 (flCells f) hx rfl ?_ ?_ (by omega) hB (fun v' w' h1 h2 h3 => h v' w' ?_ h2 h3)
 ·intro j u hj
  match j, hj with
  | 0, hj => simp [flCells] at hj; subst hj; exact hc.cell 0
  | 1, hj => simp [flCells] at hj; subst hj; exact hc.cell 1
  | 2, hj => simp [flCells] at hj; subst hj; exact hc.cell 2
  | 3, hj => simp [flCells] at hj; subst hj; exact hc.cell 3
 ·intro u hu
  simp [flCells] at hu
  rcases hu with rfl | rfl | rfl | rfl <;> rfl
 ·unfold Flds; rw [List.length_append, List.flatMap_append]; simpa using h1
theorem RetT.set_of {w wc : World} {B q : Nat} {cs : Array Value} {o : Option Ty} (t : Ty) (v : Value) {x y z : Value} (ho : ∀ x, o = some x → t = x) (hF : Flds wc w.heap.size v t.fields) (hX : Blk wc w.heap.size 61 cs) (hb : Below w.heap.size w wc) (hB : B ≤ w.heap.size) :
  RetT w B o (.returned (.tuple #[tv t v, .bool o.isSome])) ((((wc.drewN q).setCell ⟨w.heap.size, 0, none⟩ x).setCell ⟨w.heap.size, 1, none⟩ y).setCell ⟨w.heap.size, 2, none⟩ z) := by
 refine ⟨t, v, rfl, ho, ?_, below_set (below_set (below_set (below_drewN hb q) (Nat.le_refl _) _) (Nat.le_refl _) _) (Nat.le_refl _) _⟩
 exact (Flds.grown (w := wc.drewN q) hF (show Blk (wc.drewN q) w.heap.size _ cs from hX) (by decide) (grown_set (grown_set (grown_set (grown_self _ _))))).mono hB
theorem RetT.drew {w W : World} {B : Nat} {o : Option Ty} {e : Ending} (h : RetT w B o e W) : RetT w B o e W.drew := by
 obtain ⟨t, v, h1, h2, h3, h4⟩ := h
 exact ⟨t, v, h1, h2, h3, below_drew h4⟩
theorem RetT.set_of0 {w wc : World} {B : Nat} {cs : Array Value} {o : Option Ty} (t : Ty) (v : Value) {b : Bool} {x y z : Value} (hbo : o.isSome = b) (ho : ∀ x, o = some x → t = x) (hF : Flds wc w.heap.size v t.fields) (hX : Blk wc w.heap.size 61 cs) (hb : Below w.heap.size w wc) (hB : B ≤ w.heap.size) :
  RetT w B o (.returned (.tuple #[tv t v, .bool b])) (((wc.setCell ⟨w.heap.size, 0, none⟩ x).setCell ⟨w.heap.size, 1, none⟩ y).setCell ⟨w.heap.size, 2, none⟩ z) := by
 subst hbo
 refine ⟨t, v, rfl, ho, ?_, below_set (below_set (below_set hb (Nat.le_refl _) _) (Nat.le_refl _) _) (Nat.le_refl _) _⟩
 exact (Flds.grown hF hX (by decide) (grown_set (grown_set (grown_set (grown_self _ _))))).mono hB
theorem RetT.set_no {w wc : World} {B q : Nat} {cs : Array Value} {o : Option Ty} (t : Ty) (v : Value) {x y z : Value} (h : o = none) (hF : Flds wc w.heap.size v t.fields) (hX : Blk wc w.heap.size 61 cs) (hb : Below w.heap.size w wc) (hB : B ≤ w.heap.size) :
  RetT w B o (.returned (.tuple #[tv t v, .bool false])) ((((wc.drewN q).setCell ⟨w.heap.size, 0, none⟩ x).setCell ⟨w.heap.size, 1, none⟩ y).setCell ⟨w.heap.size, 2, none⟩ z) := by
 have := RetT.set_of (q := q) (x := x) (y := y) (z := z) (o := o) t v (by rw [h]; intro x hx; cases hx) hF hX hb hB
 rwa [h] at this ⊢
theorem fld_sets {w : World} {g : Nat} {x y z u a b c d : Value} (h : Blk w g 65 #[x, y, z, u]) : Blk ((((w.setCell ⟨g, 0, none⟩ a).setCell ⟨g, 1, none⟩ b).setCell ⟨g, 2, none⟩ c).setCell ⟨g, 3, none⟩ d) g 65 #[a, b, c, d] := (((h.set_ 0 a).set_ 1 b).set_ 2 c).set_ 3 d
set_option maxHeartbeats 20000000 in
theorem k_type4 (l : Bs) (w : World) (B : Nat) (hs : l.length ≤ 1000000) (hB : B ≤ w.heap.size) (h : 1 ≤ eqAt l ∧ eqAt l < l.length) (h2 : isName ((l.drop 1).take (eqAt l - 1)) = true ∧ isSort (at_ l 0) = true) (h3 : l.drop (eqAt l + 1) ≠ []) :
  Calls Tryz.prog 94 #[.string (S l)] w (RetT w B (readType l)) := by
 rw [readType_on h h2 h3]
 obtain ⟨he1, he2⟩ := h
 obtain ⟨e, hE⟩ : ∃ e, eqAt l = e := ⟨_, rfl⟩
 rw [hE] at he1 he2 h2 h3 ⊢
 have HE := Lib.hid hE; clear hE
 obtain ⟨c, hcc⟩ : ∃ c, at_ l 0 = c := ⟨_, rfl⟩
 obtain ⟨n, hn⟩ : ∃ n, (l.drop 1).take (e - 1) = n := ⟨_, rfl⟩
 rw [hcc, hn] at h2 ⊢
 have ex : (S l).extract 1 e = S n := by rw [S_ext, hn]
 have hnl : n.length ≤ 2000000 := by rw [← hn]; simp; omega
 have HI := Lib.hid h2.1
 have HSO := Lib.hid h2.2
 have hcb : 0 ≤ c ∧ c < 256 := by rw [← hcc]; exact ⟨at_lo l 0, at_hi l 0⟩
 obtain ⟨hc0, hc1⟩ := hcb
 have HCC := Lib.hid hcc; clear hn h2
 have hrest : (l.drop (e + 1) == []) = false := beq_eq_false_iff_ne.2 h3
 clear h3
 have hcl := cutL_get 44 (l.drop (e + 1))
 have hdl : (l.drop (e + 1)).length ≤ 1000000 := by simp; omega
 have HCUT := Lib.hid (fun w => k_l3Cut (l.drop (e + 1)) 44 w (by omega) (by omega) (by omega))
 have hcn := cutL_ne 44 (l.drop (e + 1))
 have hcc2 : (cutL 44 (l.drop (e + 1))).length ≤ 1000001 := by have := cutL_cnt 44 (l.drop (e + 1)); omega
 generalize cutL 44 (l.drop (e + 1)) = L at *
 have HCL := Lib.hid (fun k => Nat.le_trans (hcl k) hdl); clear hcl
 have HNE := Lib.hid hcn; clear hcn
 obtain ⟨o, ho⟩ : ∃ o, tyOf c n (readFields c L []) = o := ⟨_, rfl⟩
 rw [ho]
 have HO := Lib.hid ho; clear ho
 go_enter Tryz.func94, Tryz.ntmps94
 go_wp2_with fail
 go_loop [4] (fun i => ∃ k : Nat, k ≤ l.length ∧ k ≤ e ∧ i = .int .i64 k) (fun i => l.length - (intOf i).toNat)
 case atStart => exact ⟨0, by omega, by omega, rfl⟩
 case round =>
  obtain ⟨k, hk, hk2, rfl⟩ := hrel
  have hlt : k < l.length := by omega
  by_cases hc : at_ l k = 61
  ·obtain rfl : k = e := by have := eqAt_yes l k (by rw [HE.out]; exact hk2) hlt hc; rw [HE.out] at this; exact this.symm
   have hb : (at_ l k != 61) = false := by simp [hc]
   have hl0 : 0 < l.length := by omega
   clear hc
   have hq : c = 82 ∨ c = 85 ∨ c = 69 := by have := HSO.out; unfold isSort at this; simp at this; omega
   have hqq : (c != 82 && c != 85 && c != 69) = false := by rcases hq with rfl | rfl | rfl <;> rfl
   go_wp2_with fail
   go_region
   go_upto_region 7 with fail
   go_cut [56] (fun s wx => s = .bool false ∧ wx = ((w.alloc (.cells #[.int .u8 0, .string { data := #[] }, .slice none 0 0] 61)).alloc (.cells #[.int .u8 c, .string (S n), .slice none 0 0] 61)).drew)
   case first =>
    go_wp2_with (go_at_call 98; refine (k_l2Name n _ hnl).mono ?_; rw [HI.out]; rintro e w' ⟨rfl, rfl⟩)
    all_goals (go_meet; exact ⟨rfl, by first | rfl | simp [*]⟩)
   case rest =>
    obtain ⟨rfl, rfl⟩ := hcut
    go_wp2_with fail
    refine (HCUT.out _).mono ?_
    rintro e w1 ⟨vl, rfl, hSL, hb1⟩
    obtain ⟨gl, cl, rfl, hcl1, hgl1, hgl2⟩ := hSL.some HNE.out
    obtain ⟨m, hm⟩ : ∃ m, L.length = m := ⟨_, rfl⟩
    rw [hm] at hcl1 hSL hcc2 ⊢
    have HM := Lib.hid hm; clear hm
    have HSL := Lib.hid (Strs.mono hSL (show w.heap.size ≤ _ by simp; omega)); clear hSL
    have K0 := Lib.hid (Blk.keep (((Blk.new w 61 #[.int .u8 0, .string { data := #[] }, .slice none 0 0]).alloc (.cells #[.int .u8 c, .string (S n), .slice none 0 0] 61))).drew hb1)
    have K1 := Lib.hid (Blk.keep (Blk.new (w.alloc (.cells #[.int .u8 0, .string { data := #[] }, .slice none 0 0] 61)) 61 #[.int .u8 c, .string (S n), .slice none 0 0]).drew hb1)
    rw [World.size_alloc] at K1
    have hz1 : w.heap.size + 1 < w1.heap.size := by have := hb1.size; simp at this; omega
    have hbw : Below w.heap.size w w1 := by (repeat (first | with_reducible exact Below.refl _ _ | with_reducible apply below_drew | with_reducible apply below_draws | with_reducible apply below_alloc | with_reducible apply below_set | (with_reducible refine below_trans ?_ (by assumption)) | (with_reducible refine Below.trans ?_ (by assumption)) | exact Nat.le_refl _ | omega | (simp <;> omega)))
    clear hb1
    go_wp2_with fail
    go_loopw [7] (fun i wr => ∃ (k : Nat) (fs : List Fl) (a : Option Addr) (cp : Nat), k ≤ m ∧ fs.length ≤ k ∧ i = .int .i64 k ∧ Hid (Blk wr w.heap.size 61 #[.int .u8 0, .string { data := #[] }, .slice none 0 0]) ∧ Hid (Blk wr (w.heap.size + 1) 61 #[.int .u8 c, .string (S n), .slice a fs.length cp]) ∧
     Hid (Flds wr w.heap.size (.slice a fs.length cp) fs) ∧ Hid (Strs wr w.heap.size (.slice (some ⟨gl, 0, none⟩) m cl) L) ∧ Hid (readFields c L [] = readFields c (L.drop k) fs) ∧ Below w.heap.size w wr ∧ w.heap.size + 1 < wr.heap.size) (fun i _ => m - (intOf i).toNat)
    case atStart => exact ⟨0, [], none, 0, by omega, by simp, rfl, K0.out, K1.out, Flds.nil_ _ _, HSL.out, (rfl : readFields c L [] = readFields c (L.drop 0) []), hbw, hz1⟩
    case round =>
     obtain ⟨j, fs, a, cp, hj, hfj, rfl, hK0, hK1, hF, hS, hR, hb, hz⟩ := hrel
     by_cases hjm : j < m
     ·obtain ⟨wo, rfl⟩ : ∃ wo : World, wo = wr := ⟨_, rfl⟩
      have x0 := hS.out.cell j (by rw [HM.out]; exact hjm)
      obtain ⟨p, hp⟩ : ∃ p, L.getD j [] = p := ⟨_, rfl⟩
      have hpl : p.length ≤ 1000000 := by rw [← hp]; exact HCL.out j
      rw [hp] at x0
      have HP := Lib.hid hp; clear hp
      have t0 := hK1.out.cell 0
      have t1 := hK1.out.cell 1
      have t2 := hK1.out.cell 2
      simp at t0 t1 t2
      have hgs : gl < wo.heap.size := hS.out.form.elim fun ao h => by
       obtain ⟨cap, hv, -, ⟨-, h0⟩ | ⟨g, hh, -, h2⟩⟩ := h
       ·exact absurd h0 HNE.out
       ·injection hv with hv; rw [hh] at hv; injection hv with hv; injection hv with hv; omega
      have HCF := Lib.hid (fun w => k_l3ReadField p c w hpl hc0 hc1)
      obtain ⟨y, hy⟩ : ∃ y, readField p c = y := ⟨_, rfl⟩
      rw [hy] at HCF
      have HY := Lib.hid hy; clear hy
      have hg1 : w.heap.size + 1 < wo.heap.size := hz
      go_upto_region 15 with fail
      go_cut [8, 9] (fun s8 s9 wx => ∃ (f : Fl) (g8 : Nat), s8 = .pointer (some ⟨g8, 0, none⟩) ∧ s9 = .bool y.isSome ∧ Blk wx g8 65 #[.int .i64 f.tag, .string (S f.name), .string (S f.kind), .string (S f.stand)] ∧ wo.heap.size ≤ g8 ∧ (∀ x, y = some x → f = x) ∧ Below wo.heap.size wo wx)
      case first =>
       clear HE HI HSO HCUT HCL HNE HO HM hK0 hK1 hF hS hR HY HP hpl hc0 hc1 hnl he1 he2 hrest hdl hb hz hcl1 K0 K1 HSL hbw hz1 t1 t2 hgl1 hgl2 hk hk2 hlt hl0 hq hqq ex hs hB hj hfj hcc2
       go_region_with (go_at_call 118; refine (HCF.out _).mono ?_; rintro e w' ⟨f, rfl, hf, hb⟩; obtain ⟨hce, hfr⟩ := bcell hb; unfold fv)
       all_goals
        clear HCF
        go_wp2_with fail
        go_meet
        refine ⟨f, _, rfl, rfl, ?_, ?_, hf, ?_⟩
        ·first | (with_reducible exact Blk.new _ _ _) | (with_reducible exact fld_sets (Blk.keep (Blk.new wo 65 _).drew hb))
        ·first | (with_reducible exact Nat.le_refl _) | (clear hce hfr; have := hb.size; simp at this; omega)
        ·first | (with_reducible exact below_alloc (below_trans (below_drew (Below.refl _ _)) hb) _) | (with_reducible exact below_set (below_set (below_set (below_set (below_trans (below_drew (below_alloc (Below.refl _ _) _)) hb) (Nat.le_refl _) _) (Nat.le_refl _) _) (Nat.le_refl _) _) (Nat.le_refl _) _)
      case rest =>
       obtain ⟨f, g8, rfl, rfl, hk8, hg8, hf, hbx⟩ := hcut
       have X0 := Lib.hid (Blk.keep hK0.out hbx)
       have X1 := Lib.hid (Blk.keep hK1.out hbx)
       have XF := Lib.hid (hF.out.below hbx)
       have XS := Lib.hid (hS.out.below hbx)
       have X8 := Lib.hid hk8; clear hk8
       have hzx : w.heap.size + 1 < wc.heap.size := by have := hbx.size; omega
       have hbw2 : Below w.heap.size w wc := hb.trans (hbx.mono (by omega))
       have hgx : g8 < wc.heap.size := X8.out.lt
       clear hK0 hK1 hF hS hbx x0 t0 t1 t2 HCF hgs hgl1 hgl2 hq hqq ex hrest hnl hdl he1 he2 hl0 hs hpl K0 K1 HSL hbw hz1 HCUT
       have v0 := X0.out.cell 0
       have v1 := X0.out.cell 1
       have v2 := X0.out.cell 2
       have r0 := X0.out.frozen 0
       have r1 := X0.out.frozen 1
       have r2 := X0.out.frozen 2
       have t0 := X1.out.cell 0
       have t1 := X1.out.cell 1
       have t2 := X1.out.cell 2
       have q0 := X1.out.frozen 2
       simp at v0 v1 v2 t0 t1 t2
       cases y with
       | none =>
        have HF := Lib.hid (show o = none by
         rw [← HO.out, hR.out, readFields_no (by rw [HM.out]; exact hjm) (by
          have := HY.out; rw [← HP.out, List.getD_eq_getElem?_getD, List.getElem?_eq_getElem (by rw [HM.out]; exact hjm)] at this; exact this)]; rfl)
        go_wp2_with fail
        refine bodyPost_ret (v := .tuple #[tv ⟨c, n, fs⟩ (.slice a fs.length cp), .bool false]) ?_ rfl ?_
        ·simp [results, Tryz.results94, go_sem, tv, v0, v1, v2, r0, r1, r2, hzx]
        ·exact RetT.no _ _ HF.out (XF.out.grown X0.out (by decide) (grown_set (grown_set (grown_set (grown_self _ _)))) |>.mono hB) (by (repeat (first | with_reducible exact Below.refl _ _ | with_reducible apply below_drew | with_reducible apply below_draws | with_reducible apply below_alloc | with_reducible apply below_set | (with_reducible refine below_trans ?_ (by assumption)) | (with_reducible refine Below.trans ?_ (by assumption)) | exact Nat.le_refl _ | omega | (simp <;> omega))))
       | some f' =>
        obtain rfl : f = f' := hf _ rfl
        have hm4 : m ≤ 1000001 := hcc2
        have hjL : j < L.length := by rw [HM.out]; exact hjm
        have HRY := Lib.hid (show readField L[j] c = some f by
         have := HY.out; rw [← HP.out, List.getD_eq_getElem?_getD, List.getElem?_eq_getElem (by rw [HM.out]; exact hjm)] at this; exact this)
        have y0 := X8.out.cell 0
        have y1 := X8.out.cell 1
        have y2 := X8.out.cell 2
        have y3 := X8.out.cell 3
        simp at y0 y1 y2 y3
        clear hf
        go_wp2_with fail
        go_loopw [10] (fun i wr => ∃ j2 q : Nat, j2 ≤ fs.length ∧ i = .int .i64 j2 ∧ wr = wc.drewN q ∧ Hid (clash fs f = clash (fs.drop j2) f)) (fun i _ => fs.length - (intOf i).toNat)
        case atStart => exact ⟨0, 0, by omega, rfl, rfl, (rfl : clash fs f = clash fs f)⟩
        case round =>
         obtain ⟨j2, q, hj2, rfl, rfl, hC⟩ := hrel
         by_cases hjl : j2 < fs.length
         ·obtain ⟨gf, rfl, hgf1, hgf2⟩ : ∃ gf, a = some ⟨gf, 0, none⟩ ∧ w.heap.size ≤ gf ∧ gf < wc.heap.size := by
           obtain ⟨ao, c', hv, -, hh⟩ := XF.out.form
           injection hv with hv
           rcases hh with ⟨_, h0⟩ | ⟨g, hh, h1, h2⟩
           ·rw [h0] at hjl; simp at hjl
           ·exact ⟨g, hv.trans hh, h1, h2⟩
          obtain ⟨z0, z1, -, -⟩ := XF.out.cells4 j2 hjl
          have HC1 := Lib.hid (hC.out.trans (clash_in fs f j2 hjl))
          obtain ⟨g, hg⟩ : ∃ g, fs[j2] = g := ⟨_, rfl⟩
          rw [hg] at z0 z1 HC1
          clear hg
          unfold clash1 at HC1
          by_cases hd : f.tag ≤ g.tag
          ·have hdt : decide (f.tag ≤ g.tag) = true := decide_eq_true hd
           have HF := Lib.hid (show o = none by
            rw [← HO.out, hR.out, readFields_clash (by rw [HM.out]; exact hjm) HRY.out (by rw [HC1.out, hdt]; rfl)]; rfl)
           clear hd
           go_wp2_with fail
           go_quiet (fail)
           clear z0 z1 y0 y1 y2 y3 HC1 hdt hC q0 HRY
           go_wp2_with fail
           refine bodyPost_ret (v := .tuple #[tv ⟨c, n, fs⟩ (.slice (some ⟨gf, 0, none⟩) fs.length cp), .bool false]) ?_ rfl ?_
           ·simp only [results, Tryz.results94, tv]; simp [go_sem, v0, v1, v2, r0, r1, r2, hzx]
           ·exact RetT.set_no _ _ HF.out XF.out X0.out hbw2 hB
          ·have hdt : decide (f.tag ≤ g.tag) = false := decide_eq_false hd
           cases hnm : (g.name == f.name) with
           | true =>
            have HF := Lib.hid (show o = none by
             rw [← HO.out, hR.out, readFields_clash (by rw [HM.out]; exact hjm) HRY.out (by rw [HC1.out, hnm, Bool.or_true]; rfl)]; rfl)
            clear hd
            go_wp2_with fail
            go_quiet (fail)
            clear z0 z1 y0 y1 y2 y3 HC1 hdt hC q0 HRY hnm
            go_wp2_with fail
            refine bodyPost_ret (v := .tuple #[tv ⟨c, n, fs⟩ (.slice (some ⟨gf, 0, none⟩) fs.length cp), .bool false]) ?_ rfl ?_
            ·simp only [results, Tryz.results94, tv]; simp [go_sem, v0, v1, v2, r0, r1, r2, hzx]
            ·exact RetT.set_no _ _ HF.out XF.out X0.out hbw2 hB
           | false =>
            have HC2 := Lib.hid (HC1.out.trans (by rw [hdt, hnm]; rfl : _ = clash (fs.drop (j2 + 1)) f))
            clear hd
            go_wp2_with fail
            go_quiet (fail)
            go_wp2_with fail
            go_roundw
            case rel => exact ⟨j2 + 1, _, by omega, by go_num, rfl, HC2.out⟩
            case measure => simp [intOf]; omega
         ·have HC1 := Lib.hid (hC.out.trans (clash_end fs f j2 (by omega)))
          have HR2 := Lib.hid (hR.out.trans (readFields_in (by rw [HM.out]; exact hjm) HRY.out HC1.out))
          have D0 := Lib.hid (show Blk (wc.drewN q) w.heap.size _ _ from X0.out)
          have D1 := Lib.hid (show Blk (wc.drewN q) (w.heap.size + 1) _ _ from X1.out)
          have D8 := Lib.hid (show Blk (wc.drewN q) g8 _ _ from X8.out)
          have DF := Lib.hid (show Flds (wc.drewN q) w.heap.size _ _ from XF.out)
          have DS := Lib.hid (show Strs (wc.drewN q) w.heap.size _ _ from XS.out)
          have hbd : Below w.heap.size w (wc.drewN q) := below_drewN hbw2 q
          go_wp2_with (first | (at_builtin; refine app_fld rfl _ _ rfl w.heap.size _ fs rfl (DF.out.below (below_alloc (Below.refl _ _) _)) _ f rfl (Blk.new _ _ _) (by omega) (by simp; omega) ?_))
          intro v' w' hF' hb' hg'
          have DA := DF.out.below (below_alloc (Below.refl _ _) (.cells #[.int .i64 f.tag, .string (S f.name), .string (S f.kind), .string (S f.stand)] 65))
          have E0 := Lib.hid ((D0.out.alloc _).grown hg' (own_blk DA (D0.out.alloc _) (by decide)))
          have E1 := Lib.hid ((D1.out.alloc _).grown hg' (own_blk DA (D1.out.alloc _) (by decide)))
          have ES := Lib.hid (show Strs w' w.heap.size (.slice (some ⟨gl, 0, none⟩) m cl) L from World.ownsRow.kept (DS.out.below (below_alloc (Below.refl _ _) _)) hg' (own_own (DS.out.below (below_alloc (Below.refl _ _) _)) DA (by decide)))
          have EF := Lib.hid hF'; clear hF' DA
          have hbe : Below w.heap.size w w' := (below_alloc hbd _).trans hb'
          have hze : w.heap.size + 1 < w'.heap.size := by have := hg'.size; simp at this; omega
          clear hg' hb' v0 v1 v2 r0 r1 r2 t0 t1 t2 q0 y0 y1 y2 y3
          obtain ⟨a', cp', rfl, -, -⟩ := EF.out.form
          have t2 := E1.out.cell 2
          have q0 := E1.out.frozen 2
          simp at t2
          go_wp2_with fail
          go_roundw
          case rel => exact ⟨j + 1, fs ++ [f], a', cp', by omega, by simp; omega, by go_num, E0.out.far (by simp) _, (by rw [List.length_append]; exact E1.out.set_ 2 _), EF.out.grown E1.out (by decide) (grown_set (grown_self _ _)), World.ownsRow.kept ES.out (grown_set (grown_self _ _)) (.inr (Ne.symm (own_blk ES.out E1.out (by decide)))), HR2.out, below_set hbe (by simp) _, by simp; omega⟩
          case measure => simp [intOf]; omega
     ·obtain rfl : m = j := by omega
      have HRE := Lib.hid (hR.out.trans (readFields_end (by rw [HM.out]; exact Nat.le_refl _)))
      have v0 := hK0.out.cell 0
      have v1 := hK0.out.cell 1
      have v2 := hK0.out.cell 2
      have r0 := hK0.out.frozen 0
      have r1 := hK0.out.frozen 1
      have r2 := hK0.out.frozen 2
      have t0 := hK1.out.cell 0
      have t1 := hK1.out.cell 1
      have t2 := hK1.out.cell 2
      simp at v0 v1 v2 t0 t1 t2
      obtain ⟨wo, rfl⟩ : ∃ wo : World, wo = wr := ⟨_, rfl⟩
      clear hq hqq ex hrest hnl hdl he1 he2 hl0 hs K0 K1 HSL hbw hz1 HCUT hgl1 hgl2
      by_cases h8 : fs.length ≤ 8
      ·have HF := Lib.hid (show o = some ⟨c, n, fs⟩ by rw [← HO.out, HRE.out]; exact if_pos h8)
       go_wp2_with fail
       go_region
       all_goals
        go_wp2_with fail
        refine bodyPost_ret (v := .tuple #[tv ⟨c, n, fs⟩ (.slice a fs.length cp), .bool true]) ?_ rfl ?_
        ·simp only [results, Tryz.results94, tv]; simp [go_sem, v0, v1, v2, r0, r1, r2, hz]; omega
        ·exact (RetT.set_of0 _ _ (by rw [HF.out]; rfl) (by rw [HF.out]; intro x hx; injection hx) hF.out hK0.out hb hB).drew
      ·have HF := Lib.hid (show o = none by rw [← HO.out, HRE.out]; exact if_neg h8)
       go_wp2_with fail
       go_region
       all_goals
        go_wp2_with fail
        refine bodyPost_ret (v := .tuple #[tv ⟨c, n, fs⟩ (.slice a fs.length cp), .bool false]) ?_ rfl ?_
        ·simp only [results, Tryz.results94, tv]; simp [go_sem, v0, v1, v2, r0, r1, r2, hz]; omega
        ·exact (RetT.set_of0 _ _ (by rw [HF.out]; rfl) (by rw [HF.out]; intro x hx; cases hx) hF.out hK0.out hb hB).drew
  ·have hn := eqAt_no l k (by rw [HE.out]; exact hk2) hlt hc
   rw [HE.out] at hn
   have hb : (at_ l k != 61) = true := by simp [hc]
   clear hc
   go_wp2_with fail
   go_round
   case rel => exact ⟨k + 1, by omega, hn, by go_num⟩
   case measure => simp [intOf]; omega
end Go.Proofs.YtcjooeklehggaaaGreatDoor
