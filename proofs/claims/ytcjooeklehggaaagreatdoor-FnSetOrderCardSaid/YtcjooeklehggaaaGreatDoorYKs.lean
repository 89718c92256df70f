/- Lemmas of this seat. -/
import Derived.Deep.RegionLaw
import Derived.Test.YtcjooeklehggaaaGreatDoorZOs
import Derived.Test.YtcjooeklehggaaaGreatDoorYIs
import Derived.Test.YtcjooeklehggaaaGreatDoorYJs
set_option linter.unusedVariables false
set_option linter.unusedSimpArgs false
set_option maxRecDepth 100000
namespace Go.Proofs.YtcjooeklehggaaaGreatDoor
open Go.ChangeShapes Go.WideShapes Go.ChangeAt Go.RowKit M
theorem hasPre_take (l t : Bs) : hasPre l t = (l.take t.length == t) := by
 unfold hasPre
 cases h : (l.take t.length == t) with
 | false => simp
 | true =>
  rw [beq_iff_eq] at h
  have := congrArg List.length h
  rw [List.length_take] at this
  simp; omega
theorem hasPre_one (l : Bs) (c : UInt8) (hc : c ≠ 0) : hasPre l [c] = decide (at_ l 0 = (c.toNat : Int)) := by
 rw [hasPre_take]
 cases l with
 | nil =>
  have : ¬ ((0 : Int) = (c.toNat : Int)) := by
   intro e; apply hc; exact UInt8.toNat_inj.1 (by show _ = 0; omega)
  rw [show at_ [] 0 = 0 from rfl, decide_eq_false this]; rfl
 | cons x r =>
  rw [at_cons0, show (x :: r).take ([c] : Bs).length = [x] from rfl]
  rw [Bool.eq_iff_iff, beq_iff_eq, decide_eq_true_iff]
  constructor
  ·intro e; injection e with e; rw [e]
  ·intro e; rw [UInt8.toNat_inj.1 (by omega : x.toNat = c.toNat)]
theorem i_cut1 (l : Bs) (c : UInt8) (hc : c ≠ 0) (w : World) (hs : l.length ≤ 2000000) :
  Calls Tryz.prog 126 #[.string (S l), .string (S [c])] w fun e w' => e = .returned (.tuple #[.string (S (cut1 (c.toNat : Int) l)), .bool (decide (at_ l 0 = (c.toNat : Int)))]) ∧ w = w' := by
 refine (cutPrefix l [c] w hs (by simp)).mono ?_
 rintro e w' ⟨rfl, rfl⟩
 refine ⟨?_, rfl⟩
 rw [hasPre_one l c hc]
 unfold cut1
 by_cases h : at_ l 0 = (c.toNat : Int)
 ·rw [if_pos (by simpa using h), if_pos h]; rfl
 ·rw [if_neg (by simpa using h), if_neg h]; rfl
theorem i_readFlag (s : Bs) (w : World) (hs : s.length ≤ 1000000) :
  Calls Tryz.prog 101 #[.string (S s)] w (RetP w ((flagP s).map fun y => (.mk [102] (flagT y.1) [] [], y.2))) := by
 have H1 := Lib.hid (fun w => cutPrefix s [121, 101, 115] w (by omega) (by simp))
 have H2 := Lib.hid (fun w => cutPrefix s [110, 111] w (by omega) (by simp))
 have e1 : hasPre s [121, 101, 115] = (s.take 3 == [121, 101, 115]) := hasPre_take s [121, 101, 115]
 have e2 : hasPre s [110, 111] = (s.take 2 == [110, 111]) := hasPre_take s [110, 111]
 have hd3 : (s.drop 3).length ≤ 2000000 := by rw [List.length_drop]; omega
 have hd2 : (s.drop 2).length ≤ 2000000 := by rw [List.length_drop]; omega
 have hd0 : s.length ≤ 2000000 := by omega
 cases h1 : hasPre s [121, 101, 115] with
 | true =>
  rw [h1, if_pos rfl] at H1
  have HF := Lib.hid (show flagP s = some (true, s.drop 3) by
   rw [h1] at e1
   unfold flagP; rw [if_pos (beq_iff_eq.1 e1.symm)])
  clear H2 e1 e2 h1
  go_enter Tryz.func101, Tryz.ntmps101
  go_wp2_with fail
  refine (H1.out _).mono ?_
  rintro e w1 ⟨rfl, rfl⟩
  go_wp2_with fail
  go_ret3
  rw [HF.out]
  exact RetP.yes rfl hd3 (Below.refl _ _) (.flg true)
 | false =>
  rw [h1, if_neg (by decide)] at H1
  have n1 : ¬ s.take 3 = [121, 101, 115] := by
   intro e; rw [h1] at e1
   rw [e] at e1; cases e1
  cases h2 : hasPre s [110, 111] with
  | true =>
   rw [h2, if_pos rfl] at H2
   have HF := Lib.hid (show flagP s = some (false, s.drop 2) by
    rw [h2] at e2
    unfold flagP; rw [if_neg n1, if_pos (beq_iff_eq.1 e2.symm)])
   clear e1 e2 h1 h2 n1
   go_enter Tryz.func101, Tryz.ntmps101
   go_wp2_with fail
   refine (H1.out _).mono ?_
   rintro e w1 ⟨rfl, rfl⟩
   go_wp2_with fail
   refine (H2.out _).mono ?_
   rintro e w1 ⟨rfl, rfl⟩
   go_wp2_with fail
   go_ret3
   rw [HF.out]
   exact RetP.yes rfl hd2 (Below.refl _ _) (.flg false)
  | false =>
   rw [h2, if_neg (by decide)] at H2
   have HF := Lib.hid (show flagP s = none by
    unfold flagP; rw [if_neg n1, if_neg]
    intro e; rw [h2] at e2
    rw [e] at e2; cases e2)
   rw [List.drop_zero] at H1 H2
   clear e1 e2 h1 h2 n1
   go_enter Tryz.func101, Tryz.ntmps101
   go_wp2_with fail
   refine (H1.out _).mono ?_
   rintro e w1 ⟨rfl, rfl⟩
   go_wp2_with fail
   refine (H2.out _).mono ?_
   rintro e w1 ⟨rfl, rfl⟩
   go_wp2_with fail
   go_ret3
   rw [HF.out]
   exact RetP.no rfl rfl hd0 (Below.refl _ _)
theorem i_readEnum {es : List Ent} (hg : GoodE es) (B : Nat) (e : Ent) (he : e ∈ es) (k s : Bs) (hk : at_ k 0 = 64) (w : World) (hG : Graph w B es) (hs : s.length ≤ 1000000) :
  Calls Tryz.prog 131 #[.pointer (some ⟨e.b, 0, none⟩), .string (S s)] w (RetP w (if at_ s 0 = 35 then (tagR (s.drop 1) e.t).map fun y => (.mk k [69] [y.1.tag] [], y.2) else none)) := by
 obtain ⟨O, hO⟩ : ∃ O, (if at_ s 0 = 35 then (tagR (s.drop 1) e.t).map fun y => (V.mk k [69] [y.1.tag] [], y.2) else none) = O := ⟨_, rfl⟩
 rw [hO]
 have HO := Lib.hid hO; clear hO
 have H1 := Lib.hid (fun w => i_cut1 s 35 (by decide) w (by omega))
 rw [show ((35 : UInt8).toNat : Int) = 35 from rfl] at H1
 have hl1 := cut1_len 35 s
 have HR := Lib.hid (show at_ s 0 = 35 → cut1 35 s = s.drop 1 by intro h; unfold cut1; rw [if_pos h])
 obtain ⟨s1, hs1⟩ : ∃ s1, cut1 35 s = s1 := ⟨_, rfl⟩
 rw [hs1] at H1 hl1 HR
 have H2 := Lib.hid (fun w => i_cutDecimal s1 200 w (by omega) (by omega) (by omega))
 unfold RetCut at H2
 obtain ⟨r1, hr1⟩ : ∃ r1, s1.drop (digsN s1) = r1 := ⟨_, rfl⟩
 have hrl : r1.length ≤ 2000000 := by rw [← hr1, List.length_drop]; omega
 have HT := Lib.hid (tagR_of e.t s1)
 rw [hr1] at H2 HT
 obtain ⟨o, ho⟩ : ∃ o, cutDecP s1 200 = o := ⟨_, rfl⟩
 have hob : ∀ g, o = some g → 0 ≤ g ∧ g ≤ 200 := by intro g h; rw [h] at ho; exact (numL_dec ho).2
 rw [ho] at H2 HT
 have HG := Lib.hid (fun w' (hb : Below w.heap.size w w') => i_field hg B e he (o.getD 0) w' (hG.below hb))
 clear hs1 hr1 ho hG
 obtain ⟨b, hb⟩ : ∃ b, decide (at_ s 0 = 35) = b := ⟨_, rfl⟩
 rw [hb] at H1
 have HB := Lib.hid hb
 clear hb hl1
 go_enter Tryz.func131, Tryz.ntmps131
 go_wp2_with fail
 refine (H1.out _).mono ?_
 rintro ee w1 ⟨rfl, rfl⟩
 go_wp2_with fail
 refine (H2.out _).mono ?_
 rintro ee w2 ⟨rfl, hb2⟩
 go_wp2_with fail
 refine (HG.out _ hb2).mono ?_
 rintro ee w3 ⟨rfl, hfd⟩
 cases b with
 | false =>
  have HN := Lib.hid (of_decide_eq_false HB.out)
  rcases hfd with ⟨hn, rfl⟩ | ⟨g, n, cap, i, f, hv, hf, hn, rfl⟩
  all_goals
   go_wp2_with fail
   go_ret3
   rw [← HO.out, if_neg HN.out]
   exact RetP.no rfl rfl hrl hb2
 | true =>
  have HY := Lib.hid (of_decide_eq_true HB.out)
  cases o with
  | none =>
   rcases hfd with ⟨hn, rfl⟩ | ⟨g, n, cap, i, f, hv, hf, hn, rfl⟩
   all_goals
    go_wp2_with fail
    go_ret3
    rw [← HO.out, if_pos HY.out, ← HR.out HY.out, HT.out]
    exact RetP.no rfl rfl hrl hb2
  | some tg =>
   rcases hfd with ⟨hn, rfl⟩ | ⟨g, n, cap, i, f, hv, hf, hn, rfl⟩
   ·have HN := Lib.hid (show fieldM e.t tg = none from hn)
    clear hn
    go_wp2_with fail
    go_ret3
    rw [← HO.out, if_pos HY.out, ← HR.out HY.out, HT.out]
    simp only
    rw [HN.out]
    exact RetP.no rfl rfl hrl hb2
   ·have HN := Lib.hid (show fieldM e.t tg = some f from hn)
    clear hn hf hv
    go_wp2_with fail
    go_ret3
    rw [← HO.out, if_pos HY.out, ← HR.out HY.out, HT.out]
    simp only
    rw [HN.out]
    have hbd := hob tg rfl
    have hft := (fieldM_mem HN.out).2
    refine RetP.yes (by simp only [Option.map_some]; rw [hft]) hrl hb2 (.enm k hk tg hbd.1 hbd.2)
theorem results_tmp4p {fn : Func} {t u v x : Tmp} (h : fn.results = #[.tmp t, .tmp u, .tmp v, .tmp x]) (tmps : Array Value) (P : Program) (w : World) :
  (results fn tmps).run P w = .ok (.tuple #[tmps.getD t undef, tmps.getD u undef, tmps.getD v undef, tmps.getD x undef]) w := by
 simp [results, h]
def IRd (es : List Ent) (B n : Nat) : Prop := ∀ (k s : Bs) (w : World), Graph w B es → Tab w → kOk k = true → (∀ m ∈ kRefs k, (findE es m).isSome = true) → s.length < n →
 Calls Tryz.prog 80 #[.string (S k), ptrE (leadE es k), .string (S s)] w (RetP w (readF (tys es) n s k))
def RetTo (w : World) (e : Ent) (o : Option (Fl × V × Bs)) (r : Ending) (w' : World) : Prop := ∃ (pf : Option Addr) (u : Value) (t : Bs), r = .returned (.tuple #[.pointer pf, u, .string (S t), .bool o.isSome]) ∧ isV u = true ∧ t.length ≤ 2000000 ∧ Below w.heap.size w w' ∧
 ∀ y, o = some y → t = y.2.2 ∧ PAt w' (fun b => w.heap.size ≤ b) y.2.1 u ∧ ∃ g n cap i, e.v = .slice (some ⟨g, 0, none⟩) n cap ∧ e.t.fields[i]? = some y.1 ∧ pf = some ⟨g, i * 5, none⟩
theorem RetTo.no {w w' : World} {e : Ent} {o : Option (Fl × V × Bs)} (h : o = none) (hb : Below w.heap.size w w') : RetTo w e o (.returned (.tuple #[.pointer none, .nilIface, .string { data := #[] }, .bool false])) w' :=
 ⟨none, .nilIface, [], by rw [h]; rfl, rfl, by simp, hb, by rw [h]; intro y hy; cases hy⟩
theorem i_readTold {es : List Ent} (hs : Sound es) (B n : Nat) (hn : n ≤ 1000000) (IH : IRd es B n) (e : Ent) (he : e ∈ es) (h69 : e.t.sort ≠ 69) (s : Bs) (w : World) (hG : Graph w B es) (hT : Tab w) (hl : s.length ≤ n) :
  Calls Tryz.prog 157 #[.pointer (some ⟨e.b, 0, none⟩), .string (S s)] w (RetTo w e (toldR (fun s k => readF (tys es) n s k) e.t s)) := by
 obtain ⟨rd, hrd⟩ : ∃ rd, (fun s k => readF (tys es) n s k) = rd := ⟨_, rfl⟩
 rw [hrd]
 have HI := Lib.hid (fun (k s : Bs) (w : World) (h1 : Graph w B es) (h2 : Tab w) (h3 : kOk k = true) (h4 : ∀ m ∈ kRefs k, (findE es m).isSome = true) (h5 : s.length < n) => (by subst hrd; exact IH k s w h1 h2 h3 h4 h5 : Calls Tryz.prog 80 #[.string (S k), ptrE (leadE es k), .string (S s)] w (RetP w (rd s k))))
 obtain ⟨O, hO⟩ : ∃ O, toldR rd e.t s = O := ⟨_, rfl⟩
 rw [hO]
 have HO := Lib.hid hO; clear hO IH hrd
 have H1 := Lib.hid (fun w => i_cutDecimal s 200 w (by omega) (by omega) (by omega))
 unfold RetCut at H1
 obtain ⟨r1, hr1⟩ : ∃ r1, s.drop (digsN s) = r1 := ⟨_, rfl⟩
 have hrl : r1.length ≤ s.length := by rw [← hr1, List.length_drop]; omega
 have HLT := Lib.hid (fun g (h : cutDecP s 200 = some g) => (by have := dig_lt h; rw [hr1] at this; exact this : r1.length < s.length))
 have HON := Lib.hid (fun (h : cutDecP s 200 = none) => (toldR_no h : toldR rd e.t s = none))
 have HOT := Lib.hid (fun g (h : cutDecP s 200 = some g) (h2 : fieldM e.t g = none) => (toldR_tag h h2 : toldR rd e.t s = none))
 have HOY := Lib.hid (fun g f (h : cutDecP s 200 = some g) (h2 : fieldM e.t g = some f) => (by have := toldR_on (rd := rd) h h2; rw [hr1] at this; exact this : toldR rd e.t s = if at_ r1 0 = 61 then (rd (r1.drop 1) f.kind).map fun x => (f, x.1, x.2) else none))
 rw [hr1] at H1
 obtain ⟨o, ho⟩ : ∃ o, cutDecP s 200 = o := ⟨_, rfl⟩
 rw [ho] at H1 HLT HON HOT HOY
 have HG := Lib.hid hG
 have HF := Lib.hid (fun w' (hb : Below w.heap.size w w') => i_field hs.good B e he (o.getD 0) w' (hG.below hb))
 have HFA := Lib.hid (fun w' (hb : Below w.heap.size w w') {g n cap i : Nat} {f : Fl} (hv : e.v = .slice (some ⟨g, 0, none⟩) n cap) (hf : e.t.fields[i]? = some f) => (hG.below hb).fieldAt hs he hv hf)
 have HT := Lib.hid hT
 have H3 := Lib.hid (fun w => i_cut1 r1 61 (by decide) w (by omega))
 rw [show ((61 : UInt8).toNat : Int) = 61 from rfl] at H3
 have HC1 := Lib.hid (show at_ r1 0 = 61 → cut1 61 r1 = r1.drop 1 by intro h; unfold cut1; rw [if_pos h])
 obtain ⟨r2, hr2⟩ : ∃ r2, cut1 61 r1 = r2 := ⟨_, rfl⟩
 rw [hr2] at H3 HC1
 obtain ⟨b, hb⟩ : ∃ b, decide (at_ r1 0 = 61) = b := ⟨_, rfl⟩
 rw [hb] at H3
 have HB := Lib.hid hb
 have HH69 := Lib.hid h69
 clear hb hr1 hr2 ho hG hT h69
 go_enter Tryz.func157, Tryz.ntmps157
 go_wp2_with fail
 refine (H1.out _).mono ?_
 rintro ee w1 ⟨rfl, hb1⟩
 go_wp2_with fail
 refine (HF.out _ hb1).mono ?_
 rintro ee w2 ⟨rfl, hfd⟩
 cases o with
 | none =>
  have HN := Lib.hid (show O = none by rw [← HO.out, HON.out rfl])
  rcases hfd with ⟨hn, rfl⟩ | ⟨g, n, cap, i, f, hv, hf, hn, rfl⟩
  all_goals
   go_wp2_with (go_at_call 126; refine (H3.out _).mono ?_; rintro e w' ⟨rfl, rfl⟩)
   refine bodyPost_ret (results_tmp4p rfl _ _ _) rfl ?_
   exact RetTo.no HN.out hb1
 | some tg =>
  rcases hfd with ⟨hn, rfl⟩ | ⟨g, n, cap, i, f, hv, hf, hn, rfl⟩
  ·have HN := Lib.hid (show O = none by rw [← HO.out, HOT.out tg rfl hn])
   clear hn
   go_wp2_with (go_at_call 126; refine (H3.out _).mono ?_; rintro e w' ⟨rfl, rfl⟩)
   refine bodyPost_ret (results_tmp4p rfl _ _ _) rfl ?_
   exact RetTo.no HN.out hb1
  ·cases b with
   | false =>
    have HN := Lib.hid (show O = none by rw [← HO.out, HOY.out tg f rfl hn, if_neg (of_decide_eq_false HB.out)])
    clear hn hf hv
    go_wp2_with (go_at_call 126; refine (H3.out _).mono ?_; rintro e w' ⟨rfl, rfl⟩)
    refine bodyPost_ret (results_tmp4p rfl _ _ _) rfl ?_
    exact RetTo.no HN.out hb1
   | true =>
    have h61 := of_decide_eq_true HB.out
    have HY := Lib.hid (show O = (rd r2 f.kind).map fun x => (f, x.1, x.2) by rw [← HO.out, HOY.out tg f rfl hn, if_pos h61, HC1.out h61])
    obtain ⟨q, ⟨x0, x1, x2, x3, x4⟩, hq, -, hne, hgl⟩ := HFA.out w1 hb1 hv hf
    obtain ⟨hq1, hq2, hq3⟩ := hq (hne HH69.out)
    have h2l : r2.length < s.length := by
     have h1 := HLT.out tg rfl
     rw [HC1.out h61, List.length_drop]; omega
    have HR := Lib.hid (fun W (hbw : Below w1.heap.size w1 W) => HI.out f.kind r2 W (HG.out.below (below_trans hb1 hbw)) (HT.out.below (below_trans hb1 hbw)) hq2 hq3 (by omega))
    rw [← hq1] at HR
    obtain ⟨o2, ho2⟩ : ∃ o2, rd r2 f.kind = o2 := ⟨_, rfl⟩
    rw [ho2] at HR HY
    have HV := Lib.hid (⟨g, _, _, i, hv, hf, rfl⟩ : ∃ g' n' cap' i', e.v = .slice (some ⟨g', 0, none⟩) n' cap' ∧ e.t.fields[i']? = some f ∧ (some ⟨g, i * 5, none⟩ : Option Addr) = some ⟨g', i' * 5, none⟩)
    clear hn hf hv hq hq1 hq2 hq3 hne x0 x1 x3 ho2 h61
    go_wp2_with (go_at_call 126; refine (H3.out _).mono ?_; rintro e w' ⟨rfl, rfl⟩)
    have HB1 := Lib.hid hb1
    clear H1 H3 HI HF HFA HLT HON HOT HOY HG HT HC1 HB HO hb1 hrl HH69
    go_region_held3 (fun w' => w'.cell? ⟨g, i * 5 + 2, none⟩ = some (.string (S f.kind)) ∧ w'.cell? ⟨g, i * 5 + 4, none⟩ = some (.pointer q) ∧ Below w1.heap.size w1 w')
     (first | (exact ⟨x2, x4, below_drew (Below.refl _ _)⟩) | (go_split_ands; refine ⟨?_, ?_, ?_⟩; (exact cell_later hb2 (by assumption)); (exact cell_later hb2 (by assumption)); (exact below_trans (by assumption) hb2)))
     (first | (go_at_call 80; go_split_ands; (with_reducible refine (HR.out _ (by assumption)).mono ?_); rintro e w' ⟨u, t, rfl, hu, ht, hb2, hx⟩))
    all_goals
     go_split_ands
     go_wp2_with fail
     refine bodyPost_ret (results_tmp4p rfl _ _ _) rfl ?_
     refine ⟨_, u, t, by rw [HY.out]; cases o2 <;> rfl, hu, ht, below_trans HB1.out (by assumption), ?_⟩
     intro y hy
     rw [HY.out, Option.map_eq_some_iff] at hy
     obtain ⟨z, hz, rfl⟩ := hy
     obtain ⟨h1, h2⟩ := hx z hz
     exact ⟨h1, h2.imp (by intro b _ hb; have := HB1.out.size; have e9 : w1.drew.heap.size = w1.heap.size := rfl; omega), HV.out⟩
theorem i_readUnion {es : List Ent} (hs : Sound es) (B n : Nat) (hn : n ≤ 1000000) (IH : IRd es B n) (e : Ent) (he : e ∈ es) (h85 : e.t.sort = 85) (k s : Bs) (hk : at_ k 0 = 64) (w : World) (hG : Graph w B es) (hT : Tab w) (hl : s.length ≤ n) :
  Calls Tryz.prog 130 #[.pointer (some ⟨e.b, 0, none⟩), .string (S s)] w (RetP w (if at_ s 0 = 60 then (match toldR (fun s k => readF (tys es) n s k) e.t (s.drop 1) with | none => none | some y => if at_ y.2.2 0 = 62 then some (.mk k [85] [y.1.tag] [y.2.1], y.2.2.drop 1) else none) else none)) := by
 obtain ⟨rd, hrd⟩ : ∃ rd, (fun s k => readF (tys es) n s k) = rd := ⟨_, rfl⟩
 rw [hrd]
 obtain ⟨o, ho⟩ : ∃ o, toldR rd e.t (s.drop 1) = o := ⟨_, rfl⟩
 rw [ho]
 obtain ⟨O, hO⟩ : ∃ O, (if at_ s 0 = 60 then (match o with | none => none | some y => if at_ y.2.2 0 = 62 then some (V.mk k [85] [y.1.tag] [y.2.1], y.2.2.drop 1) else none) else none) = O := ⟨_, rfl⟩
 rw [hO]
 have HO := Lib.hid hO; clear hO
 have HTO := Lib.hid (fun w' (hb : Below w.heap.size w w') => (by
  have := i_readTold hs B n hn IH e he (by omega) (s.drop 1) w' (hG.below hb) (hT.below hb) (by rw [List.length_drop]; omega)
  rw [hrd, ho] at this; exact this : Calls Tryz.prog 157 #[.pointer (some ⟨e.b, 0, none⟩), .string (S (s.drop 1))] w' (RetTo w' e o)))
 have HMEM := Lib.hid (fun y (h : o = some y) => (by
  rw [h] at ho
  have hm := (told_text (fun s k x h => by subst hrd; exact readF_out _ _ _ _ _ h) ho).2
  have := (hs.good.good e he).2.2.2.2 _ hm
  exact ⟨this.1, this.2.1⟩ : 1 ≤ y.1.tag ∧ y.1.tag ≤ 200))
 have HFA := Lib.hid (fun w' (hb : Below w.heap.size w w') {g n cap i : Nat} {f : Fl} (hv : e.v = .slice (some ⟨g, 0, none⟩) n cap) (hf : e.t.fields[i]? = some f) => (hG.below hb).fieldAt hs he hv hf)
 have H1 := Lib.hid (fun w => i_cut1 s 60 (by decide) w (by omega))
 rw [show ((60 : UInt8).toNat : Int) = 60 from rfl] at H1
 have HC1 := Lib.hid (show at_ s 0 = 60 → cut1 60 s = s.drop 1 by intro h; unfold cut1; rw [if_pos h])
 obtain ⟨s1, hs1⟩ : ∃ s1, cut1 60 s = s1 := ⟨_, rfl⟩
 rw [hs1] at H1 HC1
 obtain ⟨b, hb⟩ : ∃ b, decide (at_ s 0 = 60) = b := ⟨_, rfl⟩
 rw [hb] at H1
 have HB := Lib.hid hb
 clear hb hs1 hG hT IH hrd ho h85
 go_enter Tryz.func130, Tryz.ntmps130
 go_wp2_with fail
 refine (H1.out _).mono ?_
 rintro ee w1 ⟨rfl, rfl⟩
 cases b with
 | false =>
  have HN := Lib.hid (show O = none by rw [← HO.out, if_neg (of_decide_eq_false HB.out)])
  go_wp2_with fail
  go_ret3
  exact RetP.no HN.out rfl (by simp) (Below.refl _ _)
 | true =>
  have h60 := of_decide_eq_true HB.out
  have hOo := HO.out
  rw [if_pos h60] at hOo
  have HO2 := Lib.hid hOo
  rw [← HC1.out h60] at HTO
  clear HO HB HC1 h60 hOo H1
  go_wp2_with fail
  refine (HTO.out _ (Below.refl _ _)).mono ?_
  rintro ee w2 ⟨pf, u, t, rfl, hu, ht, hb2, hy⟩
  cases o with
  | none =>
   have HN := Lib.hid (show O = none from HO2.out.symm)
   go_wp2_with fail
   go_ret3
   exact RetP.no HN.out rfl (by simp) hb2
  | some y =>
   obtain ⟨rfl, hx, g, n', cap, i, hv, hf, rfl⟩ := hy y rfl
   obtain ⟨T, v, -, rfl, -⟩ := hx.isT
   obtain ⟨q, ⟨x0, -, -, -, -⟩, -, -, -, hgl⟩ := HFA.out w2 hb2 hv hf
   have hbd := HMEM.out y rfl
   have HX := Lib.hid hx
   have HO3 := Lib.hid (show (if at_ y.2.2 0 = 62 then some (V.mk k [85] [y.1.tag] [y.2.1], y.2.2.drop 1) else none) = O from HO2.out)
   clear hx hy hv hf HO2 HTO HFA HMEM
   obtain ⟨f, x, t⟩ := y
   simp only at ht hbd x0 HX HO3 ⊢
   have H3 := Lib.hid (fun w => i_cut1 t 62 (by decide) w ht)
   rw [show ((62 : UInt8).toNat : Int) = 62 from rfl] at H3
   have HC3 := Lib.hid (show at_ t 0 = 62 → cut1 62 t = t.drop 1 by intro h; unfold cut1; rw [if_pos h])
   have hrl : (cut1 62 t).length ≤ 2000000 := Nat.le_trans (cut1_len _ _) ht
   obtain ⟨r, hr⟩ : ∃ r, cut1 62 t = r := ⟨_, rfl⟩
   rw [hr] at H3 HC3 hrl
   obtain ⟨b3, hb3⟩ : ∃ b, decide (at_ t 0 = 62) = b := ⟨_, rfl⟩
   rw [hb3] at H3
   have HB3 := Lib.hid hb3
   clear hb3 hr
   go_wp2_with (go_at_call 126; refine (H3.out _).mono ?_; rintro e w' ⟨rfl, rfl⟩)
   go_ret3
   cases b3 with
   | false => exact RetP.no (by rw [← HO3.out, if_neg (of_decide_eq_false HB3.out)]) rfl hrl hb2
   | true =>
    have h62 := of_decide_eq_true HB3.out
    exact RetP.yes (by rw [← HO3.out, if_pos h62, HC3.out h62]) hrl hb2 (.uni k hk f.tag (by omega) hbd.2 HX.out)
theorem i_readPossible (q : Value) (rd : Bs → Option (V × Bs)) (k k' s : Bs) (hk : at_ k 0 = 63) (w : World) (hl : s.length ≤ 1000000)
  (HR : ∀ (W : World), Below w.heap.size w W → at_ s 0 = 43 → Calls Tryz.prog 80 #[.string (S k'), q, .string (S (s.drop 1))] W (RetP W (rd (s.drop 1)))) :
  Calls Tryz.prog 103 #[.string (S k'), q, .string (S s)] w (RetP w (if at_ s 0 = 45 then some (.mk k [] [] [], s.drop 1) else if at_ s 0 = 43 then (rd (s.drop 1)).map fun x => (.mk k [] [] [x.1], x.2) else none)) := by
 obtain ⟨o, ho⟩ : ∃ o, rd (s.drop 1) = o := ⟨_, rfl⟩
 rw [ho] at HR ⊢
 obtain ⟨O, hO⟩ : ∃ O, (if at_ s 0 = 45 then some (V.mk k [] [] [], s.drop 1) else if at_ s 0 = 43 then o.map fun x => (V.mk k [] [] [x.1], x.2) else none) = O := ⟨_, rfl⟩
 rw [hO]
 have HO := Lib.hid hO; clear hO ho
 have H1 := Lib.hid (fun w => i_cut1 s 45 (by decide) w (by omega))
 have H2 := Lib.hid (fun w => i_cut1 s 43 (by decide) w (by omega))
 rw [show ((45 : UInt8).toNat : Int) = 45 from rfl] at H1
 rw [show ((43 : UInt8).toNat : Int) = 43 from rfl] at H2
 have HC1 := Lib.hid (show at_ s 0 = 45 → cut1 45 s = s.drop 1 by intro h; unfold cut1; rw [if_pos h])
 have HC2 := Lib.hid (show at_ s 0 = 43 → cut1 43 s = s.drop 1 by intro h; unfold cut1; rw [if_pos h])
 have hr1 : (cut1 45 s).length ≤ 2000000 := Nat.le_trans (cut1_len _ _) (by omega)
 obtain ⟨s1, hs1⟩ : ∃ s1, cut1 45 s = s1 := ⟨_, rfl⟩
 obtain ⟨s2, hs2⟩ : ∃ s2, cut1 43 s = s2 := ⟨_, rfl⟩
 rw [hs1] at H1 HC1 hr1
 rw [hs2] at H2 HC2
 obtain ⟨b1, hb1⟩ : ∃ b, decide (at_ s 0 = 45) = b := ⟨_, rfl⟩
 obtain ⟨b2, hb2⟩ : ∃ b, decide (at_ s 0 = 43) = b := ⟨_, rfl⟩
 rw [hb1] at H1
 rw [hb2] at H2
 have HB1 := Lib.hid hb1
 have HB2 := Lib.hid hb2
 have HRR := Lib.hid HR
 clear hb1 hb2 hs1 hs2 HR
 go_enter Tryz.func103, Tryz.ntmps103
 go_wp2_with fail
 refine (H1.out _).mono ?_
 rintro ee w1 ⟨rfl, rfl⟩
 cases b1 with
 | true =>
  have h45 := of_decide_eq_true HB1.out
  have HY := Lib.hid (show O = some (V.mk k [] [] [], s1) by rw [← HO.out, if_pos h45, HC1.out h45])
  clear h45
  go_wp2_with fail
  go_ret3
  exact RetP.yes HY.out hr1 (by (repeat (first | with_reducible exact Below.refl _ _ | with_reducible apply below_drew | with_reducible apply below_draws | with_reducible apply below_alloc | with_reducible apply below_set | (with_reducible refine below_trans ?_ (by assumption)) | (with_reducible refine Below.trans ?_ (by assumption)) | exact Nat.le_refl _ | omega | (simp <;> omega)))) (.non k hk)
 | false =>
  have h45 := of_decide_eq_false HB1.out
  cases b2 with
  | false =>
   have HN := Lib.hid (show O = none by rw [← HO.out, if_neg h45, if_neg (of_decide_eq_false HB2.out)])
   clear h45
   go_wp2_with fail
   refine (H2.out _).mono ?_
   rintro ee w1 ⟨rfl, rfl⟩
   go_wp2_with fail
   go_ret3
   exact RetP.no HN.out rfl (by simp) (Below.refl _ _)
  | true =>
   have h43 := of_decide_eq_true HB2.out
   have HY := Lib.hid (show O = o.map fun x => (V.mk k [] [] [x.1], x.2) by rw [← HO.out, if_neg h45, if_pos h43])
   have HR2 := Lib.hid (fun W hb => HRR.out W hb h43)
   rw [← HC2.out h43] at HR2
   clear h43 h45 HRR HO
   go_wp2_with fail
   refine (H2.out _).mono ?_
   rintro ee w1 ⟨rfl, rfl⟩
   go_wp2_with fail
   refine (HR2.out _ (Below.refl _ _)).mono ?_
   rintro ee w2 ⟨u, t, rfl, hu, ht, hb2, hx⟩
   rcases isV_cases hu with rfl | ⟨T, v, rfl⟩
   all_goals
    go_wp2_with fail
    go_ret3
    refine ⟨_, t, by rw [HY.out]; cases o <;> rfl, rfl, ht, hb2, ?_⟩
    intro x hx2
    rw [HY.out, Option.map_eq_some_iff] at hx2
    obtain ⟨z, hz, rfl⟩ := hx2
    obtain ⟨h1, h2⟩ := hx z hz
    exact ⟨h1, .som k hk h2⟩
theorem loop_none {σ : Type} {step : σ → Bs → Option (σ × Bs)} {c : Int} {n : Nat} {x : σ} {s : Bs} (h : step x s = none) : rowLoop step c (n + 1) x s = none := by rw [rowLoop, h]
theorem loop_end {σ : Type} {step : σ → Bs → Option (σ × Bs)} {c : Int} {n : Nat} {x x' : σ} {s r : Bs} (h : step x s = some (x', r)) (h1 : at_ r 0 = c) : rowLoop step c (n + 1) x s = some (x', r.drop 1) := by rw [rowLoop, h]; exact if_pos h1
theorem loop_more {σ : Type} {step : σ → Bs → Option (σ × Bs)} {c : Int} {n : Nat} {x x' : σ} {s r : Bs} (h : step x s = some (x', r)) (h1 : ¬ at_ r 0 = c) (h2 : at_ r 0 = 44) : rowLoop step c (n + 1) x s = rowLoop step c n x' (r.drop 1) := by
 rw [rowLoop, h]; exact (if_neg h1).trans (if_pos h2)
theorem loop_bad {σ : Type} {step : σ → Bs → Option (σ × Bs)} {c : Int} {n : Nat} {x x' : σ} {s r : Bs} (h : step x s = some (x', r)) (h1 : ¬ at_ r 0 = c) (h2 : ¬ at_ r 0 = 44) : rowLoop step c (n + 1) x s = none := by
 rw [rowLoop, h]; exact (if_neg h1).trans (if_neg h2)
def RetRow {σ : Type} (J : σ → World → Prop) (Fr : World → Prop) (o : Option (σ × Bs)) (e : Ending) (w' : World) : Prop := ∃ (r : Bs), e = .returned (.tuple #[.string (S r), .bool o.isSome]) ∧ r.length ≤ 2000000 ∧ Fr w' ∧ ∀ y, o = some y → r = y.2 ∧ J y.1 w'
theorem RetRow.no {σ : Type} {J : σ → World → Prop} {Fr : World → Prop} {o : Option (σ × Bs)} {w' : World} {r : Bs} (h : o = none) (hr : r.length ≤ 2000000) (hf : Fr w') : RetRow J Fr o (.returned (.tuple #[.string (S r), .bool false])) w' :=
 ⟨r, by rw [h]; rfl, hr, hf, by rw [h]; intro y hy; cases hy⟩
theorem RetRow.yes {σ : Type} {J : σ → World → Prop} {Fr : World → Prop} {o : Option (σ × Bs)} {w' : World} {x : σ} {r : Bs} (h : o = some (x, r)) (hr : r.length ≤ 2000000) (hf : Fr w') (hj : J x w') : RetRow J Fr o (.returned (.tuple #[.string (S r), .bool true])) w' :=
 ⟨r, by rw [h]; rfl, hr, hf, by rw [h]; intro y hy; injection hy with hy; subst hy; exact ⟨rfl, hj⟩⟩
set_option maxHeartbeats 1000000 in
theorem i_readRow {σ : Type} (step : σ → Bs → Option (σ × Bs)) (c1 c2 : UInt8) (h1 : c1 ≠ 0) (h2 : c2 ≠ 0) (F : FuncId) (C : List Value) (he : ∀ (args : Array Value) (W : World), (callFunc F args).run Tryz.prog W = .ok (.enter F args) W)
  (J : σ → World → Prop) (Fr : World → Prop) (hJF : ∀ x W, J x W → Fr W) (x : σ) (s : Bs) (w : World) (hs : s.length ≤ 1000000) (hj : J x w)
  (HC : ∀ (x : σ) (s' : Bs) (W : World), J x W → s'.length < s.length → Calls Tryz.prog F (.string (S s') :: C).toArray W (RetRow (fun y W' => J y W') Fr (step x s')))
  (HL : ∀ (x : σ) (s' : Bs) y, step x s' = some y → y.2.length ≤ s'.length) :
  Calls Tryz.prog 154 #[.string (S [c1]), .string (S [c2]), .string (S s), .func (.func F) #[] C.toArray] w (RetRow J Fr (rowR step (c1.toNat : Int) (c2.toNat : Int) x s)) := by
 obtain ⟨O, hO⟩ : ∃ O, rowR step (c1.toNat : Int) (c2.toNat : Int) x s = O := ⟨_, rfl⟩
 rw [hO]
 have HO := Lib.hid hO; clear hO
 have H1 := Lib.hid (fun w => i_cut1 s c1 h1 w (by omega))
 have HCC := Lib.hid (fun (t : Bs) w (h : t.length ≤ 2000000) => i_cut1 t c2 h2 w h)
 have HCM := Lib.hid (fun (t : Bs) w (h : t.length ≤ 2000000) => i_cut1 t 44 (by decide) w h)
 rw [show ((44 : UInt8).toNat : Int) = 44 from rfl] at HCM
 obtain ⟨i1, hi1⟩ : ∃ i, (c1.toNat : Int) = i := ⟨_, rfl⟩
 obtain ⟨i2, hi2⟩ : ∃ i, (c2.toNat : Int) = i := ⟨_, rfl⟩
 have HI0 := Lib.hid (show i1 ≠ 0 by intro e; apply h1; exact UInt8.toNat_inj.1 (by show _ = 0; omega))
 rw [hi1] at H1 HO
 rw [hi2] at HCC HO
 have HCX := Lib.hid HC; have HLX := Lib.hid HL; have HJ := Lib.hid hj; have HJF := Lib.hid hJF
 clear HC HL hj hJF h1 h2 hi1 hi2
 have hl1 := cut1_len i1 s
 have HK1 := Lib.hid (show at_ s 0 = i1 → cut1 i1 s = s.drop 1 by intro h; unfold cut1; rw [if_pos h])
 obtain ⟨s1, hs1⟩ : ∃ s1, cut1 i1 s = s1 := ⟨_, rfl⟩
 rw [hs1] at H1 HK1 hl1
 obtain ⟨b1, hb1⟩ : ∃ b, decide (at_ s 0 = i1) = b := ⟨_, rfl⟩
 rw [hb1] at H1
 have HB1 := Lib.hid hb1
 clear hb1 hs1
 go_enter Tryz.func154, Tryz.ntmps154
 go_wp2_with fail
 refine (H1.out _).mono ?_
 rintro ee w1 ⟨rfl, rfl⟩
 cases b1 with
 | false =>
  have HN := Lib.hid (show O = none by rw [← HO.out]; unfold rowR; rw [if_neg (of_decide_eq_false HB1.out)])
  go_wp2_with fail
  go_ret2
  exact RetRow.no HN.out (by simp) (HJF.out _ _ HJ.out)
 | true =>
  have hat := of_decide_eq_true HB1.out
  have hs1 := HK1.out hat
  have hlt : s1.length < s.length := by
   rw [hs1, List.length_drop]
   cases hsx : s with
   | nil => rw [hsx] at hat; exact absurd hat.symm HI0.out
   | cons _ _ => simp
  have hOx := HO.out
  unfold rowR at hOx
  rw [if_pos hat, ← hs1] at hOx
  have HO1 := Lib.hid hOx
  have HK2 := Lib.hid (show at_ s1 0 = i2 → cut1 i2 s1 = s1.drop 1 by intro h; unfold cut1; rw [if_pos h])
  have H2 := Lib.hid (fun w => HCC.out s1 w (by omega))
  have hl2 := cut1_len i2 s1
  obtain ⟨s2, hs2⟩ : ∃ s2, cut1 i2 s1 = s2 := ⟨_, rfl⟩
  rw [hs2] at H2 HK2 hl2
  obtain ⟨b2, hb2⟩ : ∃ b, decide (at_ s1 0 = i2) = b := ⟨_, rfl⟩
  rw [hb2] at H2
  have HB2 := Lib.hid hb2
  clear hb2 hs2 hOx HO HB1 H1 HK1 hat hs1
  go_wp2_with fail
  refine (H2.out _).mono ?_
  rintro ee w1 ⟨rfl, rfl⟩
  cases b2 with
  | true =>
   have h2 := of_decide_eq_true HB2.out
   have HY := Lib.hid (show O = some (x, s2) by rw [← HO1.out, if_pos h2, HK2.out h2])
   clear h2
   go_wp2_with fail
   go_ret2
   exact RetRow.yes HY.out (by omega) (HJF.out _ _ HJ.out) HJ.out
  | false =>
   have hOx := HO1.out
   rw [if_neg (of_decide_eq_false HB2.out)] at hOx
   have HO2 := Lib.hid hOx
   clear hOx HO1 H2 HK2 HB2
   go_wp2_with fail
   go_loopg [2] (s1.length + 1) (fun n t wr => ∃ (s' : Bs) (x' : σ), t = .string (S s') ∧ s'.length < n ∧ s'.length < s.length ∧ Hid (J x' wr) ∧ Hid (rowLoop step i2 (s1.length + 1) x s1 = rowLoop step i2 n x' s'))
   case atStart => exact ⟨s1, x, rfl, by omega, hlt, HJ.out, rfl⟩
   case round =>
    obtain ⟨s', x', rfl, hsn, hss, hJ', hI⟩ := hrel
    obtain ⟨m, rfl⟩ : ∃ m, gk = m + 1 := ⟨gk - 1, by omega⟩
    have HCc := Lib.hid (HCX.out x' s' wr hJ'.out hss)
    have HLc := Lib.hid (fun y => HLX.out x' s' y)
    obtain ⟨o, ho⟩ : ∃ o, step x' s' = o := ⟨_, rfl⟩
    rw [ho] at HCc HLc
    have HS := Lib.hid ho; clear ho
    go_wp2_with fail
    refine HCc.out.mono ?_
    rintro ee w2 ⟨r, rfl, hrl, hfr, hy⟩
    cases o with
    | none =>
     have HN := Lib.hid (show O = none by rw [← HO2.out, hI.out, loop_none HS.out])
     go_wp2_with fail
     go_ret2
     exact RetRow.no HN.out (by simp) hfr
    | some y =>
     obtain ⟨x2, r2⟩ := y
     obtain ⟨rfl, hj2⟩ := hy _ rfl
     have hr2 := HLc.out _ rfl
     simp only at hj2 hr2
     have HJ2 := Lib.hid hj2
     have HE := Lib.hid (HCC.out r)
     have HM := Lib.hid (HCM.out r)
     have HKe := Lib.hid (show at_ r 0 = i2 → cut1 i2 r = r.drop 1 by intro h; unfold cut1; rw [if_pos h])
     have HKm := Lib.hid (show at_ r 0 = 44 → cut1 44 r = r.drop 1 ∧ 0 < r.length by intro h; unfold cut1; rw [if_pos h]; exact ⟨rfl, by cases r with | nil => cases h | cons _ _ => simp⟩)
     have hle := cut1_len i2 r
     have hlm := cut1_len 44 r
     obtain ⟨re, hre⟩ : ∃ t, cut1 i2 r = t := ⟨_, rfl⟩
     obtain ⟨rm, hrm⟩ : ∃ t, cut1 44 r = t := ⟨_, rfl⟩
     rw [hre] at HE HKe hle
     rw [hrm] at HM HKm hlm
     obtain ⟨be, hbe⟩ : ∃ b, decide (at_ r 0 = i2) = b := ⟨_, rfl⟩
     obtain ⟨bm, hbm⟩ : ∃ b, decide (at_ r 0 = 44) = b := ⟨_, rfl⟩
     rw [hbe] at HE
     rw [hbm] at HM
     have HBe := Lib.hid hbe
     have HBm := Lib.hid hbm
     clear hbe hbm hre hrm hy hj2 HCc HLc
     go_wp2_with fail
     refine (HE.out _ hrl).mono ?_
     rintro ee w3 ⟨rfl, rfl⟩
     cases be with
     | true =>
      have h2 := of_decide_eq_true HBe.out
      have HY := Lib.hid (show O = some (x2, re) by rw [← HO2.out, hI.out, loop_end HS.out h2, HKe.out h2])
      clear h2
      go_wp2_with fail
      go_ret2
      exact RetRow.yes HY.out (by omega) hfr HJ2.out
     | false =>
      have h2 := of_decide_eq_false HBe.out
      cases bm with
      | false =>
       have HN := Lib.hid (show O = none by rw [← HO2.out, hI.out, loop_bad HS.out h2 (of_decide_eq_false HBm.out)])
       clear h2
       go_wp2_with fail
       refine (HM.out _ hrl).mono ?_
       rintro ee w3 ⟨rfl, rfl⟩
       go_wp2_with fail
       go_ret2
       exact RetRow.no HN.out (by simp) hfr
      | true =>
       have h44 := of_decide_eq_true HBm.out
       obtain ⟨hrm, hr0⟩ := HKm.out h44
       have HY := Lib.hid (show rowLoop step i2 (s1.length + 1) x s1 = rowLoop step i2 m x2 rm by rw [hI.out, loop_more HS.out h2 h44, hrm])
       have hrml : rm.length < r.length := by rw [hrm, List.length_drop]; omega
       clear h2 h44 hrm
       go_wp2_with fail
       refine (HM.out _ hrl).mono ?_
       rintro ee w3 ⟨rfl, rfl⟩
       go_wp2_with fail
       go_roundg m
       case measure => omega
       case rel => exact ⟨rm, x2, rfl, by omega, by omega, HJ2.out, HY.out⟩
theorem app_lv {w : World} {ops : Array Oper} {rest : List Oper} {o : Oper} {a : Act} {Q : Exit → Act → World → Prop} (hgd : o.guard = none) (s x : Operand)
  (ho : o.op = .call { callee := .builtin .append, args := #[s, x], argTypes := #[155, 155] })
  (N : Nat → Prop) (v : Value) (n : Nat) (xs : List Value) (hs : a.eval s = v) (hown : RowN w N 70 1 v n xs) (b : Nat) (u : Value) (hu : u.oneCell' = true) (hx : a.eval x = .slice (some ⟨b, 0, none⟩) 1 1) (hc : w.cell? ⟨b, 0, none⟩ = some u)
  (hn : n ≤ 3000000) (H : Nat) (hH : w.heap.size = H)
  (h : ∀ g cap w', w'.ownsRow 0 70 1 (.slice (some ⟨g, 0, none⟩) (n + 1) cap) (n + 1) (xs ++ [u]) → w.grownBy w' v.ownBlock → (v.ownBlock = some g ∨ g = H) → g < w'.heap.size → wpList Tryz.prog ops Q rest (a.put o.dst (.slice (some ⟨g, 0, none⟩) (n + 1) cap)) w') : wpList Tryz.prog ops Q (o :: rest) a w := by
 obtain ⟨i, hi0, hz0, hz1, hz2⟩ := info_parts info_value
 refine wpList_append_lies w hgd s x 155 ho 0 70 i _ 1 16 Tryz.underlying155 hi0 hz0 hz1 hz2 rfl (by omega) v n xs hs hown.1 ⟨b, 0, none⟩ 1 1 [u] hx rfl ?_ ?_ (by omega) (by unfold maxLen; omega) (by omega) (Nat.zero_le _) H hH h
 ·intro j y hj
  match j, hj with
  | 0, hj => simp at hj; subst hj; simpa [Addr.add] using hc
 ·intro y hy; simp at hy; subst hy; exact hu
def JL (w : World) (F0 : FuncId) (C0 : List Value) (acc : List V) (W : World) : Prop := acc.length ≤ 20 ∧ (∃ us a c, RP W (w.heap.size + 2) (w.heap.size + 1) 155 70 1 us acc us a c) ∧
 Blk W w.heap.size 159 #[.func (.func F0) #[] C0.toArray] ∧ Below w.heap.size w W
def FL (w W : World) : Prop := Below w.heap.size w W ∧ ∃ a n c, W.cell? ⟨w.heap.size + 1, 0, none⟩ = some (.slice a n c)
theorem JL.fl {w : World} {F0 : FuncId} {C0 : List Value} {acc : List V} {W : World} (h : JL w F0 C0 acc W) : FL w W := by
 obtain ⟨-, ⟨us, a, c, hp⟩, -, hb⟩ := h
 exact ⟨hb, a, acc.length, c, by have := hp.blk.cell 0; simpa using this⟩
theorem i_items1 (rd : Bs → Option (V × Bs)) (F0 : FuncId) (C0 : List Value) (he : ∀ (args : Array Value) (W : World), (callFunc F0 args).run Tryz.prog W = .ok (.enter F0 args) W) (w : World) (acc : List V) (s : Bs) (W : World) (hj : JL w F0 C0 acc W)
  (HC : Hid (∀ (W : World), Below w.heap.size w W → Calls Tryz.prog F0 (.string (S s) :: C0).toArray W (RetP W (rd s)))) :
  Calls Tryz.prog 155 #[.string (S s), .pointer (some ⟨w.heap.size, 0, none⟩), .pointer (some ⟨w.heap.size + 1, 0, none⟩)] W (RetRow (JL w F0 C0) (FL w) (stepL rd acc s)) := by
 obtain ⟨h20, ⟨us, a, c, hp⟩, hbk, hb⟩ := hj
 have k0 := hbk.cell 0
 simp at k0
 have HC2 := Lib.hid (HC.out W hb)
 obtain ⟨o, ho⟩ : ∃ o, rd s = o := ⟨_, rfl⟩
 rw [ho] at HC2
 obtain ⟨O, hO⟩ : ∃ O, stepL rd acc s = O := ⟨_, rfl⟩
 rw [hO]
 have HN := Lib.hid (show o = none → O = none by intro h; rw [← hO]; unfold stepL; rw [ho, h])
 have HY := Lib.hid (show ∀ y, o = some y → O = if acc.length + 1 ≤ 20 then some (acc ++ [y.1], y.2) else none by intro y h; rw [← hO]; unfold stepL; rw [ho, h])
 have HP := Lib.hid hp; have HK := Lib.hid hbk; have HB := Lib.hid hb
 have hz := hb.size
 have hlt := hp.blk.lt
 have HLT := Lib.hid hp.row.lt_
 obtain ⟨n, hn⟩ : ∃ n, acc.length = n := ⟨_, rfl⟩
 have HNN := Lib.hid hn
 rw [hn] at h20
 clear hp hbk hb ho hO HC hn
 go_enter Tryz.func155, Tryz.ntmps155
 go_wp2_with fail
 refine HC2.out.mono ?_
 rintro ee w2 ⟨u, r, rfl, hu, hr, hb2, hx⟩
 have HX := Lib.hid hx
 have hone : u.oneCell' = true := by rcases isV_cases hu with rfl | ⟨T, v, rfl⟩ <;> rfl
 have HP2 := Lib.hid (HP.out.belowed hb2)
 have HP3 := Lib.hid ((HP.out.belowed hb2).belowed (below_alloc (Below.refl _ _) (.cells #[u] 70)))
 have HK3 := Lib.hid (((HK.out.keep hb2)).alloc (.cells #[u] 70))
 have HB3 := Lib.hid (below_alloc (below_trans HB.out hb2) (.cells #[u] 70))
 have hz2 := hb2.size
 have p0 := HP2.out.blk.cell 0
 have pf := HP2.out.blk.frozen 0
 simp at p0
 rw [HNN.out] at p0
 have hROW := Lib.hid HP3.out.row
 rw [HNN.out] at hROW
 have HU := Lib.hid hu
 have hcu : u.cells = #[u] := by rcases isV_cases hu with rfl | ⟨T, v, rfl⟩ <;> rfl
 clear hx HP HK HB HP2 hb2 HC2 hu
 rcases isV_cases HU.out with rfl | ⟨T, v, rfl⟩
 all_goals
  go_wp2_with (at_builtin; first | refine app_lv rfl _ _ rfl _ _ n us rfl hROW.out w2.heap.size (.iface T v) rfl rfl ?c1 (by omega) (w2.heap.size + 1) (by simp) ?_ | refine app_lv rfl _ _ rfl _ _ n us rfl hROW.out w2.heap.size .nilIface rfl rfl ?c1 (by omega) (w2.heap.size + 1) (by simp) ?_)
  case c1 => simp [go_sem]
  intro g cap w' hk' hg' hgg hlt'
  have hgA : w'.cell? ⟨w.heap.size + 1, 0, none⟩ = some (.slice a n c) ∧ w'.frozen? ⟨w.heap.size + 1, 0, none⟩ = false ∧ w.heap.size + 1 < w'.heap.size := by
   have := HP3.out.after (by rw [HNN.out]; exact hg')
   rw [HNN.out] at this; exact this
  obtain ⟨q0, q1, q2⟩ := hgA
  have HBE := Lib.hid (show Below w.heap.size w w' from HB3.out.trans (HP3.out.below (by rw [HNN.out]; exact hg') (by simp; omega) (by omega)))
  have HKE := Lib.hid (HP3.out.beside (by rw [HNN.out]; exact hg') HK3.out (by omega))
  cases o with
  | none =>
   have HNO := Lib.hid (HN.out rfl)
   clear HN HY hk' hg' hgg
   go_wp2_with fail
   go_quiet (fail)
   go_wp2_with fail
   go_ret2
   refine RetRow.no HNO.out hr ?_
   exact ⟨below_draws (below_set HBE.out (by simp) _) _, some ⟨g, 0, none⟩, n + 1, cap, by simp; exact World.cell?_setCell_same _ _ _ q0⟩
  | some y =>
   obtain ⟨rfl, hpx⟩ := HX.out _ rfl
   have HYY := Lib.hid (HY.out y rfl)
   have HM := Lib.hid (HP3.out.more (x := y.1) (H := w2.heap.size + 1) ((Fr1.of_lt (L := W.heap.size) hpx (by omega) HLT.out) |>.belowed (below_alloc (Below.refl _ _) _)) (by simp) (by rw [HNN.out]; exact hk') (by rw [HNN.out]; exact hg') (by rw [HNN.out]; exact hgg) (by omega))
   clear HN HY hk' hg' hgg
   by_cases hle : n + 1 ≤ 20
   ·rw [HNN.out, if_pos hle] at HYY
    have hle2 : ((n : Int) + 1) ≤ 20 := by omega
    go_wp2_with fail
    go_quiet (fail)
    go_wp2_with fail
    go_ret2
    refine RetRow.yes HYY.out hr ⟨below_draws (below_set HBE.out (by simp) _) _, some ⟨g, 0, none⟩, n + 1, cap, by simp; exact World.cell?_setCell_same _ _ _ q0⟩ ?_
    rw [HNN.out] at HM
    exact ⟨by simp; rw [HNN.out]; omega, ⟨_, _, _, HM.out.belowed (below_draws (Below.refl _ _) _)⟩, (HKE.out.far (by simp) _).keep (below_draws (Below.refl _ _) _), below_draws (below_set HBE.out (by simp) _) _⟩
   ·rw [HNN.out, if_neg hle] at HYY
    have hle3 : decide (((n : Int) + 1) ≤ 20) = false := decide_eq_false (by omega)
    go_wp2_with fail
    go_quiet (fail)
    go_wp2_with fail
    go_ret2
    refine RetRow.no HYY.out hr ?_
    exact ⟨below_draws (below_set HBE.out (by simp) _) _, some ⟨g, 0, none⟩, n + 1, cap, by simp; exact World.cell?_setCell_same _ _ _ q0⟩
theorem stepL_len {rd : Bs → Option (V × Bs)} (hr : ∀ s y, rd s = some y → y.2.length ≤ s.length) (x : List V) (s : Bs) (y : List V × Bs) (h : stepL rd x s = some y) : y.2.length ≤ s.length := by
 unfold stepL at h
 split at h
 ·cases h
 ·rename_i z hz
  split at h
  ·injection h with h; subst h; exact hr _ _ hz
  ·cases h
theorem items1_enters (args : Array Value) (W : World) : (callFunc 155 args).run Tryz.prog W = .ok (.enter 155 args) W := by kernel_rfl
theorem i_readItems (rd : Bs → Option (V × Bs)) (hlen : ∀ s y, rd s = some y → y.2.length ≤ s.length) (F0 : FuncId) (C0 : List Value) (he : ∀ (args : Array Value) (W : World), (callFunc F0 args).run Tryz.prog W = .ok (.enter F0 args) W)
  (k s : Bs) (hk : at_ k 0 = 91) (w : World) (hs : s.length ≤ 1000000) (HC : Hid (∀ (s' : Bs) (W : World), Below w.heap.size w W → s'.length < s.length → Calls Tryz.prog F0 (.string (S s') :: C0).toArray W (RetP W (rd s')))) :
  Calls Tryz.prog 127 #[.string (S s), .func (.func F0) #[] C0.toArray] w (RetP w ((rowR (stepL rd) 91 93 [] s).map fun y => (.mk k [] [] y.1, y.2))) := by
 obtain ⟨W0, hW0⟩ : ∃ W0, (w.alloc (.cells #[.func (.func F0) #[] C0.toArray] 159)).alloc (.cells #[.slice none 0 0] 155) = W0 := ⟨_, rfl⟩
 have hb0 : Below w.heap.size w W0 := by rw [← hW0]; exact below_alloc (below_alloc (Below.refl _ _) _) _
 have HJ0 : JL w F0 C0 [] W0 := by
  refine ⟨by simp, ⟨[], none, 0, RP.start _ _ _ (by omega) ?_⟩, ?_, hb0⟩
  ·rw [← hW0]
   have := Blk.new (w.alloc (.cells #[.func (.func F0) #[] C0.toArray] 159)) 155 #[.slice none 0 0]
   rw [World.size_alloc] at this; exact this
  ·rw [← hW0]; exact (Blk.new w _ _).alloc _
 have HR := Lib.hid (i_readRow (stepL rd) 91 93 (by decide) (by decide) 155 [.pointer (some ⟨w.heap.size, 0, none⟩), .pointer (some ⟨w.heap.size + 1, 0, none⟩)] items1_enters (JL w F0 C0) (FL w) (fun x W h => h.fl) [] s W0 hs HJ0
  (fun acc s' W hj hl => i_items1 rd F0 C0 he w acc s' W hj (fun W' hb => HC.out s' W' hb hl)) (stepL_len hlen))
 rw [show ((91 : UInt8).toNat : Int) = 91 from rfl, show ((93 : UInt8).toNat : Int) = 93 from rfl] at HR
 obtain ⟨o, ho⟩ : ∃ o, rowR (stepL rd) 91 93 [] s = o := ⟨_, rfl⟩
 rw [ho] at HR ⊢
 have HW := Lib.hid hW0
 clear ho HJ0 HC he hlen hW0
 go_enter Tryz.func127, Tryz.ntmps127
 go_wp2_with fail
 rw [HW.out]
 refine HR.out.mono ?_
 rintro ee w1 ⟨r, rfl, hr, ⟨hb1, a, n, c, x0⟩, hy⟩
 cases o with
 | none =>
  clear hy
  go_wp2_with fail
  go_ret3
  exact RetP.no rfl rfl hr hb1
 | some y =>
  obtain ⟨rfl, h20, ⟨us, a2, c2, hp⟩, -, -⟩ := hy y rfl
  have HP := Lib.hid hp
  have y0 := hp.blk.cell 0
  simp at y0
  clear x0 hp hy
  go_wp2_with fail
  go_ret3
  exact RetP.yes rfl hr hb1 (HP.out.list hk (by omega))
theorem list1_enters (args : Array Value) (W : World) : (callFunc 128 args).run Tryz.prog W = .ok (.enter 128 args) W := by kernel_rfl
theorem i_list1 (rd : Bs → Option (V × Bs)) (k' s : Bs) (qa : Option Addr) (b1 b2 : Nat) (W : World) (h1 : W.cell? ⟨b1, 0, none⟩ = some (.string (S k'))) (h2 : W.cell? ⟨b2, 0, none⟩ = some (.pointer qa))
  (HC : Hid (Calls Tryz.prog 80 #[.string (S k'), .pointer qa, .string (S s)] W (RetP W (rd s)))) :
  Calls Tryz.prog 128 #[.string (S s), .pointer (some ⟨b1, 0, none⟩), .pointer (some ⟨b2, 0, none⟩)] W (RetP W (rd s)) := by
 obtain ⟨o, ho⟩ : ∃ o, rd s = o := ⟨_, rfl⟩
 rw [ho] at HC ⊢
 clear ho
 go_enter Tryz.func128, Tryz.ntmps128
 go_wp2_with fail
 refine HC.out.mono ?_
 rintro ee w1 ⟨u, r, rfl, hu, hr, hb, hx⟩
 go_wp2_with fail
 go_ret3
 exact ⟨u, r, rfl, hu, hr, hb, hx⟩
theorem i_readList (rd : Bs → Option (V × Bs)) (hlen : ∀ s y, rd s = some y → y.2.length ≤ s.length) (k k' s : Bs) (qa : Option Addr) (hk : at_ k 0 = 91) (w : World) (hs : s.length ≤ 1000000)
  (HC : ∀ (s' : Bs) (W : World), Below w.heap.size w W → s'.length < s.length → Calls Tryz.prog 80 #[.string (S k'), .pointer qa, .string (S s')] W (RetP W (rd s'))) :
  Calls Tryz.prog 102 #[.string (S k'), .pointer qa, .string (S s)] w (RetP w ((rowR (stepL rd) 91 93 [] s).map fun y => (.mk k [] [] y.1, y.2))) := by
 obtain ⟨W0, hW0⟩ : ∃ W0, (w.alloc (.cells #[.string (S k')] 9)).alloc (.cells #[.pointer qa] 48) = W0 := ⟨_, rfl⟩
 have hb0 : Below w.heap.size w W0 := by rw [← hW0]; exact below_alloc (below_alloc (Below.refl _ _) _) _
 have K1 : Blk W0 w.heap.size 9 #[.string (S k')] := by rw [← hW0]; exact (Blk.new w _ _).alloc _
 have K2 : Blk W0 (w.heap.size + 1) 48 #[.pointer qa] := by
  rw [← hW0]
  have := Blk.new (w.alloc (.cells #[.string (S k')] 9)) 48 #[.pointer qa]
  rw [World.size_alloc] at this; exact this
 have HR := Lib.hid (i_readItems rd hlen 128 [.pointer (some ⟨w.heap.size, 0, none⟩), .pointer (some ⟨w.heap.size + 1, 0, none⟩)] list1_enters k s hk W0 hs (fun s' W hb hl => i_list1 rd k' s' qa _ _ W
  (by have := (K1.keep hb).cell 0; simpa using this) (by have := (K2.keep hb).cell 0; simpa using this) (HC s' W (below_trans hb0 hb) hl)))
 obtain ⟨o, ho⟩ : ∃ o, ((rowR (stepL rd) 91 93 [] s).map fun y => (V.mk k [] [] y.1, y.2)) = o := ⟨_, rfl⟩
 rw [ho] at HR ⊢
 have HW := Lib.hid hW0
 have HB := Lib.hid hb0
 clear ho HC hW0 K1 K2 hb0 hlen
 go_enter Tryz.func102, Tryz.ntmps102
 go_wp2_with fail
 rw [HW.out]
 refine HR.out.mono ?_
 rintro ee w1 ⟨u, r, rfl, hu, hr, hb1, hx⟩
 go_wp2_with fail
 go_ret3
 exact ⟨u, r, rfl, hu, hr, below_trans HB.out hb1, fun y hy => ⟨(hx y hy).1, (hx y hy).2.imp (by intro b _ h; have := HB.out.size; omega)⟩⟩
def lastT (gs : List Int) : Int := gs.getD (gs.length - 1) 0
theorem lastT_snoc (gs : List Int) (g : Int) : lastT (gs ++ [g]) = g := by unfold lastT; simp
theorem RP.other {w : World} {B q : Nat} {ct et : TypeId} {sz : Nat} {cs : List Value} {l : List V} {us : List Value} {a : Option Addr} {c : Nat} (h : RP w B q ct et sz cs l us a c) {b : Nat} (hb : b < B) (hne : q ≠ b) (i : Nat) (v : Value) : RP (w.setCell ⟨b, i, none⟩ v) B q ct et sz cs l us a c :=
 ⟨h.lt, h.blk.grown (set_self1 _ _ _ _) (by intro e; injection e with e; exact hne e), h.row.rowed (set_self1 _ _ _ _) (by intro r e; injection e with e; omega), h.mny.rowed (set_self1 _ _ _ _) (by intro r e; injection e with e; omega)⟩
theorem step_app_fv {w : World} {ops : Array Oper} {o : Oper} {a : Act} {K : Act → World → Prop} {Q : Exit → Act → World → Prop} {E : Prop} (hgd : o.guard = none) (s x : Operand)
  (ho : o.op = .call { callee := .builtin .append, args := #[s, x], argTypes := #[85, 85] })
  (N : Nat → Prop) (v : Value) (n : Nat) (xs : List Value) (hs : a.eval s = v) (hown : RowN w N 137 2 v n xs) (b : Nat) (y : Int) (u : Value) (hu : u.oneCell' = true) (hx : a.eval x = .slice (some ⟨b, 0, none⟩) 1 1)
  (hc0 : w.cell? ⟨b, 0, none⟩ = some (.int .i64 y)) (hc1 : w.cell? ⟨b, 1, none⟩ = some u) (hn : n ≤ 3000000) (H : Nat) (hH : w.heap.size = H)
  (h : ∀ g cap w', w'.ownsRow 0 137 2 (.slice (some ⟨g, 0, none⟩) (n + 1) cap) (n + 1) (xs ++ [.int .i64 y, u]) → w.grownBy w' v.ownBlock → (v.ownBlock = some g ∨ g = H) → g < w'.heap.size → K (a.put o.dst (.slice (some ⟨g, 0, none⟩) (n + 1) cap)) w') :
  if Region.wanted o (yielded ops a.tmps) = true then Oper.wp Tryz.prog o a w K Q else E := by
 obtain ⟨i, hi0, hz0, hz1, hz2⟩ := info_parts info_fv
 refine step_append_lies w hgd s x 85 ho 0 137 i _ 2 24 Tryz.underlying85 hi0 hz0 hz1 hz2 rfl (by omega) v n xs hs hown.1 ⟨b, 0, none⟩ 1 1 [.int .i64 y, u] hx rfl ?_ ?_ (by omega) (by unfold maxLen; omega) (by omega) (Nat.zero_le _) H hH h
 ·intro j z hj
  match j, hj with
  | 0, hj => simp at hj; subst hj; simpa [Addr.add] using hc0
  | 1, hj => simp at hj; subst hj; simpa [Addr.add] using hc1
 ·intro z hz
  simp at hz
  rcases hz with rfl | rfl
  ·rfl
  ·exact hu
def JR (w : World) (e : Ent) (a : List Int × List V) (W : World) : Prop := a.1.length = a.2.length ∧ (∀ g ∈ a.1, 1 ≤ g ∧ g ≤ 200) ∧ (a.2.length : Int) ≤ lastT a.1 ∧ lastT a.1 ≤ 200 ∧ Blk W w.heap.size 48 #[.pointer (some ⟨e.b, 0, none⟩)] ∧
 Blk W (w.heap.size + 2) 3 #[.int .i64 (lastT a.1)] ∧ (∃ us b c, RP W (w.heap.size + 3) (w.heap.size + 1) 85 137 2 (flatFV a.1 us) a.2 us b c) ∧ Below w.heap.size w W
theorem JR.fl {w : World} {e : Ent} {a : List Int × List V} {W : World} (h : JR w e a W) : FL w W := by
 obtain ⟨-, -, -, -, -, -, ⟨us, b, c, hp⟩, hb⟩ := h
 exact ⟨hb, b, a.2.length, c, by have := hp.blk.cell 0; simpa using this⟩
theorem FL.below {w W W' : World} (h : FL w W) (hb : Below W.heap.size W W') (hlt : w.heap.size + 1 < W.heap.size) : FL w W' := by
 obtain ⟨h1, a, n, c, h2⟩ := h
 exact ⟨below_trans h1 hb, a, n, c, by rw [hb.cell (p := ⟨w.heap.size + 1, 0, none⟩) hlt]; exact h2⟩
end Go.Proofs.YtcjooeklehggaaaGreatDoor
