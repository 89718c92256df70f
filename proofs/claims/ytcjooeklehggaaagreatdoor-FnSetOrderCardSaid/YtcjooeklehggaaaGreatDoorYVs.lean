/- Lemmas of this seat. -/
import Derived.Shelf.Lays
import Derived.Shelf.SlSortCmp.SmallK
import Derived.Shelf.Small.Bits
import Derived.Test.YtcjooeklehggaaaGreatDoorYJs
import Derived.Test.YtcjooeklehggaaaGreatDoorYKs
import Derived.Test.YtcjooeklehggaaaGreatDoorYOs
import Derived.Test.YtcjooeklehggaaaGreatDoorYRs
set_option linter.unusedVariables false
set_option linter.unusedSimpArgs false
set_option maxRecDepth 100000
namespace Go.Proofs.YtcjooeklehggaaaGreatDoor
open Go.Shelf Go.ChangeShapes Go.WideShapes Go.ChangeAt Go.RowKit M
def sortRen : Go.Shelf.Ren := ⟨fun | 14 => 105 | 15 => 106 | 20 => 132 | 21 => 133 | 22 => 134 | 23 => 135 | 24 => 136 | 25 => 137 | 26 => 138 | 27 => 139 | 28 => 140 | 29 => 141 | 46 => 159 | 47 => 160 | 48 => 161 | 49 => 162 | 50 => 163 | 57 => 184 | n => n, fun | 0 => 0 | 3 => 3 | 4 => 4 | 5 => 5 | 9 => 9 | 22 => 84 | 24 => 137 | 25 => 141 | 39 => 162 | 45 => 181 | 46 => 182 | 50 => 167 | 53 => 188 | 55 => 190 | 66 => 207 | 70 => 211 | 76 => 228 | 77 => 229 | n => n, fun | n => n⟩
theorem sortLays : Go.Proofs.SlLaysF0.n14 Tryz.prog sortRen := {
 mixed := by kernel_rfl
 f14 := ⟨Tryz.f105.name, by kernel_rfl, Tryz.func105.trans (congrArg some (by kernel_rfl))⟩
 f15 := Tryz.func106.trans (congrArg some (by kernel_rfl))
 f20 := ⟨Tryz.f132.name, by kernel_rfl, Tryz.func132.trans (congrArg some (by kernel_rfl))⟩
 f21 := ⟨Tryz.f133.name, by kernel_rfl, Tryz.func133.trans (congrArg some (by kernel_rfl))⟩
 f22 := ⟨Tryz.f134.name, by kernel_rfl, Tryz.func134.trans (congrArg some (by kernel_rfl))⟩
 f23 := ⟨Tryz.f135.name, by kernel_rfl, Tryz.func135.trans (congrArg some (by kernel_rfl))⟩
 f24 := ⟨Tryz.f136.name, by kernel_rfl, Tryz.func136.trans (congrArg some (by kernel_rfl))⟩
 f25 := ⟨Tryz.f137.name, by kernel_rfl, Tryz.func137.trans (congrArg some (by kernel_rfl))⟩
 f26 := ⟨Tryz.f138.name, by kernel_rfl, Tryz.func138.trans (congrArg some (by kernel_rfl))⟩
 f27 := ⟨Tryz.f139.name, by kernel_rfl, Tryz.func139.trans (congrArg some (by kernel_rfl))⟩
 f28 := Tryz.func140.trans (congrArg some (by kernel_rfl))
 f29 := Tryz.func141.trans (congrArg some (by kernel_rfl))
 f46 := ⟨Tryz.f159.name, by kernel_rfl, Tryz.func159.trans (congrArg some (by kernel_rfl))⟩
 f47 := Tryz.func160.trans (congrArg some (by kernel_rfl))
 f48 := Tryz.func161.trans (congrArg some (by kernel_rfl))
 f49 := ⟨Tryz.f162.name, by kernel_rfl, Tryz.func162.trans (congrArg some (by kernel_rfl))⟩
 f50 := ⟨Tryz.f163.name, by kernel_rfl, Tryz.func163.trans (congrArg some (by kernel_rfl))⟩
 f57 := ⟨Tryz.f184.name, by kernel_rfl, Tryz.func184.trans (congrArg some (by kernel_rfl))⟩
 t0 := Tryz.underlying0
 a0 := Tryz.isAgg0
 z0 := Tryz.sizeOf0
 v0 := Tryz.zeroValue0
 t3 := Tryz.underlying3
 a3 := Tryz.isAgg3
 z3 := Tryz.sizeOf3
 v3 := Tryz.zeroValue3
 t4 := Tryz.underlying4
 a4 := Tryz.isAgg4
 z4 := Tryz.sizeOf4
 v4 := Tryz.zeroValue4
 t5 := Tryz.underlying5
 a5 := Tryz.isAgg5
 z5 := Tryz.sizeOf5
 v5 := Tryz.zeroValue5
 t9 := Tryz.underlying9
 a9 := Tryz.isAgg9
 z9 := Tryz.sizeOf9
 v9 := Tryz.zeroValue9
 t22 := Tryz.underlying84
 a22 := Tryz.isAgg84
 z22 := Tryz.sizeOf84
 v22 := Tryz.zeroValue84
 t25 := Tryz.underlying141
 a25 := Tryz.isAgg141
 z25 := Tryz.sizeOf141
 v25 := Tryz.zeroValue141
 t39 := Tryz.underlying162
 a39 := Tryz.isAgg162
 z39 := Tryz.sizeOf162
 v39 := Tryz.zeroValue162
 t45 := Tryz.underlying181
 a45 := Tryz.isAgg181
 z45 := Tryz.sizeOf181
 v45 := Tryz.zeroValue181
 t46 := Tryz.underlying182
 a46 := Tryz.isAgg182
 z46 := Tryz.sizeOf182
 v46 := Tryz.zeroValue182
 t50 := Tryz.underlying167
 a50 := Tryz.isAgg167
 z50 := Tryz.sizeOf167
 v50 := Tryz.zeroValue167
 t53 := Tryz.underlying188
 a53 := Tryz.isAgg188
 z53 := Tryz.sizeOf188
 v53 := Tryz.zeroValue188
 t55 := Tryz.underlying190
 a55 := Tryz.isAgg190
 z55 := Tryz.sizeOf190
 v55 := Tryz.zeroValue190
 t66 := Tryz.underlying207
 a66 := Tryz.isAgg207
 z66 := Tryz.sizeOf207
 v66 := Tryz.zeroValue207
 t70 := Tryz.underlying211
 a70 := Tryz.isAgg211
 z70 := Tryz.sizeOf211
 v70 := Tryz.zeroValue211
 t76 := Tryz.underlying228
 a76 := Tryz.isAgg228
 z76 := Tryz.sizeOf228
 v76 := Tryz.zeroValue228
 t77 := Tryz.underlying229
 a77 := Tryz.isAgg229
 z77 := Tryz.sizeOf229
 v77 := Tryz.zeroValue229 }
def bitsRen : Go.Shelf.Ren := ⟨fun | 125 => 106 | 128 => 140 | 129 => 141 | n => n, fun | 3 => 3 | 4 => 4 | 5 => 5 | 9 => 9 | 46 => 162 | 51 => 188 | 53 => 190 | n => n, fun | n => n⟩
theorem bitsLays : Go.Proofs.Lays.n125 Tryz.prog bitsRen := {
 mixed := by kernel_rfl
 f125 := Tryz.func106.trans (congrArg some (by kernel_rfl))
 f128 := Tryz.func140.trans (congrArg some (by kernel_rfl))
 f129 := Tryz.func141.trans (congrArg some (by kernel_rfl))
 t3 := Tryz.underlying3
 a3 := Tryz.isAgg3
 z3 := Tryz.sizeOf3
 v3 := Tryz.zeroValue3
 t4 := Tryz.underlying4
 a4 := Tryz.isAgg4
 z4 := Tryz.sizeOf4
 v4 := Tryz.zeroValue4
 t5 := Tryz.underlying5
 a5 := Tryz.isAgg5
 z5 := Tryz.sizeOf5
 v5 := Tryz.zeroValue5
 t9 := Tryz.underlying9
 a9 := Tryz.isAgg9
 z9 := Tryz.sizeOf9
 v9 := Tryz.zeroValue9
 t46 := Tryz.underlying162
 a46 := Tryz.isAgg162
 z46 := Tryz.sizeOf162
 v46 := Tryz.zeroValue162
 t51 := Tryz.underlying188
 a51 := Tryz.isAgg188
 z51 := Tryz.sizeOf188
 v51 := Tryz.zeroValue188
 t53 := Tryz.underlying190
 a53 := Tryz.isAgg190
 z53 := Tryz.sizeOf190
 v53 := Tryz.zeroValue190 }
structure FvS where
 tag : Int
 tree : V
 T : TypeId
 y : Value
 h0 : 0 ≤ tag
 h1 : tag ≤ 200
instance : Inhabited FvS := ⟨⟨0, default, 0, .nilIface, by decide, by decide⟩⟩
def FvS.u (x : FvS) : Value := .iface x.T x.y
def encFv (x : FvS) : List Value := [.int .i64 x.tag, x.u]
def cfFv (x y : FvS) : Int := x.tag - y.tag
theorem swo_fv : Go.Sort.SWO (ltOf cfFv) := by
 refine ⟨?_, ?_, ?_⟩
 ·intro x; unfold ltOf cfFv; simp
 ·intro x y z h1 h2; unfold ltOf cfFv at *; simp at *; omega
 ·intro x y z h1 h2; unfold ltOf cfFv at *; simp at *; omega
theorem i_with1 (x y : FvS) (W : World) : Calls Tryz.prog 82 #[.agg #[.int .i64 x.tag, .iface x.T x.y], .agg #[.int .i64 y.tag, .iface y.T y.y]] W fun e w' => e = .returned (.int .i64 (cfFv x y)) ∧ ∃ q os', w' = Go.Sort.grow (W.drewN q) os' := by
 unfold cfFv
 have hx0 := x.h0; have hx1 := x.h1; have hy0 := y.h0; have hy1 := y.h1
 obtain ⟨a, ha⟩ : ∃ a, x.tag = a := ⟨_, rfl⟩
 obtain ⟨b, hb⟩ : ∃ b, y.tag = b := ⟨_, rfl⟩
 rw [ha] at hx0 hx1 ⊢
 rw [hb] at hy0 hy1 ⊢
 have e1 : IntKind.i64.wrap (a - b) = a - b := IntWalk.i64_in _ (by omega)
 go_enter Tryz.func82, Tryz.ntmps82
 go_wp2_with fail
 go_ret
 exact ⟨rfl, 0, _, by rw [Go.Sort.alloc_eq_grow, Go.Sort.alloc_eq_grow, Go.Sort.grow_grow]; rfl⟩
theorem fv_lays (blk off size : Nat) (w : World) : CmpLays Tryz.prog 82 #[] encFv 2 cfFv blk off size w := fun _ _ _ _ x y => i_with1 x y _
theorem fv_len (n : Nat) (W : World) (h : n ≤ 12) : Calls Tryz.prog 106 #[.int .u64 n] W fun e w' => (∃ l : Int, e = .returned (.int .i64 l)) ∧ w' = W :=
 (Any.bits_Len bitsLays n W (by omega) (by omega)).mono fun _ _ ⟨he, hw⟩ => ⟨⟨_, he⟩, hw⟩
theorem fvflat_get (l : List FvS) (t : Nat) (h : t < l.length * 2) : (l.flatMap encFv)[t]? = some (encFv l[t / 2]!)[t % 2]! := by
 induction l generalizing t with
 | nil => simp at h
 | cons x l ih =>
  rw [List.flatMap_cons]
  match t, h with
  | 0, _ => rfl
  | 1, _ => rfl
  | t + 2, h =>
   have := ih t (by simp at h; omega)
   rw [show (t + 2) / 2 = t / 2 + 1 by omega, show (t + 2) % 2 = t % 2 by omega]
   show (Value.int .i64 x.tag :: x.u :: l.flatMap encFv)[t + 2]? = _
   rw [List.getElem?_cons_succ, List.getElem?_cons_succ, this]
   simp
theorem fvflat_eq (l : List FvS) : (Go.Sort.flatK encFv 2 l.toArray).toList = l.flatMap encFv := by
 apply List.ext_getElem?
 intro t
 by_cases ht : t < l.length * 2
 ·rw [fvflat_get l t ht, Array.getElem?_toList, Array.getElem?_eq_getElem (by simpa using ht)]
  have := Go.Sort.get_flatK encFv 2 l.toArray t (by simpa using ht)
  rw [getElem!_pos _ t (by simpa using ht)] at this
  rw [this]; simp
 ·rw [List.getElem?_eq_none (by simp; omega), List.getElem?_eq_none (by
   have : (l.flatMap encFv).length = l.length * 2 := by
    clear ht
    induction l with
    | nil => rfl
    | cons x l ih => rw [List.flatMap_cons, List.length_append, ih, List.length_cons, show (encFv x).length = 2 from rfl]; omega
   omega)]
theorem fvflat_len (l : List FvS) : (l.flatMap encFv).length = l.length * 2 := by rw [← fvflat_eq]; simp
theorem heap_sortFv {w : World} {g n : Nat} {os : Array Obj} {cur : Array Value} {e : TypeId} {fr : Nat × Nat} (d : Array Value) (hb : w.heap[g]? = some (.cells cur e fr)) :
  (Go.Sort.grow (Go.Sort.putRow id (Go.Sort.ahead w n) g 0 d) os).heap[g]? = some (.cells (Go.Sort.putCells id 0 d cur) e fr) := by
 have hg : g < w.heap.size := (Array.getElem?_eq_some_iff.1 hb).1
 rw [Go.Sort.heap_grow_old _ _ (by simpa using hg)]
 simp [Go.Sort.putRow, Go.Sort.mapBlock, Go.Sort.ahead, Array.getElem?_modify, hb, Go.Sort.onCells]
theorem grown_sortFv {w : World} {g n : Nat} {os : Array Obj} (d : Array Value) : w.grownBy (Go.Sort.grow (Go.Sort.putRow id (Go.Sort.ahead w n) g 0 d) os) (some g) := by
 refine ⟨rfl, rfl, rfl, by simp, fun k hk hne => ?_⟩
 rw [Go.Sort.heap_grow_old _ _ (by simpa using hk)]
 have : g ≠ k := fun e => hne (by rw [e])
 simp [Go.Sort.putRow, Go.Sort.mapBlock, Go.Sort.ahead, Array.getElem?_modify, this]
theorem take_putFv (cur : Array Value) (d : Array Value) (h : d.size ≤ cur.size) : (Go.Sort.putCells id 0 d cur).toList.take d.size = d.toList := by
 apply List.ext_getElem?
 intro j
 by_cases hj : j < d.size
 ·rw [List.getElem?_take_of_lt hj, Array.getElem?_toList]
  simp [Go.Sort.putCells, hj, show j < cur.size by omega]
 ·rw [List.getElem?_take_eq_none (by omega), List.getElem?_eq_none (by simp; omega)]
def RetSort (w : World) (N : Nat → Prop) (d : List FvS) (g cap : Nat) (e : Ending) (w' : World) : Prop := e = .returned (.tuple #[]) ∧ ∃ d' : List FvS, d'.Perm d ∧ d'.Pairwise (fun a b => a.tag ≤ b.tag) ∧ RowN w' N 137 2 (.slice (some ⟨g, 0, none⟩) d.length cap) d.length (d'.flatMap encFv) ∧ w.grownBy w' (some g)
theorem sorted_row {w : World} {N : Nat → Prop} {g cap n : Nat} {os : Array Obj} {d d' : List FvS} (hr : RowN w N 137 2 (.slice (some ⟨g, 0, none⟩) d.length cap) d.length (d.flatMap encFv)) (hl : d'.length = d.length) :
  RowN (sortWorldK encFv 2 w g 0 n d'.toArray os) N 137 2 (.slice (some ⟨g, 0, none⟩) d.length cap) d.length (d'.flatMap encFv) ∧ w.grownBy (sortWorldK encFv 2 w g 0 n d'.toArray os) (some g) := by
 refine ⟨⟨⟨by rw [fvflat_len, hl], ?_⟩, hr.2⟩, grown_sortFv _⟩
 rcases hr.1.2 with ⟨h0, _⟩ | ⟨g', cap', cur, hv, hbase, hb, h1, h2, h3, h4⟩
 ·cases h0
 ·cases hv
  refine .inr ⟨g, cap, _, rfl, hbase, heap_sortFv _ hb, h1, h2, by simp [Go.Sort.putCells, h3], ?_⟩
  have e := take_putFv cur (Go.Sort.flatK encFv 2 d'.toArray) (by simp; rw [h3, hl]; exact Nat.mul_le_mul_right 2 h1)
  rw [fvflat_eq] at e
  rw [← e]; simp [hl]
theorem holds_row {w : World} {N : Nat → Prop} {g cap : Nat} {d : List FvS} (hr : RowN w N 137 2 (.slice (some ⟨g, 0, none⟩) d.length cap) d.length (d.flatMap encFv)) : Go.Sort.HoldsK encFv 2 w g 0 d.toArray := by
 intro j hj
 have hj' : j < d.length * 2 := by simpa using hj
 refine ⟨?_, by rw [Nat.zero_add]; exact hr.nofreeze j⟩
 rw [Nat.zero_add, hr.cell j hj', fvflat_get d j hj', Go.Sort.get_flatK _ _ _ _ (by simpa using hj')]
 simp
set_option maxHeartbeats 1000000 in
theorem i_SortFunc (d : List FvS) (g cap : Nat) (N : Nat → Prop) (w : World) (hr : RowN w N 137 2 (.slice (some ⟨g, 0, none⟩) d.length cap) d.length (d.flatMap encFv)) (h12 : d.length ≤ 12) :
  Calls Tryz.prog 81 #[.slice (some ⟨g, 0, none⟩) d.length cap, .func (.func 82) #[] #[]] w (RetSort w N d g cap) := by
 have eg : ∀ args w, (callFunc 82 args).run Tryz.prog w = .ok (.enter 82 args) w := enters_of Tryz.func82 (by kernel_rfl) rfl
 have hg : g < w.heap.size := hr.lt_ g rfl
 have HP := Lib.hid (fun lim => AnyQ.pdqsortCmpFunc_small sortLays 2 Tryz.isAgg137 Tryz.sizeOf137 encFv (fun _ => rfl) (fun x v hv => by simp [encFv, FvS.u] at hv; rcases hv with rfl | rfl <;> rfl) cfFv 82 #[] g 0 cap 0 d.toArray.size lim d.toArray w eg (fv_lays g 0 _ w) (holds_row hr) hg (Nat.zero_le _) (Nat.le_refl _) (by simp; omega) (by simp; omega))
 have HI := Go.Sort.insertionSort_holds swo_fv d.toArray 0 d.toArray.size (Nat.zero_le _) (Nat.le_refl _)
 have HR := Lib.hid hr
 have HL := Lib.hid (fv_len d.length w h12)
 obtain ⟨r, hrr⟩ : ∃ r, Go.Sort.insertionSort (ltOf cfFv) d.toArray 0 d.toArray.size = r := ⟨_, rfl⟩
 rw [hrr] at HP HI
 have HII := Lib.hid HI
 clear hrr HI hr eg
 simp only [List.size_toArray] at HP
 obtain ⟨n, hn⟩ : ∃ n, d.length = n := ⟨_, rfl⟩
 have HN := Lib.hid hn
 rw [hn] at HP HL h12 ⊢
 have e1 : IntKind.u64.wrap (n : Int) = (n : Int) := IntWalk.u64_in _ (by omega)
 clear hn
 go_enter Tryz.func81, Tryz.ntmps81
 go_wp2_with (go_at_call 106; refine HL.out.mono ?_; rintro e w' ⟨⟨l, rfl⟩, rfl⟩)
 have HP2 := HP.out
 change ∀ lim, Calls Tryz.prog 105 _ _ _ at HP2
 refine (HP2 _).mono ?_
 rintro e w1 ⟨rfl, q, os, rfl⟩
 go_wp2_with fail
 go_end0
 obtain ⟨⟨hs1, -, hs3⟩, hs4⟩ := HII.out
 have hsz : r.size = d.length := by simpa using hs1
 have hrl : r.toList.length = d.length := by simpa using hsz
 have hp : r.toList.Perm d := by
  have := hs3
  rw [show d.toArray.size = r.size by simp [hsz], Array.extract_size, Array.extract_eq_self_of_le (by simp [hsz])] at this
  simpa using this
 have hK := sorted_row (n := q) (os := os) HR.out (d' := r.toList) hrl
 refine ⟨rfl, r.toList, hp, ?_, hK.1, hK.2⟩
 rw [List.pairwise_iff_getElem]
 intro i j hi hj hij
 have := hs4 i j (Nat.zero_le _) hij (by simp at hj ⊢; omega)
 unfold ltOf cfFv at this
 simp at hi hj
 rw [getElem!_pos r i hi, getElem!_pos r j hj] at this
 simp at this ⊢
 omega
open Go.ChangeShapes Go.WideShapes Go.ChangeAt Go.RowKit M
theorem app_fv {w : World} {ops : Array Oper} {rest : List Oper} {o : Oper} {a : Act} {Q : Exit → Act → World → Prop} (hgd : o.guard = none) (s x : Operand)
  (ho : o.op = .call { callee := .builtin .append, args := #[s, x], argTypes := #[85, 85] })
  (N : Nat → Prop) (v : Value) (n : Nat) (xs : List Value) (hs : a.eval s = v) (hown : RowN w N 137 2 v n xs) (b : Nat) (y : Int) (u : Value) (hu : u.oneCell' = true) (hx : a.eval x = .slice (some ⟨b, 0, none⟩) 1 1)
  (hc0 : w.cell? ⟨b, 0, none⟩ = some (.int .i64 y)) (hc1 : w.cell? ⟨b, 1, none⟩ = some u) (hn : n ≤ 3000000) (H : Nat) (hH : w.heap.size = H)
  (h : ∀ g cap w', RowN w' (fun b => N b ∨ H ≤ b) 137 2 (.slice (some ⟨g, 0, none⟩) (n + 1) cap) (n + 1) (xs ++ [.int .i64 y, u]) → w.grownBy w' v.ownBlock → (v.ownBlock = some g ∨ g = H) → g < w'.heap.size → wpList Tryz.prog ops Q rest (a.put o.dst (.slice (some ⟨g, 0, none⟩) (n + 1) cap)) w') : wpList Tryz.prog ops Q (o :: rest) a w := by
 obtain ⟨i, hi0, hz0, hz1, hz2⟩ := info_parts info_fv
 refine wpList_append_lies w hgd s x 85 ho 0 137 i _ 2 24 Tryz.underlying85 hi0 hz0 hz1 hz2 rfl (by omega) v n xs hs hown.1 ⟨b, 0, none⟩ 1 1 [.int .i64 y, u] hx rfl ?_ ?_ (by omega) (by unfold maxLen; omega) (by omega) (Nat.zero_le _) H hH ?_
 ·intro j z hj
  match j, hj with
  | 0, hj => simp at hj; subst hj; simpa [Addr.add] using hc0
  | 1, hj => simp at hj; subst hj; simpa [Addr.add] using hc1
 ·intro z hz
  simp at hz
  rcases hz with rfl | rfl
  ·rfl
  ·exact hu
 ·intro g cap w' h1 h2 h3 h4
  refine h g cap w' ⟨h1, ?_⟩ h2 h3 h4
  intro g' hg'
  injection hg' with hg'
  have hg2 : g = g' := hg'
  subst hg2
  rcases h3 with h3 | h3
  ·exact .inl (hown.2 g h3)
  ·exact .inr (by omega)
def fl (tag : Int) (d : List FvS) : List FvS := d.filter fun x => decide (x.tag ≠ tag)
theorem fl_yes (tag : Int) (d : List FvS) (j : Nat) (hj : j < d.length) (h : ¬ d[j].tag = tag) : fl tag (d.take (j + 1)) = fl tag (d.take j) ++ [d[j]] := by
 unfold fl; rw [List.take_succ_eq_append_getElem hj, List.filter_append]; simp [h]
theorem fl_no (tag : Int) (d : List FvS) (j : Nat) (hj : j < d.length) (h : d[j].tag = tag) : fl tag (d.take (j + 1)) = fl tag (d.take j) := by
 unfold fl; rw [List.take_succ_eq_append_getElem hj, List.filter_append]; simp [h]
theorem fl_len (tag : Int) (d : List FvS) : (fl tag d).length ≤ d.length := List.length_filter_le _ _
def RetWith (w : World) (d : List FvS) (tag : Int) (y : V) (T : TypeId) (yv : Value) (h0 : 0 ≤ tag) (h1 : tag ≤ 200) (b : Bool) (e : Ending) (w' : World) : Prop := ∃ (v : Value) (d' : List FvS), e = .returned v ∧ Below w.heap.size w w' ∧ RowN w' (fun b => w.heap.size ≤ b) 137 2 v d'.length (d'.flatMap encFv) ∧
 (b = true → d' = fl tag d) ∧ (b = false → d'.Perm (fl tag d ++ [⟨tag, y, T, yv, h0, h1⟩]) ∧ d'.Pairwise (fun a b => a.tag ≤ b.tag))
set_option maxHeartbeats 4000000 in
theorem i_with {es : List Ent} (hs : Sound es) (B : Nat) (w : World) (hG : Graph w B es) (hT : Tab w) (d : List FvS) {v : Value} {N : Nat → Prop} (hr : RowN w N 137 2 v d.length (d.flatMap encFv)) (hd : d.length ≤ 8)
  (y : V) (T : TypeId) (yv : Value) (hp : PAt w N y (.iface T yv)) (hyl : (outV y).length ≤ 1000000) (e : Ent) (he : e ∈ es) (h69 : e.t.sort ≠ 69) (g n cap i : Nat) (f : Fl) (hv : e.v = .slice (some ⟨g, 0, none⟩) n cap) (hf : e.t.fields[i]? = some f) (h0 : 0 ≤ f.tag) (h1 : f.tag ≤ 200) :
  Calls Tryz.prog 57 #[v, .pointer (some ⟨g, i * 5, none⟩), .iface T yv] w (RetWith w d f.tag y T yv h0 h1 (outV y == standM (tys es) f)) := by
 obtain ⟨ao, co, rfl, hcap, -, hh⟩ := hr.form
 have HFA := Lib.hid (fun w' (hbw : Below w.heap.size w w') => (hG.below hbw).fieldAt hs he hv hf)
 have HST := Lib.hid (fun W' (hbw : Below w.heap.size w W') => (by
  obtain ⟨q', hf', hq', -, hne, -⟩ := HFA.out W' hbw
  have := i_standField hs B g (i * 5) f W' (hG.below hbw) (hT.below hbw) ⟨.pointer q', hf', hq'⟩
  rw [if_neg (hne h69)] at this; exact this : Calls Tryz.prog 35 #[.pointer (some ⟨g, i * 5, none⟩)] W' fun e w' => e = .returned (.string (S (standM (tys es) f))) ∧ Below W'.heap.size W' w'))
 have hgw : g < w.heap.size := by obtain ⟨-, -, -, -, -, h⟩ := HFA.out w (Below.refl _ _); exact h
 obtain ⟨T', yv', g', hu, hI⟩ := hp.isT
 have eT : T = T' ∧ yv = yv' := by injection hu with h1 h2; exact ⟨h1, h2⟩
 obtain ⟨rfl, rfl⟩ := eT
 have HTX := Lib.hid (fun W (hbw : Below w.heap.size w W) => texts y T yv g' N W hI (hp.belowed hbw) (hT.below hbw) hyl)
 have HIT := Lib.hid hI
 have HR := Lib.hid hr; have HH := Lib.hid hh
 obtain ⟨m, hm⟩ : ∃ m, d.length = m := ⟨_, rfl⟩
 rw [hm] at hcap hh hd HR HH ⊢
 have HM := Lib.hid hm
 obtain ⟨O1, hO1⟩ : ∃ O, outV y = O := ⟨_, rfl⟩
 obtain ⟨O2, hO2⟩ : ∃ O, standM (tys es) f = O := ⟨_, rfl⟩
 rw [hO1] at HTX ⊢
 rw [hO2] at HST ⊢
 obtain ⟨tg, htg⟩ : ∃ tg, f.tag = tg := ⟨_, rfl⟩
 rw [htg] at h0 h1
 have HTG := Lib.hid htg
 rw [show RetWith w d f.tag y T yv _ _ (O1 == O2) = RetWith w d tg y T yv h0 h1 (O1 == O2) by subst htg; rfl]
 clear hr hh hm hG hT hs hp hyl he h69 hv hf hI hu hO1 hO2 htg
 go_enter Tryz.func57, Tryz.ntmps57
 go_wp2_with fail
 go_loopw [7, 12] (fun x k wr => ∃ j : Nat, j ≤ m ∧ k = .int .i64 j ∧ Hid (RowN wr (fun b => w.heap.size ≤ b) 137 2 x (fl tg (d.take j)).length ((fl tg (d.take j)).flatMap encFv)) ∧ Hid (Below w.heap.size w wr)) (fun _ k _ => m - (intOf k).toNat)
 case atStart => exact ⟨0, by omega, rfl, RowN.nil_ _ _ _ _, Below.refl _ _⟩
 case round =>
  obtain ⟨j, hj, rfl, hX, hb⟩ := hrel
  obtain ⟨ax, cx, rfl, hcx, -, hhx⟩ := hX.out.form
  have HHX := Lib.hid hhx
  by_cases hjn : j < m
  ·obtain ⟨g2, rfl⟩ : ∃ g, ao = some ⟨g, 0, none⟩ := by
    rcases HH.out with ⟨_, h0⟩ | ⟨g, h0, -⟩
    ·omega
    ·exact ⟨g, h0⟩
   have hjd : j < d.length := by rw [HM.out]; exact hjn
   have x0 := (HR.out.belowed hb.out).cell (j * 2) (by omega)
   have x1 := (HR.out.belowed hb.out).cell (j * 2 + 1) (by omega)
   rw [fvflat_get d _ (by omega)] at x0 x1
   rw [show j * 2 / 2 = j by omega, show j * 2 % 2 = 0 by omega, getElem!_pos d j hjd] at x0
   rw [show (j * 2 + 1) / 2 = j by omega, show (j * 2 + 1) % 2 = 1 by omega, getElem!_pos d j hjd] at x1
   have HFY := Lib.hid (fun (h : ¬ d[j].tag = tg) => fl_yes tg d j hjd h)
   have HFN := Lib.hid (fun (h : d[j].tag = tg) => fl_no tg d j hjd h)
   have HDL := Lib.hid (Nat.le_trans (fl_len tg (d.take j)) (by simp; omega : (d.take j).length ≤ 3000000))
   obtain ⟨z, hz⟩ : ∃ z, d[j] = z := ⟨_, rfl⟩
   rw [hz] at x0 x1 HFY HFN
   obtain ⟨t, ht⟩ : ∃ t, z.tag = t := ⟨_, rfl⟩
   obtain ⟨TT, hTT⟩ : ∃ t, z.T = t := ⟨_, rfl⟩
   obtain ⟨yy, hyy⟩ : ∃ t, z.y = t := ⟨_, rfl⟩
   have HZ := Lib.hid (show encFv z = [.int .i64 t, .iface TT yy] by unfold encFv FvS.u; rw [ht, hTT, hyy])
   have x0' : wr.cell? ⟨g2, j * 2, none⟩ = some (.int .i64 t) := by rw [x0, HZ.out]; rfl
   have x1' : wr.cell? ⟨g2, j * 2 + 1, none⟩ = some (.iface TT yy) := by rw [x1, HZ.out]; rfl
   rw [ht] at HFY HFN
   obtain ⟨q, ⟨z0, -, -, -, -⟩, -, -, -, -⟩ := HFA.out wr hb.out
   rw [HTG.out] at z0
   have hzz := hb.out.size
   have hgr : g < wr.heap.size := by omega
   have hgr2 : ¬ wr.heap.size = g := by omega
   clear x0 x1 hz ht hTT hyy
   go_upto_region 5 with fail
   obtain ⟨bq, hbq⟩ : ∃ b, (!decide (t = tg)) = b := ⟨_, rfl⟩
   go_cut [22] (fun z wx => z = .bool bq ∧ ∃ nq, wx = (wr.alloc (.cells #[.int .i64 t, .iface TT yy] 137)).drewN nq)
   case first =>
    clear HFA HST HTX HIT HR HH HM HTG hX HHX HFY HFN HDL HZ hb
    go_quiet (fail)
    go_wp2_with fail
    go_meet
    exact ⟨by rw [← hbq]; first | rfl | (congr 1; simp), _, rfl⟩
   case rest =>
    obtain ⟨rfl, nq, hwc⟩ := hcut
    have hbc : Below wr.heap.size wr wc := by rw [hwc]; exact below_draws (below_alloc (Below.refl _ _) _) _
    have hzl : wr.heap.size < wc.heap.size := by rw [hwc]; simp
    have KT : Blk wc wr.heap.size 137 #[.int .i64 t, .iface TT yy] := by
     rw [hwc]; exact (Blk.new wr 137 #[.int .i64 t, .iface TT yy]).keep (below_draws (Below.refl _ _) nq)
    have k0 := KT.cell 0
    have k1 := KT.cell 1
    simp at k0 k1
    have hbw : Below w.heap.size w wc := below_trans hb.out hbc
    have HBW := Lib.hid hbw
    by_cases htf : t = tg
    ·have HE := Lib.hid (HFN.out htf)
     obtain rfl : bq = false := by rw [← hbq]; simp [htf]
     have HX2 := Lib.hid (hX.out.belowed hbc)
     clear hbq HFY HFN hwc hbc hbw htf x0' x1' z0 hX hb k0 k1 KT HZ
     go_wp2_with fail
     go_roundw
     case rel => exact ⟨j + 1, by omega, by go_num, by rw [HE.out]; exact HX2.out, HBW.out⟩
     case measure => simp [intOf]; omega
    ·have HE := Lib.hid (HFY.out htf)
     obtain rfl : bq = true := by rw [← hbq]; simp [htf]
     have HX2 := Lib.hid ((hX.out.belowed hbc).belowed (below_alloc (Below.refl _ _) (.cells #[.int .i64 t, .iface TT yy] 137)))
     clear hbq HFY HFN hwc hbc hbw htf x0' x1' z0 hX hb KT
     go_wp2_with (at_builtin; refine app_fv rfl _ _ rfl (fun b => w.heap.size ≤ b) _ _ _ rfl HX2.out wc.heap.size t (.iface TT yy) rfl rfl ?c0 ?c1 HDL.out (wc.heap.size + 1) (by simp) ?_)
     case c0 => simp [go_sem]
     case c1 => simp [go_sem]
     intro g9 cap9 w' hk' hg' hgg hlt'
     have HNew := Lib.hid (show RowN w' (fun b => w.heap.size ≤ b) 137 2 (.slice (some ⟨g9, 0, none⟩) ((fl tg (d.take j)).length + 1) cap9) (fl tg (d.take (j + 1))).length ((fl tg (d.take (j + 1))).flatMap encFv) by
      rw [HE.out, List.flatMap_append, List.length_append]
      have h9 := hk'.imp (N' := fun b => w.heap.size ≤ b) (by intro b _ h; rcases h with h | h <;> omega)
      simpa [HZ.out] using h9)
     have HBE := Lib.hid (show Below w.heap.size w w' from (below_alloc HBW.out _).trans (Below.grown (Below.refl _ _) hg' (by simp; omega) (fun r hr => HX2.out.2 r hr)))
     clear hk' hg' hgg HX2 HE HZ
     go_wp2_with fail
     go_roundw
     case rel => exact ⟨j + 1, by omega, by go_num, HNew.out, HBE.out⟩
     case measure => simp [intOf]; omega
  ·obtain rfl : m = j := by omega
   have hall : d.take m = d := List.take_of_length_le (by rw [HM.out]; exact Nat.le_refl _)
   rw [hall] at hX HHX hcx ⊢
   have HFL := Lib.hid (fl_len tg d)
   have HDL := Lib.hid (show (fl tg d).length ≤ 3000000 by have := HFL.out; rw [HM.out] at this; omega)
   have HCT := Lib.hid (HTX.out wr hb.out)
   have hmm := fun w => HIT.out.method yv w
   have hcc := fun args w => HIT.out.enters args w
   clear hall HTX HR
   go_wp2_with fail
   refine HCT.out.mono ?_
   rintro ee w2 ⟨rfl, hb2⟩
   have HB2 := Lib.hid (below_trans hb.out hb2)
   have HX2 := Lib.hid (hX.out.belowed hb2)
   clear HCT hmm hcc
   go_wp2_with fail
   refine (HST.out w2 HB2.out).mono ?_
   rintro ee w3 ⟨rfl, hb3⟩
   have HB3 := Lib.hid (below_trans HB2.out hb3)
   have HX3 := Lib.hid (HX2.out.belowed hb3)
   clear HST HX2 hX
   cases hq : (O1 == O2) with
   | true =>
    clear HFA
    go_wp2_with fail
    go_ret
    exact ⟨_, fl tg d, rfl, HB3.out, HX3.out, fun _ => rfl, by intro h; rw [hq] at h; cases h⟩
   | false =>
    obtain ⟨q, ⟨z0, -, -, -, -⟩, -, -, -, -⟩ := HFA.out w3 HB3.out
    rw [HTG.out] at z0
    have hz3 := HB3.out.size
    have HX4 := Lib.hid (HX3.out.belowed (below_alloc (Below.refl _ _) (.cells #[.int .i64 tg, .iface T yv] 137)))
    obtain ⟨L, hL⟩ : ∃ L, (fl tg d).length = L := ⟨_, rfl⟩
    rw [hL] at HX4 HDL ⊢
    have HLL := Lib.hid hL
    clear HFA HX3 hL hcx
    go_wp2_with (at_builtin; refine app_fv rfl _ _ rfl (fun b => w.heap.size ≤ b) _ _ _ rfl HX4.out w3.heap.size tg (.iface T yv) rfl rfl ?c0 ?c1 HDL.out (w3.heap.size + 1) (by simp) ?_)
    case c0 => simp [go_sem]
    case c1 => simp [go_sem]
    intro g9 cap9 w' hk' hg' hgg hlt'
    have HL2 := Lib.hid (show (fl tg d ++ [(⟨tg, y, T, yv, h0, h1⟩ : FvS)]).length = L + 1 by rw [List.length_append, HLL.out]; rfl)
    have HS := Lib.hid (i_SortFunc (fl tg d ++ [⟨tg, y, T, yv, h0, h1⟩]) g9 cap9 (fun b => w.heap.size ≤ b) w' (by
     have h9 := hk'.imp (N' := fun b => w.heap.size ≤ b) (by intro b _ h; rcases h with h | h <;> omega)
     rw [HL2.out, List.flatMap_append]
     exact h9) (by rw [HL2.out]; have := HFL.out; rw [HM.out, HLL.out] at this; omega))
    rw [HL2.out] at HS
    have HBE := Lib.hid (show Below w.heap.size w w' from (below_alloc HB3.out _).trans (Below.grown (Below.refl _ _) hg' (by simp; omega) (fun r hr => HX4.out.2 r hr)))
    have HGG := Lib.hid (show w.heap.size ≤ g9 by
     rcases hgg with h | h
     ·exact HX4.out.2 g9 h
     ·omega)
    clear hk' hg' hgg HX4 z0
    go_wp2_with fail
    refine HS.out.mono ?_
    rintro ee w5 ⟨rfl, d', hd1, hd2, hd3, hd4⟩
    have HD := Lib.hid (And.intro hd1 (And.intro hd2 (And.intro hd3 hd4)))
    clear hd1 hd2 hd3 hd4
    go_wp2_with fail
    go_ret
    obtain ⟨hd1, hd2, hd3, hd4⟩ := HD.out
    refine ⟨_, d', rfl, HBE.out.trans (Below.grown (Below.refl _ _) hd4 (by have := HBE.out.size; omega) (fun r hr => by rw [← Option.some.inj hr]; exact HGG.out)), ?_, ?_, fun _ => ⟨hd1, hd2⟩⟩
    rotate_left
    ·intro h; rw [hq] at h; cases h
    have e9 : d'.length = L + 1 := by rw [hd1.length_eq, HL2.out]
    rw [e9]
    rw [HL2.out] at hd3
    exact hd3
end Go.Proofs.YtcjooeklehggaaaGreatDoor
