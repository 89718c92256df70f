/- Chapter 1 of the program: what its functions return. -/
import Derived.Test.YtoeiohhaedabnaaS1
import Derived.Lib.LazyBuf
namespace Go.Proofs.Ytoeiohhaedabnaa
open Go.ChangeShapes Go.WideShapes Go.ChangeAt Go.RowKit M

def dv (a b c : Int) : Value := .agg #[.int .u8 a, .int .u8 b, .int .u8 c]
theorem digitsOf0 (n : Int) (w : World) (h0 : 0 ≤ n) (h1 : n < 128) :
    Calls Try.prog 17 #[.int .i64 n] w fun e w' => e = .returned (.tuple #[dv n 0 0, .int .i64 1]) ∧ Below w.heap.size w w' := by
  go_enter Try.func17, Try.ntmps17
  go_wp2_with fail
  go_rounds 1
  exact bodyPost_ret (v := .tuple #[dv n 0 0, .int .i64 1]) (by simp [results, Try.results17, go_sem, dv]) rfl ⟨rfl, by (repeat (first | exact Below.refl _ _ | apply below_drew | apply below_draws | apply below_alloc | (refine below_trans ?_ (by assumption)) | (refine Below.trans ?_ (by assumption))))⟩
theorem digitsOf1 (n : Int) (w : World) (h0 : 128 ≤ n) (h1 : n < 16384) :
    Calls Try.prog 17 #[.int .i64 n] w fun e w' => e = .returned (.tuple #[dv (128 + n % 128) (n / 128) 0, .int .i64 2]) ∧ Below w.heap.size w w' := by
  have h2 : n / 128 < 128 := by omega
  have hr : n % 128 + 128 = 128 + n % 128 := by omega
  go_enter Try.func17, Try.ntmps17
  go_wp2_with fail
  go_rounds 2
  exact bodyPost_ret (v := .tuple #[dv (128 + n % 128) (n / 128) 0, .int .i64 2]) (by simp [results, Try.results17, go_sem, dv]) rfl ⟨rfl, by (repeat (first | exact Below.refl _ _ | apply below_drew | apply below_draws | apply below_alloc | (refine below_trans ?_ (by assumption)) | (refine Below.trans ?_ (by assumption))))⟩
theorem digitsOf2 (n : Int) (w : World) (h0 : 16384 ≤ n) (h1 : n ≤ 999999) :
    Calls Try.prog 17 #[.int .i64 n] w fun e w' => e = .returned (.tuple #[dv (128 + n % 128) (128 + n / 128 % 128) (n / 128 / 128), .int .i64 3]) ∧ Below w.heap.size w w' := by
  have h2 : 128 ≤ n / 128 := by omega
  have h3 : n / 128 / 128 < 128 := by omega
  have hr : n % 128 + 128 = 128 + n % 128 := by omega
  have hr : n / 128 % 128 + 128 = 128 + n / 128 % 128 := by omega
  go_enter Try.func17, Try.ntmps17
  go_wp2_with fail
  go_rounds 3
  exact bodyPost_ret (v := .tuple #[dv (128 + n % 128) (128 + n / 128 % 128) (n / 128 / 128), .int .i64 3]) (by simp [results, Try.results17, go_sem, dv]) rfl ⟨rfl, by (repeat (first | exact Below.refl _ _ | apply below_drew | apply below_draws | apply below_alloc | (refine below_trans ?_ (by assumption)) | (refine Below.trans ?_ (by assumption))))⟩

theorem numberOf (a b c : Int) (w : World) (a0 : 0 ≤ a) (a1 : a < 256) (b0 : 0 ≤ b) (b1 : b < 256) (c0 : 0 ≤ c) (c1 : c < 256) :
    Calls Try.prog 15 #[dv a b c] w fun e w' => e = .returned (.int .i64 ((c % 128 * 128 + b % 128) * 128 + a % 128)) ∧ Below w.heap.size w w' := by
  unfold dv
  go_enter Try.func15, Try.ntmps15
  go_wp2_with fail
  go_rounds 4
  go_ret
  exact ⟨rfl, by (repeat (first | exact Below.refl _ _ | apply below_drew | apply below_draws | apply below_alloc | (refine below_trans ?_ (by assumption)) | (refine Below.trans ?_ (by assumption))))⟩

theorem isTold_any (n : Int) (w : World) :
    Calls Try.prog 16 #[.int .i64 n] w fun e w' => e = .returned (.bool (M.isTold n)) ∧ w = w' := by
  unfold M.isTold
  go_enter Try.func16, Try.ntmps16
  go_wp2
  all_goals
    go_ret
    exact ⟨by congr 2; simp <;> omega, rfl⟩

theorem copy_any (W : World) (b : Nat) (l : List UInt8) (hle : l.length ≤ 3)
    (hc : ∀ j, j < 3 → (W.cell? ⟨b, j, none⟩).isSome = true) (hf : ∀ j, j < 3 → W.frozen? ⟨b, j, none⟩ = false) :
    (Builtin.copy_ #[48, 9] 3 #[.slice (some ⟨b, 0, none⟩) 3 3, .string (S l)]).run Try.prog W = .ok (goInt l.length) (W.setCells b 0 (l.map fun x => Value.int .u8 (x.toNat : Int))) := by
  have h := run_copy_string (P := Try.prog) W 48 9 3 5 b 0 3 3 (S l) Try.underlying48 (fun w => by kernel_rfl) (by rw [S_size]; exact hle)
    (fun j hj => by rw [S_size] at hj; rw [Nat.zero_add]; exact hc j (by omega)) (fun j hj => by rw [S_size] at hj; rw [Nat.zero_add]; exact hf j (by omega))
  rw [S_size] at h
  exact h
theorem all3 {p : Nat → Prop} (h0 : p 0) (h1 : p 1) (h2 : p 2) : ∀ j, j < 3 → p j := by
  intro j hj
  obtain rfl | rfl | rfl : j = 0 ∨ j = 1 ∨ j = 2 := by omega
  all_goals assumption
theorem copy_1 (W : World) (b : Nat) (x : UInt8) (h0 : (W.cell? ⟨b, 0, none⟩).isSome = true) (h1 : (W.cell? ⟨b, 1, none⟩).isSome = true) (h2 : (W.cell? ⟨b, 2, none⟩).isSome = true)
    (f0 : W.frozen? ⟨b, 0, none⟩ = false) (f1 : W.frozen? ⟨b, 1, none⟩ = false) (f2 : W.frozen? ⟨b, 2, none⟩ = false) :
    (Builtin.copy_ #[48, 9] 3 #[.slice (some ⟨b, 0, none⟩) 3 3, .string (S [x])]).run Try.prog W = .ok (goInt 1) (W.setCell ⟨b, 0, none⟩ (.int .u8 (x.toNat : Int))) :=
  copy_any W b [x] (by simp) (all3 h0 h1 h2) (all3 f0 f1 f2)
theorem copy_2 (W : World) (b : Nat) (x y : UInt8) (h0 : (W.cell? ⟨b, 0, none⟩).isSome = true) (h1 : (W.cell? ⟨b, 1, none⟩).isSome = true) (h2 : (W.cell? ⟨b, 2, none⟩).isSome = true)
    (f0 : W.frozen? ⟨b, 0, none⟩ = false) (f1 : W.frozen? ⟨b, 1, none⟩ = false) (f2 : W.frozen? ⟨b, 2, none⟩ = false) :
    (Builtin.copy_ #[48, 9] 3 #[.slice (some ⟨b, 0, none⟩) 3 3, .string (S [x, y])]).run Try.prog W = .ok (goInt 2) ((W.setCell ⟨b, 0, none⟩ (.int .u8 (x.toNat : Int))).setCell ⟨b, 1, none⟩ (.int .u8 (y.toNat : Int))) :=
  copy_any W b [x, y] (by simp) (all3 h0 h1 h2) (all3 f0 f1 f2)
theorem copy_3 (W : World) (b : Nat) (x y z : UInt8) (h0 : (W.cell? ⟨b, 0, none⟩).isSome = true) (h1 : (W.cell? ⟨b, 1, none⟩).isSome = true) (h2 : (W.cell? ⟨b, 2, none⟩).isSome = true)
    (f0 : W.frozen? ⟨b, 0, none⟩ = false) (f1 : W.frozen? ⟨b, 1, none⟩ = false) (f2 : W.frozen? ⟨b, 2, none⟩ = false) :
    (Builtin.copy_ #[48, 9] 3 #[.slice (some ⟨b, 0, none⟩) 3 3, .string (S [x, y, z])]).run Try.prog W = .ok (goInt 3) (((W.setCell ⟨b, 0, none⟩ (.int .u8 (x.toNat : Int))).setCell ⟨b, 1, none⟩ (.int .u8 (y.toNat : Int))).setCell ⟨b, 2, none⟩ (.int .u8 (z.toNat : Int))) :=
  copy_any W b [x, y, z] (by simp) (all3 h0 h1 h2) (all3 f0 f1 f2)

theorem ext_1 (s : ByteArray) (a : Int) (h : 0 < s.size) (ha : at_ s.data.toList 0 = a) : s.extract 0 1 = S [B8 a] := by
  apply ByteArray.ext; apply Array.toList_inj.1
  rw [Lib.extract_data, S_toList]
  have hl : s.data.toList.length = s.size := by simp
  generalize s.data.toList = l at *
  match l, hl with
  | x :: r, _ => subst ha; simp [at_, B8]
  | [], hl => simp at hl; omega
theorem ext_2 (s : ByteArray) (a b : Int) (h : 1 < s.size) (ha : at_ s.data.toList 0 = a) (hb : at_ s.data.toList 1 = b) : s.extract 0 2 = S [B8 a, B8 b] := by
  apply ByteArray.ext; apply Array.toList_inj.1
  rw [Lib.extract_data, S_toList]
  have hl : s.data.toList.length = s.size := by simp
  generalize s.data.toList = l at *
  match l, hl with
  | x :: y :: r, _ => subst ha hb; simp [at_, B8]
  | [], hl => simp at hl; omega
  | [x], hl => simp at hl; omega
theorem ext_3 (s : ByteArray) (a b c : Int) (h : 2 < s.size) (ha : at_ s.data.toList 0 = a) (hb : at_ s.data.toList 1 = b) (hc : at_ s.data.toList 2 = c) : s.extract 0 3 = S [B8 a, B8 b, B8 c] := by
  apply ByteArray.ext; apply Array.toList_inj.1
  rw [Lib.extract_data, S_toList]
  have hl : s.data.toList.length = s.size := by simp
  generalize s.data.toList = l at *
  match l, hl with
  | x :: y :: z :: r, _ => subst ha hb hc; simp [at_, B8]
  | [], hl => simp at hl; omega
  | [x], hl => simp at hl; omega
  | [x, y], hl => simp at hl; omega

theorem digitsAhead0 (s : ByteArray) (a : Int) (w : World) (hs : s.size ≤ 2000000) (h0 : 0 < s.size) (ha : at_ s.data.toList 0 = a) (h1 : a < 128) :
    Calls Try.prog 14 #[.string s] w fun e w' => e = .returned (.tuple #[dv a 0 0, .int .i64 1, .bool true]) ∧ Below w.heap.size w w' := by
  have B0 := byte_eq s 0 h0
  have g0 := at_lo s.data.toList 0
  have g1 := at_hi s.data.toList 0
  have hx := ext_1 s a h0 ha
  rw [ha] at B0 g0 g1
  clear ha
  have e1 : IntKind.i64.wrap (0 + 1) = 1 := rfl
  have e2 : IntKind.i64.wrap 1 = 1 := rfl
  have hB := B8_nat a g0 g1
  have hcp := copy_1
  have hle : (1 : Int) ≤ s.size := by omega
  go_enter Try.func14, Try.ntmps14
  go_wp2_with fail
  refine wp_loop_rounds 1 ?_
  rw [rounds_succ]
  go_wp2_with fail
  go_region
  all_goals go_wp2
  all_goals exact bodyPost_ret (v := .tuple #[dv a 0 0, .int .i64 1, .bool true]) (by simp [results, Try.results14, go_sem, dv]) rfl ⟨rfl, by (repeat (first | exact Below.refl _ _ | apply below_drew | apply below_draws | apply below_alloc | (refine below_trans ?_ (by assumption)) | (refine Below.trans ?_ (by assumption))))⟩
theorem digitsAhead1 (s : ByteArray) (a b : Int) (w : World) (hs : s.size ≤ 2000000) (h0 : 1 < s.size) (ha : at_ s.data.toList 0 = a) (hb : at_ s.data.toList 1 = b) (h1 : 128 ≤ a) (h2 : b < 128) :
    Calls Try.prog 14 #[.string s] w fun e w' => e = .returned (.tuple #[dv a b 0, .int .i64 2, .bool true]) ∧ Below w.heap.size w w' := by
  have h00 : 0 < s.size := by omega
  have B0 := byte_eq s 0 (by omega)
  have B1 := byte_eq s 1 (by omega)
  have g0 := at_lo s.data.toList 0
  have g1 := at_hi s.data.toList 0
  have k0 := at_lo s.data.toList 1
  have k1 := at_hi s.data.toList 1
  have hx := ext_2 s a b h0 ha hb
  rw [ha] at B0 g0 g1
  rw [hb] at B1 k0 k1
  clear ha hb
  have e1 : IntKind.i64.wrap (1 + 1) = 2 := rfl
  have e2 : IntKind.i64.wrap 2 = 2 := rfl
  have hB := B8_nat a g0 g1
  have hB1 := B8_nat b k0 k1
  have hcp := copy_2
  have hle : (2 : Int) ≤ s.size := by omega
  go_enter Try.func14, Try.ntmps14
  go_wp2_with fail
  refine wp_loop_rounds 2 ?_
  rw [rounds_succ]
  go_wp2_with fail
  rw [rounds_succ]
  go_wp2_with fail
  go_region
  all_goals go_wp2
  all_goals exact bodyPost_ret (v := .tuple #[dv a b 0, .int .i64 2, .bool true]) (by simp [results, Try.results14, go_sem, dv]) rfl ⟨rfl, by (repeat (first | exact Below.refl _ _ | apply below_drew | apply below_draws | apply below_alloc | (refine below_trans ?_ (by assumption)) | (refine Below.trans ?_ (by assumption))))⟩
theorem digitsAhead2 (s : ByteArray) (a b c : Int) (w : World) (hs : s.size ≤ 2000000) (h0 : 2 < s.size) (ha : at_ s.data.toList 0 = a) (hb : at_ s.data.toList 1 = b) (hc : at_ s.data.toList 2 = c) (h1 : 128 ≤ a) (h2 : 128 ≤ b) (h3 : c < 128) :
    Calls Try.prog 14 #[.string s] w fun e w' => e = .returned (.tuple #[dv a b c, .int .i64 3, .bool true]) ∧ Below w.heap.size w w' := by
  have h00 : 0 < s.size := by omega
  have h01 : 1 < s.size := by omega
  have B0 := byte_eq s 0 (by omega)
  have B1 := byte_eq s 1 (by omega)
  have B2 := byte_eq s 2 (by omega)
  have g0 := at_lo s.data.toList 0
  have g1 := at_hi s.data.toList 0
  have k0 := at_lo s.data.toList 1
  have k1 := at_hi s.data.toList 1
  have l0 := at_lo s.data.toList 2
  have l1 := at_hi s.data.toList 2
  have hx := ext_3 s a b c h0 ha hb hc
  rw [ha] at B0 g0 g1
  rw [hb] at B1 k0 k1
  rw [hc] at B2 l0 l1
  clear ha hb hc
  have e1 : IntKind.i64.wrap (2 + 1) = 3 := rfl
  have e2 : IntKind.i64.wrap 3 = 3 := rfl
  have hB := B8_nat a g0 g1
  have hB1 := B8_nat b k0 k1
  have hB2 := B8_nat c l0 l1
  have hcp := copy_3
  have hle : (3 : Int) ≤ s.size := by omega
  go_enter Try.func14, Try.ntmps14
  go_wp2_with fail
  refine wp_loop_rounds 3 ?_
  rw [rounds_succ]
  go_wp2_with fail
  rw [rounds_succ]
  go_wp2_with fail
  rw [rounds_succ]
  go_wp2_with fail
  go_region
  all_goals go_wp2
  all_goals exact bodyPost_ret (v := .tuple #[dv a b c, .int .i64 3, .bool true]) (by simp [results, Try.results14, go_sem, dv]) rfl ⟨rfl, by (repeat (first | exact Below.refl _ _ | apply below_drew | apply below_draws | apply below_alloc | (refine below_trans ?_ (by assumption)) | (refine Below.trans ?_ (by assumption))))⟩
/-- The first three bytes, as far as they are there, all go on. -/
theorem digitsAheadNo (s : ByteArray) (w : World) (hs : s.size ≤ 2000000) (h : ∀ k, k < 3 → k < s.size → 128 ≤ at_ s.data.toList k) :
    Calls Try.prog 14 #[.string s] w fun e w' => e = .returned (.tuple #[dv 0 0 0, .int .i64 0, .bool false]) ∧ Below w.heap.size w w' := by
  have H := Lib.hid h; clear h
  by_cases h0 : 0 < s.size
  · have B0 := byte_eq s 0 (by omega)
    have a0 := H.out 0 (by omega) h0
    generalize at_ s.data.toList 0 = a at B0 a0
    by_cases h1 : 1 < s.size
    · have B1 := byte_eq s 1 (by omega)
      have b0 := H.out 1 (by omega) h1
      generalize at_ s.data.toList 1 = b at B1 b0
      by_cases h2 : 2 < s.size
      · have B2 := byte_eq s 2 (by omega)
        have c0 := H.out 2 (by omega) h2
        generalize at_ s.data.toList 2 = c at B2 c0
        go_enter Try.func14, Try.ntmps14
        go_wp2_with fail
        refine wp_loop_rounds 4 ?_
        rw [rounds_succ]
        go_wp2_with fail
        rw [rounds_succ]
        go_wp2_with fail
        rw [rounds_succ]
        go_wp2_with fail
        rw [rounds_succ]
        go_wp2_with fail
        all_goals exact bodyPost_ret (v := .tuple #[dv 0 0 0, .int .i64 0, .bool false]) (by simp [results, Try.results14, go_sem, dv]) rfl ⟨rfl, by (repeat (first | exact Below.refl _ _ | apply below_drew | apply below_draws | apply below_alloc | (refine below_trans ?_ (by assumption)) | (refine Below.trans ?_ (by assumption))))⟩
      · go_enter Try.func14, Try.ntmps14
        go_wp2_with fail
        refine wp_loop_rounds 3 ?_
        rw [rounds_succ]
        go_wp2_with fail
        rw [rounds_succ]
        go_wp2_with fail
        rw [rounds_succ]
        go_wp2_with fail
        all_goals exact bodyPost_ret (v := .tuple #[dv 0 0 0, .int .i64 0, .bool false]) (by simp [results, Try.results14, go_sem, dv]) rfl ⟨rfl, by (repeat (first | exact Below.refl _ _ | apply below_drew | apply below_draws | apply below_alloc | (refine below_trans ?_ (by assumption)) | (refine Below.trans ?_ (by assumption))))⟩
    · go_enter Try.func14, Try.ntmps14
      go_wp2_with fail
      refine wp_loop_rounds 2 ?_
      rw [rounds_succ]
      go_wp2_with fail
      rw [rounds_succ]
      go_wp2_with fail
      all_goals exact bodyPost_ret (v := .tuple #[dv 0 0 0, .int .i64 0, .bool false]) (by simp [results, Try.results14, go_sem, dv]) rfl ⟨rfl, by (repeat (first | exact Below.refl _ _ | apply below_drew | apply below_draws | apply below_alloc | (refine below_trans ?_ (by assumption)) | (refine Below.trans ?_ (by assumption))))⟩
  · go_enter Try.func14, Try.ntmps14
    go_wp2_with fail
    refine wp_loop_rounds 1 ?_
    rw [rounds_succ]
    go_wp2_with fail
    all_goals exact bodyPost_ret (v := .tuple #[dv 0 0 0, .int .i64 0, .bool false]) (by simp [results, Try.results14, go_sem, dv]) rfl ⟨rfl, by (repeat (first | exact Below.refl _ _ | apply below_drew | apply below_draws | apply below_alloc | (refine below_trans ?_ (by assumption)) | (refine Below.trans ?_ (by assumption))))⟩
end Go.Proofs.Ytoeiohhaedabnaa
