/- Small lemmas that all texts of this seat use: endings, worlds, the reading of a slice of bytes. -/
import Derived.Test.YtoeiohhaedabnaaRows
import Derived.Test.YtoeiohhaedabnaaM1
import Derived.WalkKit
import Derived.ProofKit
import Derived.OpenShut
import Derived.ShutString
import Derived.ChangeOld
import Derived.Below
import Derived.Outline
import Derived.Lib.Hide
import Derived.WalkSpells
import Derived.IntWalk
import Derived.WalkLawsBesides
import Derived.Deep.RegionWith
import Derived.Deep.QuietTactic
import Derived.BigQuiet
import Derived.Deep.DeepFit
import Derived.Deep.RegionHeld3
import Derived.Deep.DeepCutAuto
import Derived.OneCell
import Derived.Handy
import Derived.Lib.IndexBytes
import Derived.WalkSmall
import Derived.Laws.BytesArg
namespace Go.Proofs.Ytoeiohhaedabnaa
open Go.ChangeShapes Go.WideShapes Go.ChangeAt Go.RowKit M

theorem ret_i {k : IntKind} {a b : Int} (h : a = b) : Ending.returned (.int k a) = .returned (.int k b) := by rw [h]
theorem ret_b {a b : Bool} (h : a = b) : Ending.returned (.bool a) = .returned (.bool b) := by rw [h]
theorem ret_ib {k : IntKind} {a b : Int} {c d : Bool} (h : a = b) (g : c = d) : Ending.returned (.tuple #[.int k a, .bool c]) = .returned (.tuple #[.int k b, .bool d]) := by rw [h, g]
theorem ret_s {a b : ByteArray} (h : a = b) : Ending.returned (.string a) = .returned (.string b) := by rw [h]
theorem ret_sb {a b : ByteArray} {c d : Bool} (h : a = b) (g : c = d) : Ending.returned (.tuple #[.string a, .bool c]) = .returned (.tuple #[.string b, .bool d]) := by rw [h, g]

theorem ret_isb {k : IntKind} {x y : Int} {a b : ByteArray} {c d : Bool} (e : x = y) (h : a = b) (g : c = d) : Ending.returned (.tuple #[.int k x, .string a, .bool c]) = .returned (.tuple #[.int k y, .string b, .bool d]) := by rw [e, h, g]
theorem bcell {W w1 : World} (hb : Below W.heap.size W w1) : (∀ b o, b < W.heap.size → w1.cell? ⟨b, o, none⟩ = W.cell? ⟨b, o, none⟩) ∧ (∀ b o, b < W.heap.size → w1.frozen? ⟨b, o, none⟩ = W.frozen? ⟨b, o, none⟩) :=
  ⟨fun b o h => hb.cell (p := ⟨b, o, none⟩) h, fun b o h => hb.frozen (p := ⟨b, o, none⟩) h⟩

theorem below_alloc {w X : World} (h : Below w.heap.size w X) (o : Obj) : Below w.heap.size w (X.alloc o) := h.alloc h.size o
theorem below_drew {w X : World} (h : Below w.heap.size w X) : Below w.heap.size w X.drew := h.drew
theorem below_draws {w X : World} (h : Below w.heap.size w X) (n : Nat) : Below w.heap.size w (X.drewN n) := below_drewN h n
theorem below_lt {w w2 : World} {o : Obj} (h : Below (w.alloc o).heap.size (w.alloc o) w2) : w.heap.size < w2.heap.size := by have := h.size; simp at this; omega
theorem below_trans {w X Y : World} (h : Below w.heap.size w X) (k : Below X.heap.size X Y) : Below w.heap.size w Y := h.trans (k.mono h.size)

theorem own : ownKnob Try.prog.godebug = none := by kernel_rfl
theorem laidOut : laidOutB Try.prog = true := by kernel_rfl

/-- A string out of its bytes. -/
def S (l : List UInt8) : ByteArray := ⟨l.toArray⟩
theorem S_toList (l : List UInt8) : (S l).data.toList = l := rfl
theorem S_of (s : ByteArray) : S s.data.toList = s := rfl
theorem S_append (a b : List UInt8) : S a ++ S b = S (a ++ b) := by
  apply ByteArray.ext; simp [S, ByteArray.data_append]
theorem S_size (l : List UInt8) : (S l).size = l.length := by simp [S, ByteArray.size]



/-- Is it the cell of a byte? Which? -/
def cellIs : Option Value → Bool | some (.int .u8 _) => true | _ => false
def cellB : Option Value → UInt8 | some (.int .u8 x) => B8 x | _ => 0
theorem cellIs_some (x : Int) : cellIs (some (.int .u8 x)) = true := rfl
theorem cellB_some (x : Int) : cellB (some (.int .u8 x)) = B8 x := rfl
/-- 'string([]byte{x})' behind the slice's making, in whatever world that has the cell. -/
theorem cellIs_out {o : Option Value} (h : cellIs o = true) : ∃ x, o = some (.int .u8 x) := by
  unfold cellIs at h; split at h
  · exact ⟨_, rfl⟩
  · cases h
theorem conv1 (W : World) (b c : Nat) (h : cellIs (W.cell? ⟨b, 0, none⟩) = true) :
    Sem.run Try.prog (convert 48 9 (.slice (some ⟨b, 0, none⟩) 1 c)) W = .ok (.string (S [cellB (W.cell? ⟨b, 0, none⟩)])) W := by
  obtain ⟨x, hx⟩ := cellIs_out h
  rw [run_convert_bytes_arg (P := Try.prog) W 48 5 Try.underlying48 Try.underlying5 b 0 1 c [x] rfl (fun i hi => by
    obtain rfl : i = 0 := by omega
    simpa using hx) 9 Try.underlying9, hx]
  rfl
theorem conv2 (W : World) (b c : Nat) (h : cellIs (W.cell? ⟨b, 0, none⟩) = true) (h1 : cellIs (W.cell? ⟨b, 1, none⟩) = true) :
    Sem.run Try.prog (convert 48 9 (.slice (some ⟨b, 0, none⟩) 2 c)) W = .ok (.string (S [cellB (W.cell? ⟨b, 0, none⟩), cellB (W.cell? ⟨b, 1, none⟩)])) W := by
  obtain ⟨x, hx⟩ := cellIs_out h
  obtain ⟨y, hy⟩ := cellIs_out h1
  rw [run_convert_bytes_arg (P := Try.prog) W 48 5 Try.underlying48 Try.underlying5 b 0 2 c [x, y] rfl (fun i hi => by
    obtain rfl | rfl : i = 0 ∨ i = 1 := by omega
    · simpa using hx
    · simpa using hy) 9 Try.underlying9, hx, hy]
  rfl
theorem conv3 (W : World) (b c : Nat) (h : cellIs (W.cell? ⟨b, 0, none⟩) = true) (h1 : cellIs (W.cell? ⟨b, 1, none⟩) = true) (h2 : cellIs (W.cell? ⟨b, 2, none⟩) = true) :
    Sem.run Try.prog (convert 48 9 (.slice (some ⟨b, 0, none⟩) 3 c)) W = .ok (.string (S [cellB (W.cell? ⟨b, 0, none⟩), cellB (W.cell? ⟨b, 1, none⟩), cellB (W.cell? ⟨b, 2, none⟩)])) W := by
  obtain ⟨x, hx⟩ := cellIs_out h
  obtain ⟨y, hy⟩ := cellIs_out h1
  obtain ⟨z, hz⟩ := cellIs_out h2
  rw [run_convert_bytes_arg (P := Try.prog) W 48 5 Try.underlying48 Try.underlying5 b 0 3 c [x, y, z] rfl (fun i hi => by
    obtain rfl | rfl | rfl : i = 0 ∨ i = 1 ∨ i = 2 := by omega
    · simpa using hx
    · simpa using hy
    · simpa using hz) 9 Try.underlying9, hx, hy, hz]
  rfl

theorem byte_eq (s : ByteArray) (k : Nat) (h : k < s.size) : ((s[k]'h).toNat : Int) = at_ s.data.toList k := by
  have h' : k < s.data.toList.length := by simpa using h
  have : s.data.toList.getD k 0 = s[k] := by rw [List.getD_eq_getElem?_getD, List.getElem?_eq_getElem h']; rfl
  unfold at_; rw [this]
theorem from_eq (s : ByteArray) (k : Nat) : s.extract k s.size = S (s.data.toList.drop k) := by
  apply ByteArray.ext; apply Array.toList_inj.1
  rw [Lib.extract_to_end]; rfl
theorem cat_run (a b : List UInt8) (h : a.length + b.length ≤ 4611686018427387904) (w : World) : (Op.stringOp .add (S a) (S b)).run Try.prog w = .ok (.string (S (a ++ b))) w := by
  rw [run_string_add_sum, S_append]
  rw [S_size, S_size]; omega

def IsRow (k : IntKind) (w : World) (a : Option Addr) (len cap : Nat) (zs : List Int) : Prop :=
  (a = none ∧ len = 0 ∧ cap = 0 ∧ zs = []) ∨
  ∃ x, a = some x ∧ len ≤ cap ∧ cap ≤ maxLen ∧ zs.length = cap ∧ (∀ i, i < zs.length → w.cell? (x.add i) = some (.int k (zs.getD i 0))) ∧ ∀ n ∈ zs, (Lit.int k n).wf = true
end Go.Proofs.Ytoeiohhaedabnaa
