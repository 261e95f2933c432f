/- Contract: brief, a value whose text is its rank. -/
import Derived.Test.YtpbloplbpkedcaaIm9
import Derived.Laws.BytesArg
namespace Go.Proofs.Ytpbloplbpkedcaa
open Go Go.RowKit Go.Sort

theorem be4_nums {r : Nat} (h : r < 4294967296) : strOfNums [(r : Int) / 16777216, (r : Int) / 65536 % 256, (r : Int) / 256 % 256, (r : Int) % 256] = ba (be4 r) := by
  have h1 : r / 16777216 % 256 = r / 16777216 := Nat.mod_eq_of_lt (by omega)
  have e1 : ((r : Int) / 16777216).toNat = r / 16777216 := by omega
  have e2 : ((r : Int) / 65536 % 256).toNat = r / 65536 % 256 := by omega
  have e3 : ((r : Int) / 256 % 256).toNat = r / 256 % 256 := by omega
  have e4 : ((r : Int) % 256).toNat = r % 256 := by omega
  unfold be4 ba strOfNums
  rw [h1]
  simp [e1, e2, e3, e4]
set_option maxRecDepth 100000 in
set_option maxHeartbeats 4000000 in
theorem pBrief_any (k n : Int) (s : ByteArray) (r : Nat) (w : World) (hr : r < 4294967296) :
    Calls Try.prog 80 #[.agg #[.int .i64 k, .int .i64 n, .string s], .int .i64 (r : Int)] w fun e w' => e = .returned (.agg #[.int .i64 k, .int .i64 n, .string (ba (be4 r))]) ∧ Below w.heap.size w w' := by
  have hq : ((((w.alloc (.cells #[.int .i64 k, .int .i64 n, .string s] 23)).alloc (.cells #[.int .i64 0, .int .i64 0, .string ⟨#[]⟩] 23)).alloc (.cells #[.int .u8 ((r : Int) / 16777216), .int .u8 ((r : Int) / 65536 % 256), .int .u8 ((r : Int) / 256 % 256), .int .u8 ((r : Int) % 256)] 163))).heap[w.heap.size + 1 + 1]? = some (.cells #[.int .u8 ((r : Int) / 16777216), .int .u8 ((r : Int) / 65536 % 256), .int .u8 ((r : Int) / 256 % 256), .int .u8 ((r : Int) % 256)] 163 (0, 0)) := by
    have := heap_alloc_new ((w.alloc (.cells #[.int .i64 k, .int .i64 n, .string s] 23)).alloc (.cells #[.int .i64 0, .int .i64 0, .string ⟨#[]⟩] 23)) (.cells #[.int .u8 ((r : Int) / 16777216), .int .u8 ((r : Int) / 65536 % 256), .int .u8 ((r : Int) / 256 % 256), .int .u8 ((r : Int) % 256)] 163)
    simpa using this
  have hcv := run_convert_bytes_arg (P := Try.prog) ((((w.alloc (.cells #[.int .i64 k, .int .i64 n, .string s] 23)).alloc (.cells #[.int .i64 0, .int .i64 0, .string ⟨#[]⟩] 23)).alloc (.cells #[.int .u8 ((r : Int) / 16777216), .int .u8 ((r : Int) / 65536 % 256), .int .u8 ((r : Int) / 256 % 256), .int .u8 ((r : Int) % 256)] 163))) 53 5 Try.underlying53 Try.underlying5 (w.heap.size + 1 + 1) 0 4 4 [(r : Int) / 16777216, (r : Int) / 65536 % 256, (r : Int) / 256 % 256, (r : Int) % 256] rfl (fun i hi => by
    rw [Nat.zero_add]
    simp only [World.cell?, hq]
    match i, hi with
    | 0, _ => rfl
    | 1, _ => rfl
    | 2, _ => rfl
    | 3, _ => rfl) 9 Try.underlying9
  rw [be4_nums hr] at hcv
  clear hq
  go_enter Try.func80, Try.ntmps80
  go_wp2_with fail
  refine wp_loop_rounds 5 ?_
  rw [rounds_succ]
  go_wp2
  rw [rounds_succ]
  go_wp2
  rw [rounds_succ]
  go_wp2
  rw [rounds_succ]
  go_wp2
  rw [rounds_succ]
  go_wp2
  refine bodyPost_ret (v := .agg #[.int .i64 k, .int .i64 n, .string (ba (be4 r))]) (by simp [results, Try.results80, go_sem]) rfl ⟨rfl, ?_⟩
  exact (((Below.refl _ _).alloc (Nat.le_refl _) _).alloc (by simp) _).alloc (by simp; omega) _
end Go.Proofs.Ytpbloplbpkedcaa
