/- Words to bytes: what the program's Bytes returns. -/
import Derived.Test.YtjdkifljlbpmdaaW1w
namespace Go.Proofs.Ytjdkifljlbpmdaa
open Go.RowKit
def by8 (x : BitVec 32) : UInt8 := UInt8.ofNat x.toNat
@[go_sem] theorem wrap8_u (x : BitVec 32) : IntKind.u8.wrap (u x) = y8 (by8 x) := by
  rw [IntKind.wrap_u8]; unfold y8 u by8; simp
@[go_sem] theorem mod256_u (x : BitVec 32) : u x % (256 : Int) = y8 (by8 x) := by
  unfold y8 u by8; simp
@[go_sem] theorem bv_div24 (x : BitVec 32) : u x / (16777216 : Int) = u (x >>> 24) := bv_shr x 24
@[go_sem] theorem bv_div16 (x : BitVec 32) : u x / (65536 : Int) = u (x >>> 16) := bv_shr x 16
@[go_sem] theorem bv_div256 (x : BitVec 32) : u x / (256 : Int) = u (x >>> 8) := bv_shr x 8
def four (x : BitVec 32) : List UInt8 := [by8 (x >>> 24), by8 (x >>> 16), by8 (x >>> 8), by8 x]
def bytesW (l : List (BitVec 32)) : List UInt8 := l.flatMap four
theorem bytesW_length (l : List (BitVec 32)) : (bytesW l).length = 4 * l.length := by
  induction l with
  | nil => rfl
  | cons a r ih =>
    have e : bytesW (a :: r) = four a ++ bytesW r := rfl
    rw [e, List.length_append, ih, List.length_cons]
    have : (four a).length = 4 := rfl
    omega
theorem bytesW_at : ∀ (l : List (BitVec 32)) (k : Nat) (h : k < l.length) (j : Nat), j < 4 → (bytesW l)[4 * k + j]? = (four l[k])[j]?
  | [], _, h, _, _ => absurd h (by simp)
  | a :: r, 0, _, j, hj => by
    simp only [bytesW, List.flatMap_cons, Nat.mul_zero, Nat.zero_add, List.getElem_cons_zero]
    rw [List.getElem?_append_left (by simp [four]; omega)]
  | a :: r, k + 1, h, j, hj => by
    have := bytesW_at r k (by simpa using h) j hj
    simp only [bytesW, List.flatMap_cons, List.getElem_cons_succ] at this ⊢
    rw [List.getElem?_append_right (by simp [four]; omega), ← this]
    congr 1
    simp [four]; omega
theorem u8_info : (Try.prog.info? 5).map (fun i => (i.zero, i.size, i.bytes)) = some (some (.int .u8 0), 1, 1) := by kernel_rfl
set_option maxHeartbeats 400000 in
theorem bytes_big (A : Option Addr) (n c : Nat) (w : World) (h : 2000 < n) (hn : n ≤ 9223372036854775807) :
    Calls Try.prog 20 #[.slice A n c] w fun e w' => e = .returned (.tuple #[.slice none 0 0, .int .i64 1]) ∧ w = w' := by
  go_enter Try.func20, Try.ntmps20
  go_wp2
  go_ret2
  exact ⟨rfl, rfl⟩
set_option maxHeartbeats 1000000 in
theorem bytes_ok (A : Option Addr) (n c : Nat) (l : List (BitVec 32)) (w : World) (hr : Rd w 1 A n c (l.map wv)) (h : n ≤ 2000) :
    Calls Try.prog 20 #[.slice A n c] w fun e w' => ∃ g, e = .returned (.tuple #[.slice (some ⟨g, 0, none⟩) (4 * n) (4 * n), .int .i64 0]) ∧ Blk w' g 5 ((bytesW l).map bv8) ∧ Below w.heap.size w w' := by
  obtain rfl := hr.len
  obtain ⟨i0, hi0, hz0, hz1, hz2⟩ := info_parts u8_info
  have hmk := run_make1 (P := Try.prog) Try.underlying29 hi0 hz0 hz1 rfl hz2 (4 * (l.length : Int)) (4 * l.length) (by omega) (by omega) (by omega)
  have hd : decide (2000 < (l.length : Int)) = false := by simp; omega
  go_enter Try.func20, Try.ntmps20
  go_wp2
  go_loopw [5, 6, 16] (fun _ _ i wr => ∃ k : Nat, k ≤ l.length ∧ i = .int .i64 k ∧ Blk wr w.heap.size 5 (((bytesW l).map bv8).take (4 * k) ++ reps (4 * l.length - 4 * k) (.int .u8 0)) ∧ Below w.heap.size w wr) (fun _ _ i _ => l.length - (intOf i).toNat)
  case atStart => exact ⟨0, by omega, rfl, by simpa using Blk.new w _ _, (Below.refl _ _).alloc (Nat.le_refl _) _⟩
  case round =>
    obtain ⟨k, hk, rfl, hblk, hbel⟩ := hrel
    by_cases hlt : k < l.length
    · obtain ⟨b, off, rfl, hbl, hcell⟩ := hr.addr (by simp; omega)
      have h0 : wr.cell? ⟨b, off + k, none⟩ = some (.int .u32 (u (l[k]'(by omega)))) := (hbel.cell (p := ⟨b, off + k, none⟩) hbl).trans (hcell k _ (by rw [List.getElem?_map, List.getElem?_eq_getElem (by omega)]; rfl))
      have hL : ((bytesW l).map bv8).length = 4 * l.length := by rw [List.length_map, bytesW_length]
      have at0 : ((bytesW l).map bv8)[4 * k]? = some (.int .u8 (y8 (by8 (l[k] >>> 24)))) := by rw [List.getElem?_map]; have := bytesW_at l k hlt 0 (by omega); rw [Nat.add_zero] at this; rw [this]; rfl
      have at1 : ((bytesW l).map bv8)[4 * k + 1]? = some (.int .u8 (y8 (by8 (l[k] >>> 16)))) := by rw [List.getElem?_map, bytesW_at l k hlt 1 (by omega)]; rfl
      have at2 : ((bytesW l).map bv8)[4 * k + 2]? = some (.int .u8 (y8 (by8 (l[k] >>> 8)))) := by rw [List.getElem?_map, bytesW_at l k hlt 2 (by omega)]; rfl
      have at3 : ((bytesW l).map bv8)[4 * k + 3]? = some (.int .u8 (y8 (by8 l[k]))) := by rw [List.getElem?_map, bytesW_at l k hlt 3 (by omega)]; rfl
      have s0 := hblk.put (4 * k) (.int .u8 (y8 (by8 (l[k] >>> 24))))
      rw [fill_step (by omega) at0] at s0
      have s1 := s0.put (4 * k + 1) (.int .u8 (y8 (by8 (l[k] >>> 16))))
      rw [fill_step (by omega) at1] at s1
      have s2 := s1.put (4 * k + 1 + 1) (.int .u8 (y8 (by8 (l[k] >>> 8))))
      rw [fill_step (by omega) at2] at s2
      have s3 := s2.put (4 * k + 1 + 1 + 1) (.int .u8 (y8 (by8 l[k])))
      rw [fill_step (by omega) at3] at s3
      have c0 := (hblk.cell (4 * k)).trans (fill_at (by omega) (by omega))
      have c1 := (s0.cell (4 * k + 1)).trans (fill_at (by omega) (by omega))
      have c2 := (s1.cell (4 * k + 1 + 1)).trans (fill_at (by omega) (by omega))
      have c3 := (s2.cell (4 * k + 1 + 1 + 1)).trans (fill_at (by omega) (by omega))
      have f0 := hblk.frozen (4 * k)
      have f1 := s0.frozen (4 * k + 1)
      have f2 := s1.frozen (4 * k + 1 + 1)
      have f3 := s2.frozen (4 * k + 1 + 1 + 1)
      have H3 := Lib.hid s3
      clear s0 s1 s2 s3 at0 at1 at2 at3 hL hblk hcell
      have n0 : ((4 : Int) * k).toNat = 4 * k := by omega
      have n1 : ((4 : Int) * k + 1).toNat = 4 * k + 1 := by omega
      have n2 : ((4 : Int) * k + 2).toNat = 4 * k + 1 + 1 := by omega
      have n3 : ((4 : Int) * k + 3).toNat = 4 * k + 1 + 1 + 1 := by omega
      go_wp2
      go_roundw
      case rel => exact ⟨k + 1, by omega, by go_num, H3.out, (((hbel.setCell (p := ⟨w.heap.size, 4 * k, none⟩) (Nat.le_refl _) _).setCell (p := ⟨w.heap.size, 4 * k + 1, none⟩) (Nat.le_refl _) _).setCell (p := ⟨w.heap.size, 4 * k + 1 + 1, none⟩) (Nat.le_refl _) _).setCell (p := ⟨w.heap.size, 4 * k + 1 + 1 + 1, none⟩) (Nat.le_refl _) _⟩
      case measure => simp [intOf]; omega
    · obtain rfl : k = l.length := by omega
      have hb2 := hblk
      rw [fill_end (by rw [List.length_map, bytesW_length])] at hb2
      go_wp2
      go_ret2
      exact ⟨w.heap.size, rfl, hb2, hbel⟩
end Go.Proofs.Ytjdkifljlbpmdaa
