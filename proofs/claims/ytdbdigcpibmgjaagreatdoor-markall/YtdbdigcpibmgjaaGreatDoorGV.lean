/- Texts that belong together: what the functions of the program and of the statements return. -/
import Derived.Test.YtdbdigcpibmgjaaGreatDoorGX
import Derived.Test.YtdbdigcpibmgjaaGreatDoorGA
import Derived.Deep.AppendSrc
import Derived.Laws.IdiomCopy
import Derived.Lib.EndianMore
import Derived.Test.YtdbdigcpibmgjaaGreatDoorRows
import Derived.Test.YtdbdigcpibmgjaaGreatDoorGE
import Derived.Test.YtdbdigcpibmgjaaGreatDoorGF
/- Bytes of the call's own that may be appended to, marked or not. Nothing of the program. -/
namespace Go.Proofs.YtdbdigcpibmgjaaGreatDoor
open Go.RowKit
/-- a slice that reads as the bytes l, its block base's or newer, and all of its room may be written -/
structure Room (w : World) (base : Nat) (A : Option Addr) (n c : Nat) (l : List UInt8) : Prop where
  rd : Rd w 1 A n c (l.map bv8)
  nil : A = none → c = 0
  new : ∀ a : Addr, A = some a → base ≤ a.block ∧ a.block < w.heap.size
  free : ∃ g, A = some ⟨g, 0, none⟩ ∧ ∀ j, j < c → (w.cell? ⟨g, j, none⟩).isSome = true ∧ w.frozen? ⟨g, j, none⟩ = false
theorem run_str_room {P : Program} {src dst e : TypeId} (hs : P.underlying src = some .string) (hd : P.underlying dst = some (.slice e)) (he : P.underlying e = some (.int .u8)) (w : World) (l : List UInt8) (hl : l.length ≤ maxLen) :
    ∃ c w', (convert src dst (.string (str l))).run P w = .ok (.slice (some ⟨w.heap.size, 0, none⟩) l.length c) w' ∧ Room w' w.heap.size (some ⟨w.heap.size, 0, none⟩) l.length c l ∧ Below w.heap.size w w' ∧ w'.heap.size = w.heap.size + 1 := by
  obtain ⟨c, w', hrun, hr, hb, hz⟩ := run_str_bytes (P := P) hs hd he w l hl
  refine ⟨c, w', hrun, ⟨hr, fun h => (by cases h), fun a h => ?_, w.heap.size, rfl, ?_⟩, hb, hz⟩
  · cases h
    exact ⟨Nat.le_refl _, by rw [hz]; exact Nat.lt_succ_self _⟩
  · have h := run_bytes_of_string (P := P) w src dst e (str l) hs hd he
    rw [hrun] at h
    injection h with h1 h2
    injection h1 with _ _ h3
    subst h2
    intro j hj
    have hH : (w.drew.alloc (.cells (bytesRow (str l) (grownCap w (str l).size 0 e)) e ((bytesRow (str l) (grownCap w (str l).size 0 e)).size, (bytesRow (str l) (grownCap w (str l).size 0 e)).size + 1))).heap[w.heap.size]? = some (.cells (bytesRow (str l) (grownCap w (str l).size 0 e)) e ((bytesRow (str l) (grownCap w (str l).size 0 e)).size, (bytesRow (str l) (grownCap w (str l).size 0 e)).size + 1)) := heap_alloc_new w.drew _
    have hsz : (bytesRow (str l) (grownCap w (str l).size 0 e)).size = c := by
      have hge := grownCap_ge w (str l).size 0 e
      unfold bytesRow
      simp only [Array.size_append, Array.size_map, Array.size_replicate]
      rw [← h3]
      have : (str l).data.size = (str l).size := rfl
      omega
    constructor
    · unfold World.cell?
      simp only
      rw [hH]
      simp only
      rw [Array.getElem?_eq_getElem (by rw [hsz]; exact hj)]; rfl
    · unfold World.frozen?
      simp only
      rw [hH]
      simp only [Bool.and_eq_false_iff, decide_eq_false_iff_not]
      left
      rw [hsz]; omega
section
variable {P : Program}
/-- appending to such bytes: what is known behind it -/
theorem run_append_by {t tx ty e : TypeId} {i : TypeInfo} {base : Nat} (ht : P.underlying t = some (.slice e)) (hi : P.info? e = some i) (hz : i.zero = some (.int .u8 0)) (hs1 : i.size = 1) (hb1 : i.bytes = 1)
    {w : World} {A : Option Addr} {n c : Nat} {l m : List UInt8} (hR : Room w base A n c l) (x : Value) (hx : Src P 1 tx x m.length (m.map bv8) w) (hbase : base ≤ w.heap.size) (hlen : n + m.length ≤ 140737488355328) :
    ∃ A' c' w', (Builtin.append_ #[t, tx] ty #[.slice A n c, x]).run P w = .ok (.slice A' (n + m.length) c') w' ∧ Rd w' 1 A' (n + m.length) c' ((l ++ m).map bv8) ∧ (A' = none → c' = 0) ∧ (∀ a : Addr, A' = some a → base ≤ a.block ∧ a.block < w'.heap.size) ∧ Below base w w' := by
  obtain ⟨g, rfl, hfree⟩ := hR.free
  have hnl := hR.rd.len
  have hnc := hR.rd.2.1
  have hcm := hR.rd.2.2.1
  by_cases hroom : n + m.length ≤ c
  · have hnew := hR.new _ rfl
    have hml : (m.map bv8).length = m.length := by simp
    have h := run_append_room_src (P := P) w t tx ty e i ht hi g 0 n c x m.length (m.map bv8) (by rw [hs1]; exact hx) hroom (fun j hj => by rw [hs1]; have := (hfree (n + j) (by omega)).1; simpa using this) (fun j hj => by rw [hs1]; have := (hfree (n + j) (by omega)).2; simpa using this)
    rw [hs1] at h
    simp only [Nat.zero_add, Nat.mul_one] at h
    have hbl := Lib.below_setCells_w (B := base) (g := g) hnew.1 (m.map bv8) n w
    refine ⟨_, c, _, h, ⟨by simp [hnl], by omega, hcm, fun _ => ⟨g, 0, rfl, fun j v hv => ?_⟩⟩, fun q => (by cases q), fun a q => (by cases q; exact ⟨hnew.1, Nat.lt_of_lt_of_le hnew.2 hbl.size⟩), hbl⟩
    rw [List.map_append] at hv
    rw [Nat.zero_add]
    by_cases hj : j < n
    · rw [List.getElem?_append_left (by simp; omega)] at hv
      rw [World.cell?_setCells_out g (m.map bv8) n w ⟨g, j, none⟩ (fun _ _ => .inl hj)]
      obtain ⟨b', off', e1, hc'⟩ := hR.rd.2.2.2 (by simp; omega)
      injection e1 with e1
      injection e1 with e1 e2
      subst e1; subst e2
      have := hc' j v hv
      rwa [Nat.zero_add] at this
    · rw [List.getElem?_append_right (by simp; omega)] at hv
      have hjm : j - (l.map bv8).length < (m.map bv8).length := (List.getElem?_eq_some_iff.1 hv).1
      have hjm' : j - n < (m.map bv8).length := by simpa [hnl] using hjm
      have := World.cell?_setCells_in g (m.map bv8) n w (fun j' hj' => (hfree (n + j') (by simp at hj'; omega)).1) (j - n) hjm'
      rw [show n + (j - n) = j by omega] at this
      rw [this, ← hv]
      simp only [List.length_map, ← hnl]
      exact (List.getElem?_eq_getElem hjm').symm
  · have hold : (Builtin.firstCells i.size n (.slice (some ⟨g, 0, none⟩) n c)).run P w.drew = .ok (l.map bv8).toArray w.drew := by
      rw [hs1]
      refine run_firstCells_some w.drew 1 n ⟨g, 0, none⟩ n c (l.map bv8) (by simp [hnl]) (fun j u hj => ?_)
      obtain ⟨b', off', e1, hc'⟩ := hR.rd.at hj
      injection e1 with e1
      injection e1 with e1 e2
      subst e1; subst e2
      have spot : (⟨g, 0, none⟩ : Addr).add j = ⟨g, 0 + j, none⟩ := by unfold Addr.add; split <;> simp_all
      rw [spot]; exact hc'
    have hfit : Builtin.nextslicecap (n + m.length) c * i.bytes ≤ 281474976710656 := by
      rw [hb1]
      have := nextslicecap_le (need := n + m.length) (old := c) (by omega)
      omega
    have h := run_append_grow_src (P := P) w t tx ty e i (.int .u8 0) ht hi hz (some ⟨g, 0, none⟩) n c (l.map bv8) hold x m.length (m.map bv8) (by rw [hs1]; exact hx) (by omega) (by omega) hfit
    have hge := grownCap_ge w (n + m.length) c e
    have hle := grownCap_le_maxLen w (n + m.length) c e (by unfold maxLen; omega)
    have hbl : Below base w (w.drew.alloc (.cells ((l.map bv8 ++ m.map bv8).toArray ++ Builtin.zeroCells (Value.int .u8 0).cells (grownCap w (n + m.length) c e - (n + m.length))) e)) := (Below.refl base w).drew.alloc hbase _
    refine ⟨_, _, _, h, ⟨by simp [hnl], hge, hle, fun _ => ⟨w.heap.size, 0, rfl, fun j v hv => ?_⟩⟩, fun q => (by cases q), fun a q => (by cases q; exact ⟨hbase, by simp⟩), hbl⟩
    rw [cell_of_row _ w.heap.size (0 + j) _ _ _ (heap_alloc_new w.drew _), Nat.zero_add]
    rw [List.map_append] at hv
    have hj := (List.getElem?_eq_some_iff.1 hv).1
    rw [Array.getElem?_append_left (by simpa using hj)]
    simpa using hv
theorem wpList_append_by {ops : Array Oper} {rest : List Oper} {o : Oper} {a : Act} {Q : Exit → Act → World → Prop} (hgd : o.guard = none) (s x : Operand) (t tx : TypeId)
    (ho : o.op = .call { callee := .builtin .append, args := #[s, x], argTypes := #[t, tx] })
    {e : TypeId} {i : TypeInfo} {base : Nat} (ht : P.underlying t = some (.slice e)) (hi : P.info? e = some i) (hz : i.zero = some (.int .u8 0)) (hs1 : i.size = 1) (hb1 : i.bytes = 1)
    {w : World} {A : Option Addr} {n c : Nat} {l m : List UInt8} (hs : a.eval s = .slice A n c) (hR : Room w base A n c l) (xv : Value) (hxv : a.eval x = xv) (hx : Src P 1 tx xv m.length (m.map bv8) w) (hbase : base ≤ w.heap.size) (hlen : n + m.length ≤ 140737488355328)
    (h : ∀ A' c' w', Rd w' 1 A' (n + m.length) c' ((l ++ m).map bv8) ∧ (A' = none → c' = 0) ∧ (∀ a : Addr, A' = some a → base ≤ a.block ∧ a.block < w'.heap.size) ∧ Below base w w' → wpList P ops Q rest (a.put o.dst (.slice A' (n + m.length) c')) w') :
    wpList P ops Q (o :: rest) a w := by
  obtain ⟨A', c', w', hrun, h2⟩ := run_append_by (P := P) (ty := o.type) ht hi hz hs1 hb1 hR xv hx hbase hlen
  refine wpList_plain hgd fun _ hK => ?_
  unfold Oper.wp execOp
  simp only [ho, resolve, invoke, builtin, Sem.run_bind, Sem.run_pure, Result.andThen_ok, List.map_toArray, List.map_cons, List.map_nil, hs, hxv, hrun]
  exact hK _ _ (h A' c' w' h2)
/-- .. under a guard that is met -/
theorem wpList_append_byW {ops : Array Oper} {rest : List Oper} {o : Oper} {a : Act} {Q : Exit → Act → World → Prop} (s x : Operand) (t tx : TypeId)
    (ho : o.op = .call { callee := .builtin .append, args := #[s, x], argTypes := #[t, tx] }) (hw : Region.wanted o (yielded ops a.tmps) = true)
    {e : TypeId} {i : TypeInfo} {base : Nat} (ht : P.underlying t = some (.slice e)) (hi : P.info? e = some i) (hz : i.zero = some (.int .u8 0)) (hs1 : i.size = 1) (hb1 : i.bytes = 1)
    {w : World} {A : Option Addr} {n c : Nat} {l m : List UInt8} (hs : a.eval s = .slice A n c) (hR : Room w base A n c l) (xv : Value) (hxv : a.eval x = xv) (hx : Src P 1 tx xv m.length (m.map bv8) w) (hbase : base ≤ w.heap.size) (hlen : n + m.length ≤ 140737488355328)
    (h : ∀ A' c' w', Rd w' 1 A' (n + m.length) c' ((l ++ m).map bv8) ∧ (A' = none → c' = 0) ∧ (∀ a : Addr, A' = some a → base ≤ a.block ∧ a.block < w'.heap.size) ∧ Below base w w' → wpList P ops Q rest (a.put o.dst (.slice A' (n + m.length) c')) w') :
    wpList P ops Q (o :: rest) a w := by
  obtain ⟨A', c', w', hrun, h2⟩ := run_append_by (P := P) (ty := o.type) ht hi hz hs1 hb1 hR xv hx hbase hlen
  refine wpList_step fun K hK => ?_
  rw [if_pos hw]
  unfold Oper.wp execOp
  simp only [ho, resolve, invoke, builtin, Sem.run_bind, Sem.run_pure, Result.andThen_ok, List.map_toArray, List.map_cons, List.map_nil, hs, hxv, hrun]
  exact hK _ _ (h A' c' w' h2)
/-- the bytes of a constant, in a row of its own -/
theorem const_room (w : World) (e : TypeId) (l : List UInt8) (hl : l.length ≤ 1000) : Room (w.alloc (.cells (l.map bv8).toArray e (l.length, l.length + 1))) w.heap.size (some ⟨w.heap.size, 0, none⟩) l.length l.length l := by
  have hH : (w.alloc (.cells (l.map bv8).toArray e (l.length, l.length + 1))).heap[w.heap.size]? = some (.cells (l.map bv8).toArray e (l.length, l.length + 1)) := heap_alloc_new w _
  have hc : ∀ j v, (l.map bv8)[j]? = some v → (w.alloc (.cells (l.map bv8).toArray e (l.length, l.length + 1))).cell? ⟨w.heap.size, j, none⟩ = some v := fun j v hv => by
    rw [cell_of_row _ w.heap.size j _ _ _ hH]; simpa using hv
  refine ⟨⟨by simp, Nat.le_refl _, by unfold maxLen; omega, fun _ => ⟨w.heap.size, 0, rfl, fun j v hv => by rw [Nat.zero_add]; exact hc j v hv⟩⟩, fun q => (by cases q), fun a q => (by cases q; exact ⟨Nat.le_refl _, by simp⟩), w.heap.size, rfl, fun j hj => ⟨?_, ?_⟩⟩
  · rw [hc j (bv8 l[j]) (by rw [List.getElem?_map, List.getElem?_eq_getElem hj]; rfl)]; rfl
  · unfold World.frozen?
    simp only
    rw [hH]
    simp only [Bool.and_eq_false_iff, decide_eq_false_iff_not]
    left
    omega
/-- the bytes of a string, as they are appended -/
theorem src_str {w : World} {tx : TypeId} (hk : P.underlying tx = some .string) (m : List UInt8) : Src P 1 tx (.string (str m)) m.length (m.map bv8) w := by
  have h := Src.ofString (P := P) (w := w) hk (str m)
  have e1 : (str m).size = m.length := str_size m
  have e2 : byteCells (str m) = m.map bv8 := by unfold byteCells; simp only [str]; rfl
  rw [e1, e2] at h
  exact h
theorem src_new {w : World} {tx e : TypeId} (hk : P.underlying tx = some (.slice e)) {B : Option Addr} {k d : Nat} {m : List UInt8} (hr : Rd w 1 B k d (m.map bv8)) (hB : B = none → d = 0) : Src P 1 tx (.slice B k d) m.length (m.map bv8) w := by
  obtain rfl := hr.len
  rcases B with _ | ad
  · have hd := hB rfl
    have hm : m = [] := by
      rcases Nat.eq_zero_or_pos m.length with h0 | h0
      · exact List.eq_nil_of_length_eq_zero h0
      · have := hr.2.1; omega
    subst hm; subst hd
    exact Src.ofNil w hk 0
  · refine Src.ofSlice w hk ad m.length d (m.map bv8) (by simp) (fun j u hj => ?_) (bytes_one _)
    obtain ⟨b, off, h1, hc⟩ := hr.at hj
    injection h1 with h1
    subst h1
    have spot : (⟨b, off, none⟩ : Addr).add j = ⟨b, off + j, none⟩ := by unfold Addr.add; split <;> simp_all
    rw [spot]; exact hc
end
end Go.Proofs.YtdbdigcpibmgjaaGreatDoor
/- The statements' own Data and Key. -/
namespace Go.Proofs.YtdbdigcpibmgjaaGreatDoor
open Go.RowKit
/-- a number as a byte -/
def bI (x : Int) : UInt8 := UInt8.ofNat (x % 256).toNat
theorem bI_wrap (x : Int) : IntKind.u8.wrap x = y8 (bI x) := by
  unfold bI
  have h0 := Int.emod_nonneg x (b := 256) (by omega)
  have h1 := Int.emod_lt_of_pos x (b := 256) (by omega)
  rw [y8_ofNat _ (by omega), IntKind.wrap_u8]
  omega
/-- the bytes of a raw thing -/
def dat (q : Rw) (most : Nat) : List UInt8 := (q.tx ++ [bI q.ra, bI q.rb]).take most
theorem dat_le (q : Rw) (most : Nat) : (dat q most).length ≤ most := by unfold dat; rw [List.length_take]; omega
/-- the call hands back bytes of its own -/
def GivesBy (l : List UInt8) (w : World) (e : Ending) (w' : World) : Prop :=
  ∃ A n c, e = .returned (.slice A n c) ∧ Rd w' 1 A n c (l.map bv8) ∧ (A = none → c = 0) ∧ (∀ a : Addr, A = some a → w.heap.size ≤ a.block ∧ a.block < w'.heap.size) ∧ Below w.heap.size w w'
theorem str_take (l : List UInt8) (k : Nat) : (str l).extract 0 k = str (l.take k) := by
  apply ByteArray.ext
  simp [str, ByteArray.data_extract]
/-- .. that may be appended to -/
def GivesRo (l : List UInt8) (w : World) (e : Ending) (w' : World) : Prop :=
  ∃ A n c, e = .returned (.slice A n c) ∧ Room w' w.heap.size A n c l ∧ Below w.heap.size w w'
set_option maxRecDepth 100000 in
set_option maxHeartbeats 1000000 in
theorem data_room (q : Rw) (most : Nat) (w : World) (hq : q.tx.length ≤ 140737488351232) (hm : most ≤ 1000) :
    Calls Tryz.prog 42 #[.agg #[.int .i64 q.kd, .int .i64 q.ra, .int .i64 q.rb, .string (str q.tx)], .int .i64 most] w (GivesRo (dat q most) w) := by
  have h1 := bI_wrap q.ra
  have h2 := bI_wrap q.rb
  have HD : Hid (dat q most = (q.tx ++ [bI q.ra, bI q.rb]).take most) := rfl
  obtain ⟨kd, ra, rb, tx⟩ := q
  simp only at h1 h2 hq HD ⊢
  generalize bI ra = xa at *
  generalize bI rb = xb at *
  have kc : (convert 43 9 (.slice (some ⟨w.heap.size + 1, 0, none⟩) 2 2)).run Tryz.prog ((w.alloc (.cells #[.int .i64 kd, .int .i64 ra, .int .i64 rb, .string (str tx)] 64)).alloc (.cells #[.int .u8 (y8 xa), .int .u8 (y8 xb)] 5)) = .ok (.string (str [xa, xb])) ((w.alloc (.cells #[.int .i64 kd, .int .i64 ra, .int .i64 rb, .string (str tx)] 64)).alloc (.cells #[.int .u8 (y8 xa), .int .u8 (y8 xb)] 5)) := by
    have h := new_rd (w.alloc (.cells #[.int .i64 kd, .int .i64 ra, .int .i64 rb, .string (str tx)] 64)) 5 [xa, xb] (0, 0) (by unfold maxLen; simp)
    rw [show (w.alloc (.cells #[.int .i64 kd, .int .i64 ra, .int .i64 rb, .string (str tx)] 64)).heap.size = w.heap.size + 1 by simp] at h
    exact run_bytes_str Tryz.underlying43 Tryz.underlying5 Tryz.underlying9 h
  have hal := (Below.refl w.heap.size w).alloc (Nat.le_refl _) (.cells #[.int .i64 kd, .int .i64 ra, .int .i64 rb, .string (str tx)] 64)
  have hal2 := (Below.refl (w.alloc (.cells #[.int .i64 kd, .int .i64 ra, .int .i64 rb, .string (str tx)] 64)).heap.size (w.alloc (.cells #[.int .i64 kd, .int .i64 ra, .int .i64 rb, .string (str tx)] 64))).alloc (Nat.le_refl _) (.cells #[.int .u8 (y8 xa), .int .u8 (y8 xb)] 5)
  have hbel := below_step hal hal2
  have hW2 : ((w.alloc (.cells #[.int .i64 kd, .int .i64 ra, .int .i64 rb, .string (str tx)] 64)).alloc (.cells #[.int .u8 (y8 xa), .int .u8 (y8 xb)] 5)).heap.size = w.heap.size + 2 := by simp
  rcases Nat.lt_or_ge most (tx.length + 2) with hl | hl
  rotate_left
  · have q1 : ¬ (most : Int) < (tx.length : Int) + 2 := by omega
    obtain ⟨L, hL⟩ : ∃ L, (tx ++ [xa, xb]).take (tx.length + 2) = L := ⟨_, rfl⟩
    have hx : (str (tx ++ [xa, xb])).extract 0 (tx.length + 2) = str L := by rw [str_take, hL]
    have hLl : L.length ≤ 1000 := by rw [← hL, List.length_take]; omega
    have HE : Hid (dat ⟨kd, ra, rb, tx⟩ most = L) := by show _ = _; rw [HD.out, ← hL, List.take_of_length_le (by simp; omega), List.take_of_length_le (by simp)]
    clear hL
    obtain ⟨c1, w1, hcv, hr1, hb1, hs1⟩ := run_str_room (P := Tryz.prog) Tryz.underlying9 Tryz.underlying43 Tryz.underlying5 ((w.alloc (.cells #[.int .i64 kd, .int .i64 ra, .int .i64 rb, .string (str tx)] 64)).alloc (.cells #[.int .u8 (y8 xa), .int .u8 (y8 xb)] 5)) L (by unfold maxLen; omega)
    rw [hW2] at hcv hr1 hs1
    go_enter Tryz.func42, Tryz.ntmps42
    go_wp2
    go_ret
    rw [HE.out]
    exact ⟨_, _, _, rfl, ⟨hr1.rd, hr1.nil, fun a h => (by cases h; exact ⟨Nat.le_add_right _ _, by rw [hs1]; exact Nat.lt_succ_self _⟩), hr1.free⟩, below_step hbel hb1⟩
  · have q1 : (most : Int) < (tx.length : Int) + 2 := by omega
    have q2 : (most : Int) ≤ (tx.length : Int) + 2 := by omega
    obtain ⟨L, hL⟩ : ∃ L, (tx ++ [xa, xb]).take most = L := ⟨_, rfl⟩
    have hx : (str (tx ++ [xa, xb])).extract 0 most = str L := by rw [str_take, hL]
    have hLl : L.length ≤ 1000 := by rw [← hL, List.length_take]; omega
    have HE : Hid (dat ⟨kd, ra, rb, tx⟩ most = L) := by show _ = _; rw [HD.out, ← hL]
    clear hL
    obtain ⟨c1, w1, hcv, hr1, hb1, hs1⟩ := run_str_room (P := Tryz.prog) Tryz.underlying9 Tryz.underlying43 Tryz.underlying5 ((w.alloc (.cells #[.int .i64 kd, .int .i64 ra, .int .i64 rb, .string (str tx)] 64)).alloc (.cells #[.int .u8 (y8 xa), .int .u8 (y8 xb)] 5)) L (by unfold maxLen; omega)
    rw [hW2] at hcv hr1 hs1
    go_enter Tryz.func42, Tryz.ntmps42
    go_wp2
    go_ret
    rw [HE.out]
    exact ⟨_, _, _, rfl, ⟨hr1.rd, hr1.nil, fun a h => (by cases h; exact ⟨Nat.le_add_right _ _, by rw [hs1]; exact Nat.lt_succ_self _⟩), hr1.free⟩, below_step hbel hb1⟩
theorem data_any (q : Rw) (most : Nat) (w : World) (hq : q.tx.length ≤ 140737488351232) (hm : most ≤ 1000) :
    Calls Tryz.prog 42 #[.agg #[.int .i64 q.kd, .int .i64 q.ra, .int .i64 q.rb, .string (str q.tx)], .int .i64 most] w (GivesBy (dat q most) w) :=
  (data_room q most w hq hm).mono fun _ _ ⟨A, n, c, he, hR, hb⟩ => ⟨A, n, c, he, hR.rd, hR.nil, hR.new, hb⟩
end Go.Proofs.YtdbdigcpibmgjaaGreatDoor
