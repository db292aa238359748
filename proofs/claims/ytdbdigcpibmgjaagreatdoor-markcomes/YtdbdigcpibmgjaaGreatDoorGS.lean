/- Texts that belong together: what the functions of the program and of the statements return. -/
import Derived.Test.YtdbdigcpibmgjaaGreatDoorGP
import Derived.Test.YtdbdigcpibmgjaaGreatDoorRows
import Derived.Test.YtdbdigcpibmgjaaGreatDoorGA
import Derived.Test.YtdbdigcpibmgjaaGreatDoorGA
import Derived.Lib.Bytealg
import Derived.Lib.Hide
import Derived.IntWalk
import Derived.Test.YtdbdigcpibmgjaaGreatDoorGO
import Derived.Shelf.SlSortCmp.SmallK
/- slices.IndexFunc over entries, whatever the closure. -/
namespace Go.Proofs.YtdbdigcpibmgjaaGreatDoor
open Go.RowKit Go.Shelf
set_option maxRecDepth 100000 in
set_option maxHeartbeats 400000 in
theorem indexE_none (A : Option Addr) (c : Nat) (f : Value) (w : World) :
    Calls Tryz.prog 90 #[.slice A 0 c, f] w fun e w' => e = .returned (.int .i64 (-1)) ∧ w' = w := by
  go_enter Tryz.func90, Tryz.ntmps90
  go_wp2
  go_loop [5, 8] (fun _ i => i = .int .i64 0) (fun _ _ => 0)
  case atStart => rfl
  case round =>
    subst hrel
    go_wp2
    go_ret
    exact ⟨rfl, rfl⟩
/-- a closure that tells of each entry whether p holds -/
def TellsE (w : World) (g : Nat) (lb : Array Value) (p : En → Bool) : Prop :=
  PredBelow Tryz.prog g lb (fun x : En × Hd => .agg (kEn.cells x.1 x.2).toArray) (fun x => p x.1) w
theorem indexE_any (A : Option Addr) (n c : Nat) (l : List En) (w : World) (hr : KRd kEn w A n c l) (p : En → Bool) (g : Nat) (lb : Array Value)
    (eg : ∀ args w, (callFunc g args).run Tryz.prog w = .ok (.enter g args) w) (hp : TellsE w g lb p) :
    Calls Tryz.prog 90 #[.slice A n c, .func (.func g) #[] lb] w fun e w' => e = .returned (.int .i64 (plc l p)) ∧ Below w.heap.size w w' := by
  rcases Nat.eq_zero_or_pos n with h0 | h0
  · subst h0
    have hl : l = [] := List.eq_nil_of_length_eq_zero hr.len.symm
    subst hl
    refine (indexE_none A c _ w).mono ?_
    rintro e w' ⟨rfl, rfl⟩
    exact ⟨rfl, Below.refl _ _⟩
  · have hcap := hr.cap
    unfold maxLen at hcap
    obtain ⟨b, off, hs, rfl, rfl, hl, hb, hc, -⟩ := hr.cellsAt h0
    have h := AnyQ.slices_IndexFunc Tryz.lay_IndexFunc_Entry 4 Tryz.isAgg74 Tryz.sizeOf74 (fun x : En × Hd => kEn.cells x.1 x.2) (fun _ => rfl) (fun x => p x.1) g lb eg b off n c hs w hp (by omega) (by omega) hb hc
    rw [← hl, idxBy_plc] at h
    rw [← hl]
    exact h
end Go.Proofs.YtdbdigcpibmgjaaGreatDoor
/- slices.ContainsFunc over blobs, whatever the closure. -/
namespace Go.Proofs.YtdbdigcpibmgjaaGreatDoor
open Go.RowKit Go.Shelf
set_option maxRecDepth 100000 in
set_option maxHeartbeats 400000 in
theorem containsB_none (A : Option Addr) (c : Nat) (f : Value) (w : World) :
    Calls Tryz.prog 46 #[.slice A 0 c, f] w fun e w' => e = .returned (.bool false) ∧ w' = w := by
  go_enter Tryz.func46, Tryz.ntmps46
  go_wp2_with fail
  with_reducible refine (indexB_none A c f _).mono ?_
  rintro e w' ⟨rfl, rfl⟩
  go_wp2
  go_ret
  exact ⟨rfl, rfl⟩
theorem containsB_any (A : Option Addr) (n c : Nat) (l : List Bl) (w : World) (hr : KRd kBl w A n c l) (p : Bl → Bool) (g : Nat) (lb : Array Value)
    (eg : ∀ args w, (callFunc g args).run Tryz.prog w = .ok (.enter g args) w) (hp : TellsB w g lb p) :
    Calls Tryz.prog 46 #[.slice A n c, .func (.func g) #[] lb] w fun e w' => e = .returned (.bool (l.any p)) ∧ Below w.heap.size w w' := by
  rcases Nat.eq_zero_or_pos n with h0 | h0
  · subst h0
    have hl : l = [] := List.eq_nil_of_length_eq_zero hr.len.symm
    subst hl
    refine (containsB_none A c _ w).mono ?_
    rintro e w' ⟨rfl, rfl⟩
    exact ⟨rfl, Below.refl _ _⟩
  · have hcap := hr.cap
    unfold maxLen at hcap
    obtain ⟨b, off, hs, rfl, rfl, hl, hb, hc, -⟩ := hr.cellsAt h0
    have h := AnyQ.slices_ContainsFunc Tryz.lay_ContainsFunc_Blob 4 Tryz.isAgg45 Tryz.sizeOf45 (fun x : Bl × Hd => kBl.cells x.1 x.2) (fun _ => rfl) (fun x => p x.1) g lb eg b off n c hs w hp (by omega) (by omega) hb hc
    rw [← hl, List.take_length, any_fst] at h
    rw [← hl]
    exact h
end Go.Proofs.YtdbdigcpibmgjaaGreatDoor
/- slices.ContainsFunc over entries, whatever the closure. -/
namespace Go.Proofs.YtdbdigcpibmgjaaGreatDoor
open Go.RowKit Go.Shelf
set_option maxRecDepth 100000 in
set_option maxHeartbeats 400000 in
theorem containsE_none (A : Option Addr) (c : Nat) (f : Value) (w : World) :
    Calls Tryz.prog 49 #[.slice A 0 c, f] w fun e w' => e = .returned (.bool false) ∧ w' = w := by
  go_enter Tryz.func49, Tryz.ntmps49
  go_wp2_with fail
  with_reducible refine (indexE_none A c f _).mono ?_
  rintro e w' ⟨rfl, rfl⟩
  go_wp2
  go_ret
  exact ⟨rfl, rfl⟩
theorem containsE_any (A : Option Addr) (n c : Nat) (l : List En) (w : World) (hr : KRd kEn w A n c l) (p : En → Bool) (g : Nat) (lb : Array Value)
    (eg : ∀ args w, (callFunc g args).run Tryz.prog w = .ok (.enter g args) w) (hp : TellsE w g lb p) :
    Calls Tryz.prog 49 #[.slice A n c, .func (.func g) #[] lb] w fun e w' => e = .returned (.bool (l.any p)) ∧ Below w.heap.size w w' := by
  rcases Nat.eq_zero_or_pos n with h0 | h0
  · subst h0
    have hl : l = [] := List.eq_nil_of_length_eq_zero hr.len.symm
    subst hl
    refine (containsE_none A c _ w).mono ?_
    rintro e w' ⟨rfl, rfl⟩
    exact ⟨rfl, Below.refl _ _⟩
  · have hcap := hr.cap
    unfold maxLen at hcap
    obtain ⟨b, off, hs, rfl, rfl, hl, hb, hc, -⟩ := hr.cellsAt h0
    have h := AnyQ.slices_ContainsFunc Tryz.lay_ContainsFunc_Entry 4 Tryz.isAgg74 Tryz.sizeOf74 (fun x : En × Hd => kEn.cells x.1 x.2) (fun _ => rfl) (fun x => p x.1) g lb eg b off n c hs w hp (by omega) (by omega) hb hc
    rw [← hl, List.take_length, any_fst] at h
    rw [← hl]
    exact h
end Go.Proofs.YtdbdigcpibmgjaaGreatDoor
/- strings.Compare. -/
namespace Go.Proofs.YtdbdigcpibmgjaaGreatDoor
open Go.RowKit
set_option maxRecDepth 100000 in
set_option maxHeartbeats 400000 in
theorem compareString_any (a b : ByteArray) (w : World) :
    Calls Tryz.prog 92 #[.string a, .string b] w fun e w' => e = .returned (.int .i64 (Lib.compareBytes a.data.toList b.data.toList)) ∧ w' = w := by
  go_enter Tryz.func92, Tryz.ntmps92
  go_wp2
  rw [run_callFunc_extern Tryz.func134 (by kernel_rfl) (by kernel_rfl) (by kernel_rfl) (e := Extern.BytealgCompare.compare) (by kernel_rfl), Lib.run_compareString]
  simp only [Result.andThen]
  rw [Oper.upon_value]
  go_wp2
  go_ret
  exact ⟨rfl, rfl⟩
set_option maxRecDepth 100000 in
set_option maxHeartbeats 400000 in
theorem compare_any (a b : List UInt8) (w : World) :
    Calls Tryz.prog 53 #[.string (str a), .string (str b)] w fun e w' => e = .returned (.int .i64 (Lib.compareBytes a b)) ∧ w' = w := by
  go_enter Tryz.func53, Tryz.ntmps53
  go_wp2_with ((with_reducible refine (compareString_any _ _ _).mono ?_); rintro e w' ⟨rfl, rfl⟩)
  go_ret
  exact ⟨rfl, rfl⟩
theorem cmp_lt : ∀ a b : List UInt8, decide (Lib.compareBytes a b < 0) = Op.bytesLess a b
  | [], [] => rfl
  | [], _ :: _ => rfl
  | _ :: _, [] => rfl
  | a :: s, b :: t => by
    have ih := cmp_lt s t
    unfold Lib.compareBytes Op.bytesLess
    by_cases h1 : a < b
    · simp [h1]
    · by_cases h2 : b < a
      · have hne : ¬ a = b := fun e => by subst e; exact absurd h2 (UInt8.lt_irrefl a)
        simp [h1, h2, hne]
      · have he : a = b := UInt8.le_antisymm (UInt8.not_lt.1 h2) (UInt8.not_lt.1 h1)
        subst he
        simp [UInt8.lt_irrefl, ih]
end Go.Proofs.YtdbdigcpibmgjaaGreatDoor
/- A row of the call's own, sorted by the library. Nothing of the program. -/
namespace Go.Proofs.YtdbdigcpibmgjaaGreatDoor
open Go.RowKit Go.Shelf Go.Sort
section
variable {α η : Type} [Inhabited α] [Inhabited η] (K : Kin α η)
/-- the cells of a thing with where its slices lie -/
def Kin.cs (x : α × η) : List Value := K.cells x.1 x.2
theorem Kin.flat (d : Array (α × η)) : (flatK K.cs K.size d).toList = K.all d.toList := by
  apply List.ext_getElem?
  intro t
  by_cases h : t < d.size * K.size
  · have hp := K.pos
    have hk : t / K.size < d.toList.length := by
      rw [Array.length_toList]
      exact Nat.div_lt_of_lt_mul (by rwa [Nat.mul_comm])
    have hr : t % K.size < K.size := Nat.mod_lt _ hp
    have e := K.all_at d.toList (t / K.size) hk (t % K.size) hr
    rw [show t / K.size * K.size + t % K.size = t by rw [Nat.mul_comm]; exact Nat.div_add_mod t K.size] at e
    rw [e, Array.getElem?_toList, Array.getElem?_eq_getElem (by simpa using h)]
    have g := get_flatK K.cs K.size d t h
    rw [getElem!_pos _ t (by simpa using h)] at g
    rw [g, getElem!_pos d (t / K.size) (by simpa using hk)]
    have hl : t % K.size < (K.cs d[t / K.size]).length := by unfold Kin.cs; rw [K.len]; exact hr
    rw [getElem!_pos (K.cs d[t / K.size]) (t % K.size) hl]
    simp only [Array.getElem_toList]
    exact (List.getElem?_eq_getElem hl).symm
  · rw [List.getElem?_eq_none (by simpa using h), List.getElem?_eq_none (by rw [K.all_length, Array.length_toList]; omega)]
variable {K}
variable {w : World} {base : Nat} {e : TypeId} {v : Value}
theorem KH.holds {hs : List (α × η)} (h : KH K w base e v hs) (hl : 0 < hs.length) :
    ∃ (g cap : Nat), v = .slice (some ⟨g, 0, none⟩) hs.toArray.size cap ∧ g < w.heap.size ∧ HoldsK K.cs K.size w g 0 hs.toArray := by
  have ho := h.row
  rcases ho.2 with ⟨q1, q2⟩ | ⟨g, cap, cur, q1, q2, q3, q4, q5, q6, q7⟩
  · omega
  · have hlt := (ho.lt g (by rw [q1]; rfl)).2
    refine ⟨g, cap, by rw [q1]; simp, hlt, fun j hj => ?_⟩
    simp only [size_flatK, List.size_toArray] at hj
    refine ⟨?_, by simp [World.frozen?, q3]⟩
    have hf := K.flat hs.toArray
    have e1 : (cur.toList.take (hs.length * K.size))[j]? = (K.all hs)[j]? := by rw [q7]
    rw [List.getElem?_take, if_pos (by omega), Array.getElem?_toList, ← hf, Array.getElem?_toList] at e1
    have hjF : j < (flatK K.cs K.size hs.toArray).size := by simpa using hj
    simp only [World.cell?, q3, Nat.zero_add, id]
    rw [e1, getElem!_pos (flatK K.cs K.size hs.toArray) j hjF]
    exact Array.getElem?_eq_getElem hjF
theorem KH.resort {g cap : Nat} {hs : List (α × η)} (h : KH K w base e v hs) (hv : v = .slice (some ⟨g, 0, none⟩) hs.length cap) (d' : Array (α × η)) (hp : d'.toList.Perm hs) (n : Nat) (os : Array Obj) :
    KH K (sortWorldK K.cs K.size w g 0 n d' os) base e v d'.toList ∧ Below base w (sortWorldK K.cs K.size w g 0 n d' os) ∧ w.heap.size ≤ (sortWorldK K.cs K.size w g 0 n d' os).heap.size ∧ ∀ k, k < w.heap.size → v.ownBlock ≠ some k → (sortWorldK K.cs K.size w g 0 n d' os).heap[k]? = w.heap[k]? := by
  have hlen : d'.toList.length = hs.length := hp.length_eq
  have hsz : w.heap.size ≤ (sortWorldK K.cs K.size w g 0 n d' os).heap.size := by
    unfold sortWorldK grow putRowK
    simp
  have hfar : ∀ k, k < w.heap.size → v.ownBlock ≠ some k → (sortWorldK K.cs K.size w g 0 n d' os).heap[k]? = w.heap[k]? := fun k hk hne => by
    have hkg : g ≠ k := fun q => hne (by rw [hv]; show some g = some k; rw [q])
    unfold sortWorldK grow putRowK putRow mapBlock
    simp only [heap_ahead]
    rw [Array.getElem?_append_left (by simpa using hk), Array.getElem?_modify, if_neg hkg]
  have ho := h.row
  have hbel : Below base w (sortWorldK K.cs K.size w g 0 n d' os) := ⟨rfl, rfl, rfl, hsz, fun k hk => by
    have hgb := (ho.lt g (by rw [hv]; rfl))
    exact hfar k (by omega) (fun q => by rw [hv] at q; injection q with q; have q' : g = k := q; omega)⟩
  refine ⟨⟨?_, fun x hx => ?_⟩, hbel, hsz, hfar⟩
  · rcases ho.2 with ⟨q1, q2⟩ | ⟨g', cap', cur, q1, q2, q3, q4, q5, q6, q7⟩
    · rw [hv] at q1; cases q1
    · rw [hv] at q1
      injection q1 with e1 e2 e3
      injection e1 with e1
      injection e1 with e1
      subst e1; subst e3
      have hF := K.flat d'
      have hFs : (flatK K.cs K.size d').size = hs.length * K.size := by rw [size_flatK, ← hlen, Array.length_toList]
      rw [hlen]
      refine ⟨by rw [K.all_length, hlen], .inr ⟨g, cap, putCells id 0 (flatK K.cs K.size d') cur, hv, q2, ?_, by omega, q5, by simpa [putCells] using q6, ?_⟩⟩
      · have hlt := (ho.lt g (by rw [hv]; rfl)).2
        unfold sortWorldK grow putRowK putRow mapBlock
        simp only [heap_ahead]
        rw [Array.getElem?_append_left (by simpa using hlt), Array.getElem?_modify, if_pos rfl, q3]
        rfl
      · rw [← hF]
        apply List.ext_getElem?
        intro j
        rw [List.getElem?_take, Array.getElem?_toList, Array.getElem?_toList]
        by_cases hj : j < hs.length * K.size
        · have hjc : j < cur.size := by rw [q6]; exact Nat.lt_of_lt_of_le hj (Nat.mul_le_mul_right _ (by omega))
          rw [if_pos hj, Array.getElem?_eq_getElem (by simpa [putCells] using hjc), Array.getElem?_eq_getElem (by rw [hFs]; exact hj)]
          simp only [putCells, Array.getElem_mapIdx]
          rw [if_pos ⟨Nat.zero_le _, by rw [hFs]; omega⟩]
          simp only [id, Nat.sub_zero]
          rw [getElem!_pos _ j (by rw [hFs]; exact hj)]
        · rw [if_neg hj, Array.getElem?_eq_none (by rw [hFs]; omega)]
  · have hx' : x ∈ hs := hp.mem_iff.1 hx
    refine ⟨K.keep (h.deep x hx').1 fun k hk hlt => hfar k hlt ((h.deep x hx').2 k hk).2.2, fun k hk => ?_⟩
    obtain ⟨h1, h2, h3⟩ := (h.deep x hx').2 k hk
    exact ⟨h1, Nat.lt_of_lt_of_le h2 hsz, h3⟩
end
end Go.Proofs.YtdbdigcpibmgjaaGreatDoor
/- slices.SortFunc over blobs by their digests, as the statements' own Store calls it. -/
namespace Go.Proofs.YtdbdigcpibmgjaaGreatDoor
open Go.RowKit Go.Shelf Go.Sort
set_option maxRecDepth 100000 in
set_option maxHeartbeats 400000 in
theorem cmpB_any (x y : Bl × Hd) (W : World) : Calls Tryz.prog 52 #[.agg (kBl.cs x).toArray, .agg (kBl.cs y).toArray] W fun e w' => e = .returned (.int .i64 (Lib.compareBytes x.1.dg y.1.dg)) ∧ ∃ q os', w' = grow (W.drewN q) os' := by
  obtain ⟨⟨d1, t1, p1, m1⟩, ⟨A1, n1, c1⟩⟩ := x
  obtain ⟨⟨d2, t2, p2, m2⟩, ⟨A2, n2, c2⟩⟩ := y
  show Calls Tryz.prog 52 #[.agg #[.string (str d1), .slice A1 n1 c1, .int .i64 p1, .bool m1], .agg #[.string (str d2), .slice A2 n2 c2, .int .i64 p2, .bool m2]] W _
  go_enter Tryz.func52, Tryz.ntmps52
  go_wp2_with fail
  with_reducible refine (compare_any d1 d2 _).mono ?_
  rintro e w' ⟨rfl, rfl⟩
  go_wp2
  go_ret
  exact ⟨rfl, 0, _, by rw [alloc_eq_grow, alloc_eq_grow, grow_grow]; rfl⟩
theorem swoB : SWO (ltOf fun x y : Bl × Hd => Lib.compareBytes x.1.dg y.1.dg) where
  irrefl x := by unfold ltOf; rw [cmp_lt]; exact bl_irrefl _
  trans x y z h1 h2 := by unfold ltOf at *; rw [cmp_lt] at *; exact bl_trans h1 h2
  ntrans x y z h1 h2 := by
    unfold ltOf at *
    rw [cmp_lt] at *
    rcases bl_cases x.1.dg z.1.dg with q | q | q
    · rcases bl_cases x.1.dg y.1.dg with p | p | p
      · rw [h1] at p; cases p
      · rw [← p, q] at h2; cases h2
      · have := bl_trans p q; rw [h2] at this; cases this
    · rw [q]; exact bl_irrefl _
    · exact bl_asymm q
theorem len_any (n : Nat) (W : World) (h : n ≤ 12) : Calls Tryz.prog 70 #[.int .u64 n] W fun e w' => (∃ l : Int, e = .returned (.int .i64 l)) ∧ w' = W :=
  (Any.bits_Len Tryz.lay_Len n W (by omega) (by omega)).mono fun _ _ ⟨he, hw⟩ => ⟨⟨_, he⟩, hw⟩
theorem len_0 (W : World) : Calls Tryz.prog 70 #[.int .u64 0] W fun e w' => (∃ l : Int, e = .returned (.int .i64 l)) ∧ w' = W := len_any 0 W (by omega)
set_option maxRecDepth 100000 in
set_option maxHeartbeats 400000 in
theorem insertB_none (A : Option Addr) (c : Nat) (f : Value) (w : World) :
    Calls Tryz.prog 126 #[.slice A 0 c, .int .i64 0, .int .i64 0, f] w fun e w' => e = .returned (.tuple #[]) ∧ w' = w := by
  go_enter Tryz.func126, Tryz.ntmps126
  go_wp2
  go_loop [8, 9] (fun i _ => i = .int .i64 1) (fun _ _ => 0)
  case atStart => rfl
  case round =>
    subst hrel
    go_wp2
    go_end0
    exact ⟨rfl, rfl⟩
set_option maxRecDepth 100000 in
set_option maxHeartbeats 400000 in
theorem pdqB_none (A : Option Addr) (c : Nat) (k : Int) (f : Value) (w : World) :
    Calls Tryz.prog 91 #[.slice A 0 c, .int .i64 0, .int .i64 0, .int .i64 k, f] w fun e w' => e = .returned (.tuple #[]) ∧ w' = w := by
  go_enter Tryz.func91, Tryz.ntmps91
  go_wp2
  go_loop [1, 2, 12] (fun a b _ => a = .int .i64 0 ∧ b = .int .i64 0) (fun _ _ _ => 0)
  case atStart => exact ⟨rfl, rfl⟩
  case round =>
    obtain ⟨rfl, rfl⟩ := hrel
    go_wp2_with fail
    with_reducible refine (insertB_none A c f _).mono ?_
    rintro e w' ⟨rfl, rfl⟩
    go_wp2
    (try simp only [Exit.inBlock, Exit.then]); refine bodyPost_ret (results_none rfl _ _ _) rfl ?_
    exact ⟨rfl, rfl⟩
set_option maxRecDepth 100000 in
set_option maxHeartbeats 400000 in
theorem sortB_none (A : Option Addr) (c : Nat) (f : Value) (w : World) :
    Calls Tryz.prog 51 #[.slice A 0 c, f] w fun e w' => e = .returned (.tuple #[]) ∧ w' = w := by
  go_enter Tryz.func51, Tryz.ntmps51
  go_wp2_with fail
  with_reducible refine (len_0 _).mono ?_
  rintro e w' ⟨⟨k, rfl⟩, rfl⟩
  go_wp2_with fail
  with_reducible refine (pdqB_none A c k f _).mono ?_
  rintro e w' ⟨rfl, rfl⟩
  go_wp2
  go_end0
  exact ⟨rfl, rfl⟩
/-- what is known behind a sort of a row of the call's own -/
def SortedB (v : Value) (hs : List (Bl × Hd)) (base : Nat) (w w' : World) : Prop :=
  ∃ hs' : List (Bl × Hd), hs'.Perm hs ∧ hs'.Pairwise (fun a b => Op.bytesLess b.1.dg a.1.dg = false) ∧ KH kBl w' base 45 v hs' ∧ Below base w w' ∧ w.heap.size ≤ w'.heap.size ∧ ∀ k, k < w.heap.size → v.ownBlock ≠ some k → w'.heap[k]? = w.heap[k]?
theorem sortB_by (G : Nat) (eg : ∀ args w, (callFunc G args).run Tryz.prog w = .ok (.enter G args) w) (hc : ∀ (x y : Bl × Hd) (W : World), Calls Tryz.prog G #[.agg (kBl.cs x).toArray, .agg (kBl.cs y).toArray] W fun e w' => e = .returned (.int .i64 (Lib.compareBytes x.1.dg y.1.dg)) ∧ ∃ q os', w' = grow (W.drewN q) os') (v : Value) (hs : List (Bl × Hd)) (base : Nat) (w : World) (h : KH kBl w base 45 v hs) (h12 : hs.length ≤ 12) :
    Calls Tryz.prog 51 #[v, .func (.func G) #[] #[]] w fun e w' => e = .returned (.tuple #[]) ∧ SortedB v hs base w w' := by
  rcases Nat.eq_zero_or_pos hs.length with h0 | h0
  · have hl : hs = [] := List.eq_nil_of_length_eq_zero h0
    subst hl
    obtain ⟨A, c, rfl, _⟩ := h.own.new
    refine (sortB_none A c _ w).mono ?_
    rintro e w' ⟨rfl, rfl⟩
    exact ⟨rfl, [], List.Perm.refl _, List.Pairwise.nil, h, Below.refl _ _, Nat.le_refl _, fun _ _ _ => rfl⟩
  · obtain ⟨g, cap, hv, hg, hH⟩ := h.holds h0
    have hcmp : CmpLays Tryz.prog G #[] kBl.cs 4 (fun x y => Lib.compareBytes x.1.dg y.1.dg) g 0 hs.toArray.size w := fun _ _ _ _ x y => hc x y _
    have hcon := AnyQ.slices_SortFunc_small_sorted Tryz.lay_SortFunc_Blob 4 Tryz.isAgg45 Tryz.sizeOf45 kBl.cs (fun _ => rfl) (fun x v hv => kBl.one _ _ v hv) (fun x y => Lib.compareBytes x.1.dg y.1.dg) G #[] swoB g 0 cap hs.toArray w eg hcmp hH hg (by simpa using h12) len_any
    change Calls Tryz.prog 51 _ _ _ at hcon
    have hv' : v = .slice (some ⟨g, 0, none⟩) hs.length cap := by rw [hv]; simp
    rw [← hv] at hcon
    refine hcon.mono ?_
    rintro e w' ⟨rfl, d', n, os, hp, hS, rfl⟩
    obtain ⟨p1, _, p3⟩ := hp
    have hsz : d'.size = hs.length := by simpa using p1
    have hperm : d'.toList.Perm hs := by
      have e1 : (d'.extract 0 hs.toArray.size).toList = d'.toList := by rw [Array.extract_eq_self_of_le (by simp [hsz])]
      have e2 : (hs.toArray.extract 0 hs.toArray.size).toList = hs := by rw [Array.extract_eq_self_of_le (by simp)]
      rw [e1, e2] at p3
      exact p3
    obtain ⟨r1, r0, r2, r3⟩ := h.resort hv' d' hperm n os
    refine ⟨rfl, d'.toList, hperm, ?_, r1, r0, r2, r3⟩
    rw [List.pairwise_iff_getElem]
    intro i j hi hj hij
    simp only [Array.length_toList] at hi hj
    have := hS i j (Nat.zero_le _) hij (by simp; omega)
    unfold ltOf at this
    rw [cmp_lt, getElem!_pos d' i hi, getElem!_pos d' j hj] at this
    simpa using this
theorem sortB_own (v : Value) (hs : List (Bl × Hd)) (base : Nat) (w : World) (h : KH kBl w base 45 v hs) (h12 : hs.length ≤ 12) :
    Calls Tryz.prog 51 #[v, .func (.func 52) #[] #[]] w fun e w' => e = .returned (.tuple #[]) ∧ SortedB v hs base w w' :=
  sortB_by 52 (enters_of Tryz.func52 (by kernel_rfl) rfl) (fun x y W => cmpB_any x y W) v hs base w h h12
end Go.Proofs.YtdbdigcpibmgjaaGreatDoor
/- slices.SortFunc over entries by their keys, as the statements' own Store calls it. -/
namespace Go.Proofs.YtdbdigcpibmgjaaGreatDoor
open Go.RowKit Go.Shelf Go.Sort
set_option maxRecDepth 100000 in
set_option maxHeartbeats 400000 in
theorem cmpE_any (x y : En × Hd) (W : World) : Calls Tryz.prog 55 #[.agg (kEn.cs x).toArray, .agg (kEn.cs y).toArray] W fun e w' => e = .returned (.int .i64 (Lib.compareBytes x.1.ky y.1.ky)) ∧ ∃ q os', w' = grow (W.drewN q) os' := by
  obtain ⟨⟨d1, t1, p1, m1⟩, ⟨A1, n1, c1⟩⟩ := x
  obtain ⟨⟨d2, t2, p2, m2⟩, ⟨A2, n2, c2⟩⟩ := y
  show Calls Tryz.prog 55 #[.agg #[.string (str d1), .slice A1 n1 c1, .int .i64 p1, .int .i64 m1], .agg #[.string (str d2), .slice A2 n2 c2, .int .i64 p2, .int .i64 m2]] W _
  go_enter Tryz.func55, Tryz.ntmps55
  go_wp2_with fail
  with_reducible refine (compare_any d1 d2 _).mono ?_
  rintro e w' ⟨rfl, rfl⟩
  go_wp2
  go_ret
  exact ⟨rfl, 0, _, by rw [alloc_eq_grow, alloc_eq_grow, grow_grow]; rfl⟩
theorem swoE : SWO (ltOf fun x y : En × Hd => Lib.compareBytes x.1.ky y.1.ky) where
  irrefl x := by unfold ltOf; rw [cmp_lt]; exact bl_irrefl _
  trans x y z h1 h2 := by unfold ltOf at *; rw [cmp_lt] at *; exact bl_trans h1 h2
  ntrans x y z h1 h2 := by
    unfold ltOf at *
    rw [cmp_lt] at *
    rcases bl_cases x.1.ky z.1.ky with q | q | q
    · rcases bl_cases x.1.ky y.1.ky with p | p | p
      · rw [h1] at p; cases p
      · rw [← p, q] at h2; cases h2
      · have := bl_trans p q; rw [h2] at this; cases this
    · rw [q]; exact bl_irrefl _
    · exact bl_asymm q
set_option maxRecDepth 100000 in
set_option maxHeartbeats 400000 in
theorem insertE_none (A : Option Addr) (c : Nat) (f : Value) (w : World) :
    Calls Tryz.prog 135 #[.slice A 0 c, .int .i64 0, .int .i64 0, f] w fun e w' => e = .returned (.tuple #[]) ∧ w' = w := by
  go_enter Tryz.func135, Tryz.ntmps135
  go_wp2
  go_loop [8, 9] (fun i _ => i = .int .i64 1) (fun _ _ => 0)
  case atStart => rfl
  case round =>
    subst hrel
    go_wp2
    go_end0
    exact ⟨rfl, rfl⟩
set_option maxRecDepth 100000 in
set_option maxHeartbeats 400000 in
theorem pdqE_none (A : Option Addr) (c : Nat) (k : Int) (f : Value) (w : World) :
    Calls Tryz.prog 93 #[.slice A 0 c, .int .i64 0, .int .i64 0, .int .i64 k, f] w fun e w' => e = .returned (.tuple #[]) ∧ w' = w := by
  go_enter Tryz.func93, Tryz.ntmps93
  go_wp2
  go_loop [1, 2, 12] (fun a b _ => a = .int .i64 0 ∧ b = .int .i64 0) (fun _ _ _ => 0)
  case atStart => exact ⟨rfl, rfl⟩
  case round =>
    obtain ⟨rfl, rfl⟩ := hrel
    go_wp2_with fail
    with_reducible refine (insertE_none A c f _).mono ?_
    rintro e w' ⟨rfl, rfl⟩
    go_wp2
    (try simp only [Exit.inBlock, Exit.then]); refine bodyPost_ret (results_none rfl _ _ _) rfl ?_
    exact ⟨rfl, rfl⟩
set_option maxRecDepth 100000 in
set_option maxHeartbeats 400000 in
theorem sortE_none (A : Option Addr) (c : Nat) (f : Value) (w : World) :
    Calls Tryz.prog 54 #[.slice A 0 c, f] w fun e w' => e = .returned (.tuple #[]) ∧ w' = w := by
  go_enter Tryz.func54, Tryz.ntmps54
  go_wp2_with fail
  with_reducible refine (len_0 _).mono ?_
  rintro e w' ⟨⟨k, rfl⟩, rfl⟩
  go_wp2_with fail
  with_reducible refine (pdqE_none A c k f _).mono ?_
  rintro e w' ⟨rfl, rfl⟩
  go_wp2
  go_end0
  exact ⟨rfl, rfl⟩
/-- what is known behind a sort of a row of the call's own -/
def SortedE (v : Value) (hs : List (En × Hd)) (base : Nat) (w w' : World) : Prop :=
  ∃ hs' : List (En × Hd), hs'.Perm hs ∧ hs'.Pairwise (fun a b => Op.bytesLess b.1.ky a.1.ky = false) ∧ KH kEn w' base 74 v hs' ∧ Below base w w' ∧ w.heap.size ≤ w'.heap.size ∧ ∀ k, k < w.heap.size → v.ownBlock ≠ some k → w'.heap[k]? = w.heap[k]?
theorem sortE_own (v : Value) (hs : List (En × Hd)) (base : Nat) (w : World) (h : KH kEn w base 74 v hs) (h12 : hs.length ≤ 12) :
    Calls Tryz.prog 54 #[v, .func (.func 55) #[] #[]] w fun e w' => e = .returned (.tuple #[]) ∧ SortedE v hs base w w' := by
  rcases Nat.eq_zero_or_pos hs.length with h0 | h0
  · have hl : hs = [] := List.eq_nil_of_length_eq_zero h0
    subst hl
    obtain ⟨A, c, rfl, _⟩ := h.own.new
    refine (sortE_none A c _ w).mono ?_
    rintro e w' ⟨rfl, rfl⟩
    exact ⟨rfl, [], List.Perm.refl _, List.Pairwise.nil, h, Below.refl _ _, Nat.le_refl _, fun _ _ _ => rfl⟩
  · obtain ⟨g, cap, hv, hg, hH⟩ := h.holds h0
    have eg : ∀ args w, (callFunc 55 args).run Tryz.prog w = .ok (.enter 55 args) w := enters_of Tryz.func55 (by kernel_rfl) rfl
    have hcmp : CmpLays Tryz.prog 55 #[] kEn.cs 4 (fun x y => Lib.compareBytes x.1.ky y.1.ky) g 0 hs.toArray.size w := fun _ _ _ _ x y => cmpE_any x y _
    have hcon := AnyQ.slices_SortFunc_small_sorted Tryz.lay_SortFunc_Entry 4 Tryz.isAgg74 Tryz.sizeOf74 kEn.cs (fun _ => rfl) (fun x v hv => kEn.one _ _ v hv) (fun x y => Lib.compareBytes x.1.ky y.1.ky) 55 #[] swoE g 0 cap hs.toArray w eg hcmp hH hg (by simpa using h12) len_any
    change Calls Tryz.prog 54 _ _ _ at hcon
    have hv' : v = .slice (some ⟨g, 0, none⟩) hs.length cap := by rw [hv]; simp
    rw [← hv] at hcon
    refine hcon.mono ?_
    rintro e w' ⟨rfl, d', n, os, hp, hS, rfl⟩
    obtain ⟨p1, _, p3⟩ := hp
    have hsz : d'.size = hs.length := by simpa using p1
    have hperm : d'.toList.Perm hs := by
      have e1 : (d'.extract 0 hs.toArray.size).toList = d'.toList := by rw [Array.extract_eq_self_of_le (by simp [hsz])]
      have e2 : (hs.toArray.extract 0 hs.toArray.size).toList = hs := by rw [Array.extract_eq_self_of_le (by simp)]
      rw [e1, e2] at p3
      exact p3
    obtain ⟨r1, r0, r2, r3⟩ := h.resort hv' d' hperm n os
    refine ⟨rfl, d'.toList, hperm, ?_, r1, r0, r2, r3⟩
    rw [List.pairwise_iff_getElem]
    intro i j hi hj hij
    simp only [Array.length_toList] at hi hj
    have := hS i j (Nat.zero_le _) hij (by simp; omega)
    unfold ltOf at this
    rw [cmp_lt, getElem!_pos d' i hi, getElem!_pos d' j hj] at this
    simpa using this
end Go.Proofs.YtdbdigcpibmgjaaGreatDoor
