/- The statements on eviction: its calls in letters; what Run tells. -/
import Derived.Test.YtekbgopdeancpaaGreatDoorQSal
import Derived.Test.YtekbgopdeancpaaGreatDoorGSB
import Derived.Test.YtekbgopdeancpaaGreatDoorGVC
import Derived.Test.YtekbgopdeancpaaGreatDoorQRcm
import Derived.Test.YtekbgopdeancpaaGreatDoorGA
import Derived.Test.YtekbgopdeancpaaGreatDoorGVA
namespace Go.Proofs.YtekbgopdeancpaaGreatDoor
open Go.RowKit
theorem picked_k (n : Int) (m : Int) (a : Nat) (w : World) (h0 : -9223372036854775808 ≤ n) (h1 : n ≤ 9223372036854775807) (hm : 0 < m) (hm2 : m ≤ 4611686018427387904) (ha : pk n m = a) :
    Calls Tryz.prog 29 #[.int .i64 n, .int .i64 m] w fun e w' => e = .returned (.int .i64 (a : Int)) ∧ Below w.heap.size w w' :=
  (picked_nat n m a w h0 h1 hm hm2 ha).mono fun _ _ ⟨h1, h2⟩ => ⟨h1, by rw [← h2]; exact Below.refl _ _⟩
/-- what Run hands back, in letters -/
def RNl (E : Int) (L : List Bl) (M : List En) (r t : Int) (G : List (List UInt8)) (w : World) (e : Ending) (w' : World) : Prop :=
  ∃ A c B d P f, e = .returned (.tuple #[.agg #[.slice A L.length c, .slice B M.length d, .int .i64 r, .int .i64 t], .slice P G.length f, .int .i64 E]) ∧ KNew kBl w' w.heap.size A L.length c L ∧ KNew kEn w' w.heap.size B M.length d M ∧ Rd w' 1 P G.length f (G.map sv) ∧ (P = none → f = 0) ∧ Below w.heap.size w w'
theorem run_at {W : World} {A B : Option Addr} {n c m k : Nat} {L L2 : List Bl} {M M2 : List En} {r t r2 t2 E : Int} {G : List (List UInt8)} {K : Nat} (h : StA W A B n c m k ⟨L, M, r, t⟩) (hK : K ≤ 4000) (hX : sRun ⟨L, M, r, t⟩ (K : Int) = (E, ⟨L2, M2, r2, t2⟩, G)) :
    Calls Tryz.prog 19 #[.agg #[.slice A n c, .slice B m k, .int .i64 r, .int .i64 t], .int .i64 (K : Int)] W (RNl E L2 M2 r2 t2 G W) := by
  have := lRun_any (more := (K : Int)) h (i64_wf (by omega) (by omega))
  rw [hX] at this
  exact this
/-- what Clean hands back, in letters -/
def CLl (E : Int) (L : List Bl) (M : List En) (r t : Int) (z : Int) (w : World) (e : Ending) (w' : World) : Prop :=
  ∃ A c B d, e = .returned (.tuple #[.agg #[.slice A L.length c, .slice B M.length d, .int .i64 r, .int .i64 t], .int .i64 z, .int .i64 E]) ∧ KNew kBl w' w.heap.size A L.length c L ∧ KNew kEn w' w.heap.size B M.length d M ∧ Below w.heap.size w w'
theorem clean_at {W : World} {A B : Option Addr} {n c m k : Nat} {L L2 : List Bl} {M M2 : List En} {r t r2 t2 E z : Int} (h : StA W A B n c m k ⟨L, M, r, t⟩) (hX : sCleaned ⟨L, M, r, t⟩ = (E, ⟨L2, M2, r2, t2⟩, z)) :
    Calls Tryz.prog 16 #[.agg #[.slice A n c, .slice B m k, .int .i64 r, .int .i64 t]] W (CLl E L2 M2 r2 t2 z W) := by
  have := lClean_any h
  rw [hX] at this
  exact this
theorem chk_at {W : World} {A B : Option Addr} {n c m k : Nat} {L : List Bl} {M : List En} {r t : Int} (h : StA W A B n c m k ⟨L, M, r, t⟩) (hok : (⟨L, M, r, t⟩ : Sto).ok) :
    Calls Tryz.prog 27 #[.agg #[.slice A n c, .slice B m k, .int .i64 r, .int .i64 t]] W fun e w' => e = .returned (.int .i64 0) ∧ Below W.heap.size W w' := by
  have := lCheck_any h
  rw [sErr_zero.2 hok] at this
  exact this
/-- either there is room behind it, or all that is left is held -/
theorem run_err {s x : Sto} {E : Int} {G : List (List UInt8)} (h : s.ok) {more : Int} (h0 : 0 ≤ more) (h4 : more ≤ 4000) (hr : sRun s more = (E, x, G)) : E = 0 ∨ (E = 10 ∧ x = sNil ∧ G = []) := by
  rcases run_ways h h0 h4 with ⟨e, _⟩ | ⟨_, _, e | ⟨g, e, _⟩⟩
  · rw [e] at hr; simp only [Prod.mk.injEq] at hr; exact .inl hr.1.symm
  · rw [e] at hr; simp only [Prod.mk.injEq] at hr; exact .inr ⟨hr.1.symm, hr.2.1.symm, hr.2.2.symm⟩
  · rw [e] at hr; simp only [Prod.mk.injEq] at hr; exact .inl hr.1.symm
theorem run_ok {s x : Sto} {G : List (List UInt8)} (h : s.ok) {more : Int} (h0 : 0 ≤ more) (h4 : more ≤ 4000) (hr : sRun s more = (0, x, G)) : x.ok := (run_room h h0 h4 hr).1
theorem run_few {s x : Sto} {E : Int} {G : List (List UInt8)} (h : s.ok) {more : Int} (h0 : 0 ≤ more) (h4 : more ≤ 4000) (hr : sRun s more = (E, x, G)) : x.bs.length ≤ 24 ∧ x.es.length ≤ 10 ∧ G.length ≤ 10 := by
  rcases run_err h h0 h4 hr with rfl | ⟨rfl, rfl, rfl⟩
  · obtain ⟨h1, _, h3⟩ := run_room h h0 h4 hr
    have h5 := (xsErr_zero.1 h.xe).1
    exact ⟨(bsErr_zero.1 h1.be).1, (xsErr_zero.1 h1.xe).1, by omega⟩
  · exact ⟨by decide, by decide, by simp⟩
end Go.Proofs.YtekbgopdeancpaaGreatDoor
