/- squeeze and spread: every second bit of a row, and back. (A minute.) -/
import Derived.Test.YtcmfkdhadmfgkaaDoorBkW1
namespace Go.Proofs.YtcmfkdhadmfgkaaDoor.Bk
open Go.RowKit Go.Proofs.YtcmfkdhadmfgkaaDoor.Ba Go.Proofs.YtcmfkdhadmfgkaaDoor.Si
def sq1 (r : Nat) : Nat := r &&& 21845
def sq2 (r : Nat) : Nat := (r ||| r / 2) &&& 13107
def sq3 (r : Nat) : Nat := (r ||| r / 4) &&& 3855
def sq4 (r : Nat) : Nat := (r ||| r / 16) % 256
def sqN (r : Nat) : Nat := sq4 (sq3 (sq2 (sq1 r)))
/-- Every second bit. -/
def ev (r : Nat) : Nat := r % 2 + 2 * (r / 4 % 2) + 4 * (r / 16 % 2) + 8 * (r / 64 % 2) + 16 * (r / 256 % 2) + 32 * (r / 1024 % 2) + 64 * (r / 4096 % 2) + 128 * (r / 16384 % 2)
theorem sq_fin : ∀ h : Fin 256, ∀ l : Fin 256, sqN (256 * h.val + l.val) = ev (256 * h.val + l.val) := by decide +kernel
def sp1 (b : Nat) : Nat := (b ||| b * 16 % 65536) &&& 3855
def sp2 (b : Nat) : Nat := (b ||| b * 4 % 65536) &&& 13107
def sp3 (b : Nat) : Nat := (b ||| b * 2 % 65536) &&& 21845
def spN (b : Nat) : Nat := sp3 (sp2 (sp1 b))
def od (b : Nat) : Nat := b % 2 + 4 * (b / 2 % 2) + 16 * (b / 4 % 2) + 64 * (b / 8 % 2) + 256 * (b / 16 % 2) + 1024 * (b / 32 % 2) + 4096 * (b / 64 % 2) + 16384 * (b / 128 % 2)
theorem sp_fin : ∀ b : Fin 256, spN b.val = od b.val := by decide +kernel
theorem sq_ev (r : Nat) (h : r < 65536) : sqN r = ev r := by
  have := sq_fin ⟨r / 256, by omega⟩ ⟨r % 256, by omega⟩
  dsimp only at this
  rwa [show 256 * (r / 256) + r % 256 = r by omega] at this
theorem squeeze_any (r : Nat) (h : r < 65536) (w : World) :
    Calls Tryd.prog 75 #[.int .u16 r] w fun e w' => e = .returned (.int .u8 (ev r)) ∧ w = w' := by
  rw [← sq_ev r h]
  have m1 : r &&& 21845 ≤ r := Nat.and_le_left
  have a1 : bits .and .u16 (r : Int) 21845 = ((sq1 r : Nat) : Int) := u16_and_nat r 21845 h (by decide)
  have l1 : sq1 r < 65536 := by unfold sq1; omega
  have hs : sqN r = sq4 (sq3 (sq2 (sq1 r))) := rfl
  rw [hs]
  clear hs m1
  generalize sq1 r = r1 at *
  have o2 : bits .or .u16 (r1 : Int) ((r1 : Int) / 2) = ((r1 ||| r1 / 2 : Nat) : Int) := by
    have := u16_or_nat r1 (r1 / 2) l1 (by omega)
    rw [← this]; rfl
  have k2 : r1 ||| r1 / 2 < 65536 := Nat.or_lt_two_pow (n := 16) l1 (by omega)
  have a2 : bits .and .u16 ((r1 ||| r1 / 2 : Nat) : Int) 13107 = ((sq2 r1 : Nat) : Int) := u16_and_nat _ 13107 k2 (by decide)
  have l2 : sq2 r1 < 65536 := by unfold sq2; exact Nat.lt_of_le_of_lt Nat.and_le_left k2
  generalize r1 ||| r1 / 2 = t1 at *
  generalize sq2 r1 = r2 at *
  have o3 : bits .or .u16 (r2 : Int) ((r2 : Int) / 4) = ((r2 ||| r2 / 4 : Nat) : Int) := by
    have := u16_or_nat r2 (r2 / 4) l2 (by omega)
    rw [← this]; rfl
  have k3 : r2 ||| r2 / 4 < 65536 := Nat.or_lt_two_pow (n := 16) l2 (by omega)
  have a3 : bits .and .u16 ((r2 ||| r2 / 4 : Nat) : Int) 3855 = ((sq3 r2 : Nat) : Int) := u16_and_nat _ 3855 k3 (by decide)
  have l3 : sq3 r2 < 65536 := by unfold sq3; exact Nat.lt_of_le_of_lt Nat.and_le_left k3
  generalize r2 ||| r2 / 4 = t2 at *
  generalize sq3 r2 = r3 at *
  have o4 : bits .or .u16 (r3 : Int) ((r3 : Int) / 16) = ((r3 ||| r3 / 16 : Nat) : Int) := by
    have := u16_or_nat r3 (r3 / 16) l3 (by omega)
    rw [← this]; rfl
  have HQ := Lib.hid (show sq4 r3 = (r3 ||| r3 / 16) % 256 from rfl)
  generalize r3 ||| r3 / 16 = t3 at *
  go_enter Tryd.func75, Tryd.ntmps75
  go_wp2
  go_ret
  exact ⟨ret_int (by rw [HQ.out]; first | rfl | simp), rfl⟩
end Go.Proofs.YtcmfkdhadmfgkaaDoor.Bk
