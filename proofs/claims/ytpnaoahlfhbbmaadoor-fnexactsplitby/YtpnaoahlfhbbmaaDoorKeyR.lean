/- Plain: all sets of six columns in their order. -/
import Derived.Test.YtpnaoahlfhbbmaaDoorColP
namespace Go.Proofs.YtpnaoahlfhbbmaaDoor

/-- All sets of six columns, in their order. -/
def L64 : List Nat := [0, 1, 2, 4, 8, 16, 32, 3, 5, 9, 17, 33, 6, 10, 18, 34, 12, 20, 36, 24, 40, 48, 7, 11, 19, 35, 13, 21, 37, 25, 41, 49, 14, 22, 38, 26, 42, 50, 28, 44, 52, 56, 15, 23, 39, 27, 43, 51, 29, 45, 53, 57, 30, 46, 54, 58, 60, 31, 47, 55, 59, 61, 62, 63]

end Go.Proofs.YtpnaoahlfhbbmaaDoor
