// Package rules_test holds the whole program against the document's rules that are of no one layer.
package rules_test

import (
	"testing"

	"spoor/api"
)

func TestLimitsAreTheDocuments(t *testing.T) {
	for _, c := range []struct {
		name      string
		got, want uint64
	}{
		{"MaxCount", api.MaxCount, 1 << 40},
		{"MaxNums", api.MaxNums, 1 << 4},
		{"MaxErrno", api.MaxErrno, 15},
		{"MaxCuts", api.MaxCuts, 1 << 12},
		{"MaxEvents", api.MaxEvents, 1 << 10},
		{"MaxIvls", api.MaxIvls, 1 << 10},
		{"MaxTotal", api.MaxTotal, 1 << 10},
		{"MaxRoutes", api.MaxRoutes, 1 << 8},
		{"MaxLinks", api.MaxLinks, 1 << 5},
		{"MaxRouters", api.MaxRouters, 1 << 6},
		{"MaxId", api.MaxId, 1 << 20},
		{"MaxIface", api.MaxIface, 1 << 16},
		{"MaxSeq", api.MaxSeq, 1 << 40},
		{"MaxBody", api.MaxBody, 64},
		{"Magic", api.Magic, 0xf5},
		{"MaxPrefixes", api.MaxPrefixes, 1 << 12},
		{"MaxSpans", api.MaxSpans, 1 << 10},
		{"PageData", api.PageData, 111},
		{"MaxPages", api.MaxPages, 1 << 7},
		{"MaxSegs", api.MaxSegs, 8},
		{"MaxMany", api.MaxMany, 1 << 20},
		{"MaxTag", api.MaxTag, 1 << 62},
		{"SectorSize", api.SectorSize, 128},
		{"MaxSectors", api.MaxSectors, 1 << 10},
		{"MaxCache", api.MaxCache, 1 << 12},
		{"MaxFrame", api.MaxFrame, 1 << 12},
		{"MaxRow", api.MaxRow, 1 << 12},
		{"MaxText", api.MaxText, 1 << 15},
		{"MaxZeros", api.MaxZeros, 1 << 30},
		{"MaxTime", api.MaxTime, 1 << 40},
	} {
		if c.got != c.want {
			t.Errorf("%s is %d, not %d", c.name, c.got, c.want)
		}
	}
}

func TestErrorsAreTheDocuments(t *testing.T) {
	for want, got := range []api.Errno{
		api.OK, api.ErrRange, api.ErrForm, api.ErrNone, api.ErrTwice, api.ErrShort, api.ErrSum, api.ErrCode,
		api.ErrFull, api.ErrPower, api.ErrState, api.ErrLong, api.ErrSeq, api.ErrTime, api.ErrRouter, api.ErrExpired,
	} {
		if got != api.Errno(want) {
			t.Errorf("error %d has the number %d", want, got)
		}
	}
}
